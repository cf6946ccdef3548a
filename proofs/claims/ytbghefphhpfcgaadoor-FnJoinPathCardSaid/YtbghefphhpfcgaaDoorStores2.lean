/-
  Contracts of chapter 4's model: getting and putting.
-/
import Derived.Test.YtbghefphhpfcgaaDoorStores
import Derived.Deep.RegionLaw
import Derived.Test.YtbghefphhpfcgaaDoorMem
namespace Go.Proofs.YtbghefphhpfcgaaDoor
open Go.RowKit
set_option linter.unusedVariables false
def gotT (l : List Pc) (p : Int) : ByteArray := if storeB l = true then getT l p else ByteArray.empty
def gotO (l : List Pc) (p : Int) : Bool := storeB l && getO l p
theorem got_no {l : List Pc} (p : Int) (h : storeB l = false) : gotT l p = ByteArray.empty ∧ gotO l p = false := by unfold gotT gotO; rw [h]; exact ⟨rfl, rfl⟩
theorem got_yes {l : List Pc} (p : Int) (h : storeB l = true) : gotT l p = getT l p ∧ gotO l p = getO l p := by unfold gotT gotO; rw [h]; exact ⟨rfl, rfl⟩
/-- A text and whether there is one; nothing but draws. -/
def QuietSB (s : ByteArray) (b : Bool) (w : World) (e : Ending) (w' : World) : Prop := e = .returned (.tuple #[.string s, .bool b]) ∧ ∃ m, w' = w.drewN m
theorem quietSB_of {s t : ByteArray} {b c : Bool} {w w' : World} (h : s = t) (h' : b = c) (hq : ∃ m, w' = w.drewN m) : QuietSB s b w (.returned (.tuple #[.string t, .bool c])) w' := by subst h; subst h'; exact ⟨rfl, hq⟩
theorem Lst.quiet {α : Type} {g : α → List Value} {w w' : World} {B : Nat} {x : Option Addr} {n cap : Nat} {l : List α} (h : Lst g w B x n cap l) (hq : ∃ m, w' = w.drewN m) : Lst g w' B x n cap l := by obtain ⟨m, rfl⟩ := hq; exact h.drewN m
theorem below_quiet {B : Nat} {a w w' : World} (h : Below B a w) (hq : ∃ m, w' = w.drewN m) : Below B a w' := by obtain ⟨m, rfl⟩ := hq; exact below_drewN h m
theorem size_quiet {w w' : World} (hq : ∃ m, w' = w.drewN m) : w'.heap.size = w.heap.size := by obtain ⟨m, rfl⟩ := hq; rfl
end Go.Proofs.YtbghefphhpfcgaaDoor
/-
  Contracts of chapter 4's model: joined stores; the empty folder.
-/
namespace Go.Proofs.YtbghefphhpfcgaaDoor
open Go.RowKit
set_option linter.unusedVariables false
/-- All texts of b put into out, one after the other. -/
def joinGo : List Pc → List Pc → Option (List Pc)
  | out, [] => some out
  | out, q :: r => if (putB out q.2).2.2 = true then joinGo (putB out q.2).1 r else none
def joinSL (a b : List Pc) : List Pc := if (storeB a && storeB b) = true then (joinGo a b).getD [] else []
def joinSO (a b : List Pc) : Bool := storeB a && storeB b && (joinGo a b).isSome
theorem joinS_no {a b : List Pc} (h : (storeB a && storeB b) = false) : joinSL a b = [] ∧ joinSO a b = false := by unfold joinSL joinSO; rw [h]; exact ⟨rfl, rfl⟩
theorem joinS_none {a b : List Pc} (h : joinGo a b = none) : joinSL a b = [] ∧ joinSO a b = false := by unfold joinSL joinSO; rw [h]; simp
theorem joinS_some {a b l : List Pc} (h : (storeB a && storeB b) = true) (h' : joinGo a b = some l) : joinSL a b = l ∧ joinSO a b = true := by unfold joinSL joinSO; rw [h, h']; exact ⟨rfl, rfl⟩
theorem dropP_cons {l : List Pc} {k : Nat} (h : k < l.length) : l.drop k = nthP l k :: l.drop (k + 1) := by rw [List.drop_eq_getElem_cons h, nthP_get h]
theorem joinGo_step {out b : List Pc} {k : Nat} (h : k < b.length) (ho : (putB out (nthP b k).2).2.2 = true) : joinGo out (b.drop k) = joinGo (putB out (nthP b k).2).1 (b.drop (k + 1)) := by rw [dropP_cons h, joinGo, if_pos ho]
theorem joinGo_stop {out b : List Pc} {k : Nat} (h : k < b.length) (ho : (putB out (nthP b k).2).2.2 = false) : joinGo out (b.drop k) = none := by rw [dropP_cons h, joinGo, if_neg (by rw [ho]; simp)]
/-- Texts of at most m bytes. -/
def Short (m : Nat) (l : List Pc) : Prop := ∀ p ∈ l, p.2.size ≤ m
theorem short_nth {m : Nat} {l : List Pc} (h : Short m l) (k : Nat) : (nthP l k).2.size ≤ m := by
  unfold nthP
  rw [List.getD_eq_getElem?_getD]
  cases hk : l[k]? with
  | none => simp
  | some p => exact h p (List.mem_of_getElem? hk)
theorem store_short {l : List Pc} (h : storeB l = true) : Short 60 l := fun p hp => by
  have h1 := (okPc_iff.1 ((storeB_iff.1 h).2.1 p hp)).1
  rcases Nat.lt_or_ge 60 p.2.size with h2 | h2
  · rw [textV_long _ h2] at h1; cases h1
  · exact h2
theorem put_short {m : Nat} {l : List Pc} {t : ByteArray} (h : Short m l) (ht : t.size ≤ m) : Short m (putB l t).1 := by
  unfold putB putL
  split
  · intro p hp; simp at hp
  split
  · exact h
  split
  · split <;> exact h
  split
  · exact h
  · intro p hp
    rcases List.mem_append.1 hp with h1 | h1
    · exact h p (List.mem_of_mem_take h1)
    · rcases List.mem_cons.1 h1 with rfl | h1
      · exact ht
      · exact h p (List.mem_of_mem_drop h1)
theorem quiet_trans {w w1 w2 : World} (h : ∃ p, w1 = w.drewN p) (h' : ∃ q, w2 = w1.drewN q) : ∃ m, w2 = w.drewN m := by
  obtain ⟨p, rfl⟩ := h; obtain ⟨q, rfl⟩ := h'; exact ⟨_, by rw [World.drewN_drewN]⟩
theorem OwnL.quiet {α : Type} {g : α → List Value} {e : TypeId} {size : Nat} {w w' : World} {base : Nat} {v : Value} {l : List α} (h : OwnL g e size w base v l) (hq : ∃ m, w' = w.drewN m) : OwnL g e size w' base v l := by obtain ⟨m, rfl⟩ := hq; exact h.drewN m
end Go.Proofs.YtbghefphhpfcgaaDoor
