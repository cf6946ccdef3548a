/-
  Contracts of chapter 4's model: joined stores; the empty folder.
-/
import Derived.Test.YtlbebbkkpjgboaaStores2
namespace Go.Proofs.Ytlbebbkkpjgboaa
open Go.RowKit
set_option linter.unusedVariables false
/-- All texts of b put into out, one after the other. -/
def joinGo : List Pc → List Pc → Option (List Pc)
  | out, [] => some out
  | out, q :: r => if (putB out q.2).2.2 = true then joinGo (putB out q.2).1 r else none
def joinSL (a b : List Pc) : List Pc := if (storeB a && storeB b) = true then (joinGo a b).getD [] else []
def joinSO (a b : List Pc) : Bool := storeB a && storeB b && (joinGo a b).isSome
theorem joinS_no {a b : List Pc} (h : (storeB a && storeB b) = false) : joinSL a b = [] ∧ joinSO a b = false := by unfold joinSL joinSO; rw [h]; exact ⟨rfl, rfl⟩
theorem joinS_none {a b : List Pc} (h : joinGo a b = none) : joinSL a b = [] ∧ joinSO a b = false := by unfold joinSL joinSO; rw [h]; simp
theorem joinS_some {a b l : List Pc} (h : (storeB a && storeB b) = true) (h' : joinGo a b = some l) : joinSL a b = l ∧ joinSO a b = true := by unfold joinSL joinSO; rw [h, h']; exact ⟨rfl, rfl⟩
theorem dropP_cons {l : List Pc} {k : Nat} (h : k < l.length) : l.drop k = nthP l k :: l.drop (k + 1) := by rw [List.drop_eq_getElem_cons h, nthP_get h]
theorem joinGo_step {out b : List Pc} {k : Nat} (h : k < b.length) (ho : (putB out (nthP b k).2).2.2 = true) : joinGo out (b.drop k) = joinGo (putB out (nthP b k).2).1 (b.drop (k + 1)) := by rw [dropP_cons h, joinGo, if_pos ho]
theorem joinGo_stop {out b : List Pc} {k : Nat} (h : k < b.length) (ho : (putB out (nthP b k).2).2.2 = false) : joinGo out (b.drop k) = none := by rw [dropP_cons h, joinGo, if_neg (by rw [ho]; simp)]
/-- Texts of at most m bytes. -/
def Short (m : Nat) (l : List Pc) : Prop := ∀ p ∈ l, p.2.size ≤ m
theorem short_nth {m : Nat} {l : List Pc} (h : Short m l) (k : Nat) : (nthP l k).2.size ≤ m := by
  unfold nthP
  rw [List.getD_eq_getElem?_getD]
  cases hk : l[k]? with
  | none => simp
  | some p => exact h p (List.mem_of_getElem? hk)
theorem store_short {l : List Pc} (h : storeB l = true) : Short 60 l := fun p hp => by
  have h1 := (okPc_iff.1 ((storeB_iff.1 h).2.1 p hp)).1
  rcases Nat.lt_or_ge 60 p.2.size with h2 | h2
  · rw [textV_long _ h2] at h1; cases h1
  · exact h2
theorem put_short {m : Nat} {l : List Pc} {t : ByteArray} (h : Short m l) (ht : t.size ≤ m) : Short m (putB l t).1 := by
  unfold putB putL
  split
  · intro p hp; simp at hp
  split
  · exact h
  split
  · split <;> exact h
  split
  · exact h
  · intro p hp
    rcases List.mem_append.1 hp with h1 | h1
    · exact h p (List.mem_of_mem_take h1)
    · rcases List.mem_cons.1 h1 with rfl | h1
      · exact ht
      · exact h p (List.mem_of_mem_drop h1)
/-- A new row of pieces and a bool. -/
def NewPB (l : List Pc) (b : Bool) (w : World) (e : Ending) (w' : World) : Prop := ∃ v, e = .returned (.tuple #[v, .bool b]) ∧ OwnP w' w.heap.size v l ∧ Below w.heap.size w w'
theorem newPB_of {l l' : List Pc} {b b' : Bool} {w w' : World} {e : Ending} (h : l = l') (h' : b = b') (hx : NewPB l' b' w e w') : NewPB l b w e w' := by rw [h, h']; exact hx
theorem quiet_trans {w w1 w2 : World} (h : ∃ p, w1 = w.drewN p) (h' : ∃ q, w2 = w1.drewN q) : ∃ m, w2 = w.drewN m := by
  obtain ⟨p, rfl⟩ := h; obtain ⟨q, rfl⟩ := h'; exact ⟨_, by rw [World.drewN_drewN]⟩
theorem OwnL.quiet {α : Type} {g : α → List Value} {e : TypeId} {size : Nat} {w w' : World} {base : Nat} {v : Value} {l : List α} (h : OwnL g e size w base v l) (hq : ∃ m, w' = w.drewN m) : OwnL g e size w' base v l := by obtain ⟨m, rfl⟩ := hq; exact h.drewN m
end Go.Proofs.Ytlbebbkkpjgboaa
