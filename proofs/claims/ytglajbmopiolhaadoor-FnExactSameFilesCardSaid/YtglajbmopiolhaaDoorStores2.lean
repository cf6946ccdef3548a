/-
  Contracts of chapter 4's model: getting and putting.
-/
import Derived.Test.YtglajbmopiolhaaDoorStores
import Derived.Deep.RegionLaw
import Derived.Test.YtglajbmopiolhaaDoorMem
namespace Go.Proofs.YtglajbmopiolhaaDoor
open Go.RowKit
set_option linter.unusedVariables false
def gotT (l : List Pc) (p : Int) : ByteArray := if storeB l = true then getT l p else ByteArray.empty
def gotO (l : List Pc) (p : Int) : Bool := storeB l && getO l p
theorem got_no {l : List Pc} (p : Int) (h : storeB l = false) : gotT l p = ByteArray.empty ∧ gotO l p = false := by unfold gotT gotO; rw [h]; exact ⟨rfl, rfl⟩
theorem got_yes {l : List Pc} (p : Int) (h : storeB l = true) : gotT l p = getT l p ∧ gotO l p = getO l p := by unfold gotT gotO; rw [h]; exact ⟨rfl, rfl⟩
/-- A text and whether there is one; nothing but draws. -/
def QuietSB (s : ByteArray) (b : Bool) (w : World) (e : Ending) (w' : World) : Prop := e = .returned (.tuple #[.string s, .bool b]) ∧ ∃ m, w' = w.drewN m
theorem quietSB_of {s t : ByteArray} {b c : Bool} {w w' : World} (h : s = t) (h' : b = c) (hq : ∃ m, w' = w.drewN m) : QuietSB s b w (.returned (.tuple #[.string t, .bool c])) w' := by subst h; subst h'; exact ⟨rfl, hq⟩
theorem Lst.quiet {α : Type} {g : α → List Value} {w w' : World} {B : Nat} {x : Option Addr} {n cap : Nat} {l : List α} (h : Lst g w B x n cap l) (hq : ∃ m, w' = w.drewN m) : Lst g w' B x n cap l := by obtain ⟨m, rfl⟩ := hq; exact h.drewN m
theorem below_quiet {B : Nat} {a w w' : World} (h : Below B a w) (hq : ∃ m, w' = w.drewN m) : Below B a w' := by obtain ⟨m, rfl⟩ := hq; exact below_drewN h m
theorem size_quiet {w w' : World} (hq : ∃ m, w' = w.drewN m) : w'.heap.size = w.heap.size := by obtain ⟨m, rfl⟩ := hq; rfl
theorem specGetText_any (x : Option Addr) (n cap : Nat) (l : List Pc) (p : Int) (B : Nat) (w : World) (h : Pcs w B x n cap l) (hz : ∀ k, (nthP l k).2.size ≤ maxLen) : Calls Tryd.prog 23 #[.slice x n cap, .int .i64 p] w (QuietSB (gotT l p) (gotO l p) w) := by
  cases hs : storeB l
  · have HF := Lib.hid (got_no p hs)
    go_enter Tryd.func23, Tryd.ntmps23
    go_wp2_with fail
    refine (specStoreValid_any _ _ _ _ _ _ h hz).mono ?_
    rintro e w1 ⟨rfl, hq⟩
    go_wp2_with fail
    go_ret2
    exact quietSB_of HF.out.1 HF.out.2 hq
  · have HF := Lib.hid (got_yes p hs)
    go_enter Tryd.func23, Tryd.ntmps23
    go_wp2_with fail
    refine (specStoreValid_any _ _ _ _ _ _ h hz).mono ?_
    rintro e w1 ⟨rfl, hq⟩
    have h1 := h.quiet hq
    go_wp2_with fail
    refine (specL4Get_any _ _ _ _ _ _ _ h1).mono ?_
    rintro e w' ⟨rfl, rfl⟩
    go_wp2_with fail
    go_ret2
    exact quietSB_of HF.out.1 HF.out.2 hq
end Go.Proofs.YtglajbmopiolhaaDoor
/-
  Contracts of chapter 4's model: joined stores; the empty folder.
-/
namespace Go.Proofs.YtglajbmopiolhaaDoor
open Go.RowKit
set_option linter.unusedVariables false
/-- Texts of at most m bytes. -/
def Short (m : Nat) (l : List Pc) : Prop := ∀ p ∈ l, p.2.size ≤ m
theorem short_nth {m : Nat} {l : List Pc} (h : Short m l) (k : Nat) : (nthP l k).2.size ≤ m := by
  unfold nthP
  rw [List.getD_eq_getElem?_getD]
  cases hk : l[k]? with
  | none => simp
  | some p => exact h p (List.mem_of_getElem? hk)
theorem store_short {l : List Pc} (h : storeB l = true) : Short 60 l := fun p hp => by
  have h1 := (okPc_iff.1 ((storeB_iff.1 h).2.1 p hp)).1
  rcases Nat.lt_or_ge 60 p.2.size with h2 | h2
  · rw [textV_long _ h2] at h1; cases h1
  · exact h2
theorem OwnL.quiet {α : Type} {g : α → List Value} {e : TypeId} {size : Nat} {w w' : World} {base : Nat} {v : Value} {l : List α} (h : OwnL g e size w base v l) (hq : ∃ m, w' = w.drewN m) : OwnL g e size w' base v l := by obtain ⟨m, rfl⟩ := hq; exact h.drewN m
end Go.Proofs.YtglajbmopiolhaaDoor
