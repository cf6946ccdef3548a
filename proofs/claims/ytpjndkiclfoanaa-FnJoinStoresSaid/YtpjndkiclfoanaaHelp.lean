/-
  Contracts of the laws' helpers on lists of numbers.
-/
import Derived.Test.YtpjndkiclfoanaaMem
import Derived.Test.YtpjndkiclfoanaaWords
namespace Go.Proofs.Ytpjndkiclfoanaa
open Go.RowKit
set_option linter.unusedVariables false
/-- A new row of numbers is handed back. -/
def NewI (l : List Int) (w : World) (e : Ending) (w' : World) : Prop := ∃ v, e = .returned v ∧ OwnI w' w.heap.size v l ∧ Below w.heap.size w w'
theorem fillI {l : List Int} {k : Nat} (h : k < l.length) : (l.take k ++ List.replicate (l.length - k) 0).set k (nthI l k) = l.take (k + 1) ++ List.replicate (l.length - (k + 1)) 0 := by
  rw [List.set_append, if_neg (by simp; omega), List.length_take, Nat.min_eq_left (by omega), Nat.sub_self, show l.length - k = (l.length - (k + 1)) + 1 by omega, List.replicate_succ, List.set_cons_zero, nthI_get h, List.take_succ_eq_append_getElem h, List.append_assoc]
  rfl
/-- A bool is handed back; nothing but draws. -/
def QuietB (b : Bool) (w : World) (e : Ending) (w' : World) : Prop := e = .returned (.bool b) ∧ ∃ m, w' = w.drewN m
theorem QuietB.below {b : Bool} {w w' : World} {e : Ending} (h : QuietB b w e w') : Below w.heap.size w w' := by obtain ⟨_, m, rfl⟩ := h; exact below_drewN (Below.refl _ _) m
theorem take_eq_step {l l' : List Int} {k : Nat} (h : k < l.length) (h' : k < l'.length) (he : l.take k = l'.take k) (hx : nthI l k = nthI l' k) : l.take (k + 1) = l'.take (k + 1) := by
  rw [List.take_succ_eq_append_getElem h, List.take_succ_eq_append_getElem h', he, ← nthI_get h, ← nthI_get h', hx]
theorem ne_at {l l' : List Int} {k : Nat} (hx : nthI l k ≠ nthI l' k) : l ≠ l' := fun h => hx (by rw [h])
end Go.Proofs.Ytpjndkiclfoanaa
