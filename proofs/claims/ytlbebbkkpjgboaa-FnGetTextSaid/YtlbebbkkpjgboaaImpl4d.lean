/-
  Contracts of chapter 4's program: putting, getting and joining.
-/
import Derived.Test.YtlbebbkkpjgboaaImpl4c
import Derived.Test.YtlbebbkkpjgboaaPlain4b
namespace Go.Proofs.Ytlbebbkkpjgboaa
open Go.RowKit
set_option linter.unusedVariables false
def NewPBAt (l : List Pc) (b : Bool) (base : Nat) (w : World) (e : Ending) (w' : World) : Prop := ∃ v, e = .returned (.tuple #[v, .bool b]) ∧ OwnP w' base v l ∧ Below base w w'
theorem newPBAt_of {l l' : List Pc} {b b' : Bool} {base : Nat} {w w' : World} {e : Ending} (h : (l, b) = (l', b')) (hx : NewPBAt l' b' base w e w') : NewPBAt l b base w e w' := by
  simp only [Prod.mk.injEq] at h; rw [h.1, h.2]; exact hx
end Go.Proofs.Ytlbebbkkpjgboaa
