/-
  The walks of chapter 9's laws: WalkTo, ReadAt, NamesAt.
-/
import Derived.Test.YtojebghaegimbaaDoorDraw14
import Derived.Test.YtojebghaegimbaaDoorImpl7
import Derived.Test.YtojebghaegimbaaDoorImpl9
namespace Go.Proofs.YtojebghaegimbaaDoor
open Go.RowKit
set_option linter.unusedVariables false
theorem walk_has {l : List Pc} : ∀ {ps : List ByteArray} {p : Int}, (walkB l p ps).2 = true → getO l (walkB l p ps).1 = true ∧ getO l p = true
  | [], p, h => by
    rw [walkB] at h ⊢
    cases hg : getO l p
    · rw [hg] at h; cases h
    · rw [if_pos rfl]; exact ⟨hg, rfl⟩
  | nm :: r, p, h => by
    rw [walkB] at h ⊢
    cases hc : childB l p nm with
    | none => rw [hc] at h; cases h
    | some c =>
      rw [hc] at h
      refine ⟨(walk_has h).1, ?_⟩
      cases hg : getO l p
      · unfold childB at hc
        rw [foldL_no (empty_none hg).2] at hc
        cases hc
      · rfl
end Go.Proofs.YtojebghaegimbaaDoor
