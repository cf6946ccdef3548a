/-
  The walks of chapter 9's laws: WalkTo, ReadAt, NamesAt.
-/
import Derived.Test.YtojebghaegimbaaGreatDoorDraw14
import Derived.Test.YtojebghaegimbaaGreatDoorImpl7
import Derived.Test.YtojebghaegimbaaGreatDoorImpl9
namespace Go.Proofs.YtojebghaegimbaaGreatDoor
open Go.RowKit
set_option linter.unusedVariables false
theorem walk_has {l : List Pc} : ∀ {ps : List ByteArray} {p : Int}, (walkB l p ps).2 = true → getO l (walkB l p ps).1 = true ∧ getO l p = true
  | [], p, h => by
    rw [walkB] at h ⊢
    cases hg : getO l p
    · rw [hg] at h; cases h
    · rw [if_pos rfl]; exact ⟨hg, rfl⟩
  | nm :: r, p, h => by
    rw [walkB] at h ⊢
    cases hc : childB l p nm with
    | none => rw [hc] at h; cases h
    | some c =>
      rw [hc] at h
      refine ⟨(walk_has h).1, ?_⟩
      cases hg : getO l p
      · unfold childB at hc
        rw [foldL_no (empty_none hg).2] at hc
        cases hc
      · rfl
theorem file_back {t : ByteArray} (h : isFile t = true) : fileB (fileT t) = t := by
  have h0 := h
  rw [fileT_yes h]
  unfold isFile at h
  rw [Bool.and_eq_true] at h
  rw [fileB_yes h.2]
  have h1 := h.1
  cases hl : t.data.toList with
  | nil => rw [hl] at h1; cases h1
  | cons a r =>
    rw [hl] at h1
    obtain rfl : a = 102 := by simpa using h1
    apply data_inj
    have e : t.size = r.length + 1 := by rw [← len_eq, hl]; rfl
    simp [hl, e]
end Go.Proofs.YtojebghaegimbaaGreatDoor
