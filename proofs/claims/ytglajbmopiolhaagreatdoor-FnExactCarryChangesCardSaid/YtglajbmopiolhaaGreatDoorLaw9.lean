/-
  The walks of chapter 9's laws: WalkTo, ReadAt, NamesAt.
-/
import Derived.Test.YtglajbmopiolhaaGreatDoorDraw14
import Derived.Test.YtglajbmopiolhaaGreatDoorImpl7
import Derived.Test.YtglajbmopiolhaaGreatDoorImpl9
namespace Go.Proofs.YtglajbmopiolhaaGreatDoor
open Go.RowKit
set_option linter.unusedVariables false
theorem walk_has {l : List Pc} : ∀ {ps : List ByteArray} {p : Int}, (walkB l p ps).2 = true → getO l (walkB l p ps).1 = true ∧ getO l p = true
  | [], p, h => by
    rw [walkB] at h ⊢
    cases hg : getO l p
    · rw [hg] at h; cases h
    · rw [if_pos rfl]; exact ⟨hg, rfl⟩
  | nm :: r, p, h => by
    rw [walkB] at h ⊢
    cases hc : childB l p nm with
    | none => rw [hc] at h; cases h
    | some c =>
      rw [hc] at h
      refine ⟨(walk_has h).1, ?_⟩
      cases hg : getO l p
      · unfold childB at hc
        rw [foldL_no (empty_none hg).2] at hc
        cases hc
      · rfl
theorem walk_not {l : List Pc} : ∀ {ps : List ByteArray} {p : Int}, (walkB l p ps).2 = false → (walkB l p ps).1 = -1
  | [], p, h => by
    rw [walkB] at h ⊢
    split at h
    · cases h
    · rename_i h1; rw [if_neg h1]
  | nm :: r, p, h => by
    rw [walkB] at h ⊢
    cases hc : childB l p nm with
    | none => rfl
    | some c => rw [hc] at h; exact walk_not h
/-- Where a walk leads there is a text; and the root is there. -/
theorem wt_facts (l : List Pc) (root : Int) (path : ByteArray) : ((wtB l root path).2 = true → gotO l (wtB l root path).1 = true ∧ wtB l root ⟨#[47]⟩ = (root, true)) ∧ ((wtB l root path).2 = false → (wtB l root path).1 = -1) := by
  cases hp : isPath path
  · rw [wtB_no (.inl hp)]; exact ⟨(fun h => by cases h), fun _ => rfl⟩
  cases hs : storeB l
  · rw [wtB_no (.inr hs)]; exact ⟨(fun h => by cases h), fun _ => rfl⟩
  rw [wtB_yes hp hs, wtB_yes parts_root.2 hs, parts_root.1]
  refine ⟨fun h => ?_, walk_not⟩
  obtain ⟨h1, h2⟩ := walk_has h
  exact ⟨by unfold gotO; rw [hs, h1]; rfl, by rw [walkB, if_pos h2]⟩
theorem file_back {t : ByteArray} (h : isFile t = true) : fileB (fileT t) = t := by
  have h0 := h
  rw [fileT_yes h]
  unfold isFile at h
  rw [Bool.and_eq_true] at h
  rw [fileB_yes h.2]
  have h1 := h.1
  cases hl : t.data.toList with
  | nil => rw [hl] at h1; cases h1
  | cons a r =>
    rw [hl] at h1
    obtain rfl : a = 102 := by simpa using h1
    apply data_inj
    have e : t.size = r.length + 1 := by rw [← len_eq, hl]; rfl
    simp [hl, e]
theorem rd_facts (l : List Pc) (root : Int) (path : ByteArray) : ((rdB l root path).2 = true → (wtB l root path).2 = true ∧ gotO l (wtB l root path).1 = true ∧ gotT l (wtB l root path).1 = fileB (rdB l root path).1) ∧ ((rdB l root path).2 = false → (rdB l root path).1 = ByteArray.empty) := by
  have hf := wt_facts l root path
  unfold rdB
  cases hb : (wtB l root path).2
  · rw [if_neg (by simp)]; exact ⟨(fun h => by cases h), fun _ => rfl⟩
  · rw [if_pos rfl]
    refine ⟨fun h => ⟨rfl, (hf.1 hb).1, (file_back h).symm⟩, fun h => fileT_no h⟩
end Go.Proofs.YtglajbmopiolhaaGreatDoor
