/-
  Chapter 10, plain: a text and the folders on the way to it, put from below; that this is what the model's writes and drops make.
-/
import Derived.Test.YtojebghaegimbaaGreatDoorMath10
namespace Go.Proofs.YtojebghaegimbaaGreatDoor
open Go.RowKit
set_option linter.unusedVariables false
/-! ### stores and their members -/
/-! ### the way of a path -/
/-! ### a text, and the folders on the way to it -/
/-! ### drops -/
theorem findE_mem : ∀ {l : List Ent} {nm : ByteArray} {c : Int}, findE l nm = some c → (nm, c) ∈ l
  | [], nm, c, h => by cases h
  | q :: l, nm, c, h => by
    rw [findE] at h
    split at h
    · rename_i h1
      rw [str_beq, decide_eq_true_eq] at h1
      simp only [Option.some.injEq] at h
      rw [← h1, ← h]
      exact List.mem_cons_self ..
    · exact List.mem_cons_of_mem _ (findE_mem h)
/-- A step of a walk that goes on. -/
theorem walk_step {l : List Pc} (hs : storeB l = true) {p : Int} {nm : ByteArray} {r : List ByteArray} (h : (walkB l p (nm :: r)).2 = true) :
    isFold (getT l p) = true ∧ entsAt l p = foldL (getT l p) ∧ (nm, lastE nm (-1) (entsAt l p)) ∈ entsAt l p ∧ 0 ≤ lastE nm (-1) (entsAt l p) ∧ (walkB l (lastE nm (-1) (entsAt l p)) r).2 = true := by
  rw [walkB] at h
  cases hc : childB l p nm with
  | none => rw [hc] at h; cases h
  | some c =>
    rw [hc] at h
    have hf : isFold (getT l p) = true := by
      cases hf : isFold (getT l p)
      · unfold childB at hc; rw [foldL_no hf] at hc; cases hc
      · rfl
    have h0 := (get_right hs (fold_get hf)).2.2
    have e : entsAt l p = foldL (getT l p) := by unfold entsAt; rw [if_pos h0]
    have hE : entsB (foldL (getT l p)) = true := fold_ents
    have hm := findE_mem hc
    have hl : lastE nm (-1) (foldL (getT l p)) = c := lastE_in (ascN_of hE) hm
    have hp := (ents_ok hE _ hm).2
    unfold isPr at hp
    rw [decide_eq_true_eq] at hp
    rw [e, hl]
    exact ⟨hf, rfl, hm, hp.1, h⟩
end Go.Proofs.YtojebghaegimbaaGreatDoor
