/-
  Contracts of chapter 9's program: walking along a path, reading a file, the names of a folder.
-/
import Derived.Test.YtigegjgkjahhaaaWalks9
import Derived.Test.YtigegjgkjahhaaaFold4
import Derived.Test.YtigegjgkjahhaaaImpl8
namespace Go.Proofs.Ytigegjgkjahhaaa
open Go.RowKit
set_option linter.unusedVariables false
/-! ### a name's print -/
theorem findE_skip {l : List Ent} {nm : ByteArray} : ∀ j, (∀ i, i < j → (nthE l i).1 ≠ nm) → j ≤ l.length → findE l nm = findE (l.drop j) nm
  | 0, _, _ => by rw [List.drop_zero]
  | j + 1, h, hj => by
    rw [findE_skip j (fun i hi => h i (by omega)) (by omega)]
    exact findE_step (by omega) (by rw [str_beq, decide_eq_false (h j (by omega))])
theorem findE_here {l : List Ent} {nm : ByteArray} (h : hereE nm l = true) : atE nm l < l.length ∧ findE l nm = some (nthE l (atE nm l)).2 := by
  unfold hereE at h
  rw [Bool.and_eq_true, decide_eq_true_eq, decide_eq_true_eq] at h
  refine ⟨h.1, ?_⟩
  rw [findE_skip (atE nm l) (fun i hi => lt_ne (atE_before hi)) (atE_le _ _)]
  exact findE_stop h.1 (by rw [str_beq, h.2]; simp)
theorem findE_gone {l : List Ent} {nm : ByteArray} (hs : AscE l) (h : hereE nm l = false) : findE l nm = none := by
  have h1 := lessE_none hs h
  unfold lessE at h1
  have h2 := List.filter_eq_self.1 h1
  rw [findE_skip l.length (fun i hi e => ?_) (Nat.le_refl _)]
  · exact findE_end (Nat.le_refl _)
  · have := h2 (nthE l i) (by rw [nthE_get hi]; exact List.getElem_mem _)
    unfold otherE at this; rw [e] at this; simp at this
/-- The print of a name in the folder of a print, and whether there is one. -/
def stepW (l : List Pc) (p : Int) (nm : ByteArray) : Int × Bool := ((findE (foldL (gotT l p)) nm).getD (-1), (findE (foldL (gotT l p)) nm).isSome)
theorem stepW_none {l : List Pc} {p : Int} {nm : ByteArray} (h : findE (foldL (gotT l p)) nm = none) : stepW l p nm = (-1, false) := by unfold stepW; rw [h]; rfl
theorem stepW_some {l : List Pc} {p c : Int} {nm : ByteArray} (h : findE (foldL (gotT l p)) nm = some c) : stepW l p nm = (c, true) := by unfold stepW; rw [h]; rfl
theorem stepW_fold {l : List Pc} {p : Int} {nm : ByteArray} (h : isFold (gotT l p) = false) : stepW l p nm = (-1, false) := stepW_none (by rw [foldL_no h]; rfl)
def walkG (l : List Pc) : Int → List ByteArray → Int × Bool
  | p, [] => if gotO l p = true then (p, true) else (-1, false)
  | p, nm :: r => if (stepW l p nm).2 = true then walkG l (stepW l p nm).1 r else (-1, false)
theorem walkG_no {l : List Pc} {p : Int} {ps : List ByteArray} {k : Nat} (h : k < ps.length) (hc : (stepW l p (nthS ps k)).2 = false) : walkG l p (ps.drop k) = (-1, false) := by
  rw [List.drop_eq_getElem_cons h, walkG, ← nthS_get h, if_neg (by rw [hc]; simp)]
theorem walkG_go {l : List Pc} {p : Int} {ps : List ByteArray} {k : Nat} (h : k < ps.length) (hc : (stepW l p (nthS ps k)).2 = true) : walkG l p (ps.drop k) = walkG l (stepW l p (nthS ps k)).1 (ps.drop (k + 1)) := by
  rw [List.drop_eq_getElem_cons h, walkG, ← nthS_get h, if_pos hc]
theorem walkG_yes {l : List Pc} {p : Int} {ps : List ByteArray} {k : Nat} (h : ps.length ≤ k) (hc : gotO l p = true) : walkG l p (ps.drop k) = (p, true) := by
  rw [List.drop_of_length_le h, walkG, if_pos hc]
theorem walkG_end {l : List Pc} {p : Int} {ps : List ByteArray} {k : Nat} (h : ps.length ≤ k) (hc : gotO l p = false) : walkG l p (ps.drop k) = (-1, false) := by
  rw [List.drop_of_length_le h, walkG, if_neg (by rw [hc]; simp)]
theorem gotT_out {l : List Pc} {p : Int} (h : storeB l = false) : gotT l p = ByteArray.empty := by unfold gotT; rw [h]; rfl
theorem empty_fold : isFold ByteArray.empty = false := by rfl
theorem walkG_is (l : List Pc) : ∀ (ps : List ByteArray) (p : Int), walkG l p ps = if storeB l = true then walkB l p ps else (-1, false)
  | [], p => by rw [walkG, walkB]; unfold gotO; cases storeB l <;> simp
  | nm :: r, p => by
    rw [walkG]
    cases hs : storeB l
    · rw [stepW_fold (by rw [gotT_out hs]; exact empty_fold)]; rfl
    · rw [walkB, childB, ← (got_yes p hs).1]
      cases hc : findE (foldL (gotT l p)) nm with
      | none => rw [stepW_none hc]; rfl
      | some c => rw [stepW_some hc, if_pos rfl, walkG_is l r c, hs]
theorem wtB_out {l : List Pc} {root : Int} {path : ByteArray} (h : isPath path = true) : wtB l root path = walkG l root (partsB path) := by
  rw [walkG_is]
  unfold wtB; rw [h, Bool.true_and]
theorem got_out {l : List Pc} {p : Int} (h : gotO l p = false) : gotT l p = ByteArray.empty := by
  unfold gotO at h; unfold gotT
  cases hs : storeB l
  · rfl
  · rw [hs, Bool.true_and] at h
    unfold getO at h; unfold getT
    cases hg : getB l p with
    | none => rfl
    | some s => rw [hg] at h; cases h
/-! ### the folder and the file of a print -/
/-! ### the chapter's functions -/
end Go.Proofs.Ytigegjgkjahhaaa
