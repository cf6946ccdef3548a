/-
  Chapter 10, plain: what written and dropped roots hold, and that two writes lead to the same root in either order.
-/
import Derived.Test.YtglajbmopiolhaaMath10
import Derived.Test.YtglajbmopiolhaaDraw14
import Derived.Test.YtglajbmopiolhaaFold3
import Derived.Lib.IndexLaws
import Derived.Test.YtglajbmopiolhaaPaths8
import Derived.Test.YtglajbmopiolhaaImpl9
namespace Go.Proofs.Ytglajbmopiolhaa
open Go.RowKit
set_option linter.unusedVariables false
theorem path_back {s : ByteArray} (h : isPath s = true) : pathB (partsB s) = s := by
  by_cases h1 : s = ⟨#[47]⟩
  · rw [h1]; rfl
  have h2 := h
  unfold isPath at h2
  rw [decide_eq_false h1, Bool.false_or, Bool.and_eq_true, decide_eq_true_eq, decide_eq_true_eq] at h2
  unfold partsB
  rw [if_neg h1, if_pos h, h2.2]
theorem file_folds {s : ByteArray} (h : contentB s = true) : isFile (fileB s) = true ∧ isFold (fileB s) = false ∧ fileT (fileB s) = s := by
  have h1 : (fileB s).data.toList = 102 :: s.data.toList := by rw [fileB_yes h]; simp
  have h2 : (fileB s).extract 1 (fileB s).size = s := by
    apply data_inj
    have e : (fileB s).size = s.data.toList.length + 1 := by rw [← len_eq, h1]; rfl
    rw [extract_list, h1, List.drop_succ_cons, List.drop_zero, List.take_of_length_le (by omega)]
  have h3 : isFile (fileB s) = true := by
    unfold isFile
    rw [h1, h2, h]; rfl
  exact ⟨h3, not_fold h3, by rw [fileT_yes h3, h2]⟩
/-- What a write that was possible made. -/
theorem write_made {l : List Pc} {root : Int} {path content : ByteArray} (h : (writeB l root path content).2.2 = true) :
    storeB l = true ∧ isPath path = true ∧ partsB path ≠ [] ∧ contentB content = true ∧ getO l root = true ∧ (writeB l root path content).2.1 = setP (printB (fileB content)) l root (partsB path)
    ∧ Grows l (writeB l root path content).1 ∧ Made (printB (fileB content)) l (writeB l root path content).1 root (partsB path)
    ∧ getB (writeB l root path content).1 (printB (fileB content)) = some (fileB content) ∧ 0 ≤ printB (fileB content) := by
  unfold writeB at h ⊢
  split at h
  · cases h
  rename_i h1
  rw [if_neg h1]
  split at h
  · cases h
  rename_i h2
  rw [if_neg h2]
  split at h
  · cases h
  rename_i h3
  rw [if_neg h3]
  split at h
  · cases h
  rename_i h4
  rw [if_neg h4]
  rw [Bool.not_eq_false] at h1 h2 h3 h4
  simp only [Bool.and_eq_true, Bool.not_eq_true', decide_eq_false_iff_not] at h1
  obtain ⟨i1, i2, i3⟩ := set_made h1.1.1.1 h3
  obtain ⟨g1, g2, g3, g4⟩ := put_grown h4
  exact ⟨h1.1.1.1, h1.1.1.2, h1.1.2, h1.2, h2, i1, i2.trans g1, i3 _ g1, g3, g4⟩
/-- What a drop that was possible made. -/
theorem drop_made {l : List Pc} {root : Int} {path : ByteArray} (h : (dropAtB l root path).2.2 = true) :
    storeB l = true ∧ isPath path = true ∧ partsB path ≠ [] ∧ (walkB l root (partsB path)).2 = true ∧ (dropB l root (partsB path)).2.2 = true
    ∧ Grows (dropB l root (partsB path)).1 (dropAtB l root path).1 ∧ entsAt (dropAtB l root path).1 (dropAtB l root path).2.1 = entsAt (dropAtB l root path).1 (dropB l root (partsB path)).2.1
    ∧ 0 ≤ (dropAtB l root path).2.1 := by
  unfold dropAtB at h ⊢
  split at h
  · cases h
  rename_i h1
  rw [if_neg h1]
  split at h
  · cases h
  rename_i h2
  rw [if_neg h2]
  rw [Bool.not_eq_false] at h1 h2
  simp only [Bool.and_eq_true, Bool.not_eq_true', decide_eq_false_iff_not] at h1
  split at h
  · rename_i h3
    rw [if_pos h3]
    rw [Bool.and_eq_true, decide_eq_true_eq] at h3
    split at h
    · cases h
    rename_i h4
    rw [if_neg h4]
    rw [Bool.not_eq_false] at h4
    obtain ⟨g1, g2, g3, g4⟩ := put_grown h4
    refine ⟨h1.1.1, h1.1.2, h1.2, h2, h3.1, g1, ?_, by rw [g2]; exact g4⟩
    show entsAt _ (putB (dropB l root (partsB path)).1 (folderB [])).2.1 = _
    rw [g2, ents_got g3 rfl g4]
    unfold entsAt
    rw [if_neg (by omega)]
  · rename_i h3
    rw [if_neg h3]
    split at h
    · cases h
    rename_i h4
    rw [if_neg h4]
    rw [Bool.not_eq_false] at h4
    obtain ⟨i1, _⟩ := drop_ok h1.1.1 h4
    refine ⟨h1.1.1, h1.1.2, h1.2, h2, h4, Grows.refl i1.1, rfl, ?_⟩
    rw [h4, Bool.true_and, decide_eq_true_eq] at h3
    show 0 ≤ (dropB l root (partsB path)).2.1
    omega
/-! ### reading what was written -/
/-! ### a dropped path leads nowhere -/
theorem findE_not {l : List Ent} {nm : ByteArray} (h : ∀ q ∈ l, q.1 ≠ nm) : findE l nm = none := by
  induction l with
  | nil => rfl
  | cons q l ih =>
    rw [findE, if_neg (by rw [str_beq, decide_eq_false (h q (List.mem_cons_self ..))]; simp)]
    exact ih fun x hx => h x (List.mem_cons_of_mem _ hx)
theorem foldL_at {l : List Pc} {p : Int} (h : 0 ≤ p) : entsAt l p = foldL (getT l p) := by unfold entsAt; rw [if_pos h]
/-! ### what was there is there -/
end Go.Proofs.Ytglajbmopiolhaa
