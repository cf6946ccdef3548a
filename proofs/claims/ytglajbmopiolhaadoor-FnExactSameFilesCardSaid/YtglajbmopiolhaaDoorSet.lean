/-
  Chapter 10's model: a print is set at names.
-/
import Derived.Test.YtglajbmopiolhaaDoorEnts
import Derived.Test.YtglajbmopiolhaaDoorEntries2
import Derived.Deep.CutRange
namespace Go.Proofs.YtglajbmopiolhaaDoor
open Go.RowKit
set_option linter.unusedVariables false
theorem fold_ents {s : ByteArray} : entsB (foldL s) = true := by
  unfold foldL
  split
  · rename_i h
    unfold isFold at h
    cases he : entsOf s with
    | none => rw [he] at h; cases h
    | some l =>
      rw [he] at h
      simp only [Bool.and_eq_true, decide_eq_true_eq] at h
      cases hv : entsB l
      · rw [folderB_no hv] at h
        have : s.size = 0 := by rw [← h.1]; rfl
        omega
      · exact hv
  · rfl
end Go.Proofs.YtglajbmopiolhaaDoor
