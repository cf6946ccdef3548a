/-
  Contracts of chapter 10's program: drops along paths.
-/
import Derived.Test.YtigegjgkjahhaaaImpl10
import Derived.Deep.CutRange
import Derived.Deep.CutBlock
namespace Go.Proofs.Ytigegjgkjahhaaa
open Go.RowKit
set_option linter.unusedVariables false
theorem dropAtB_bad {l : List Pc} {root : Int} {path : ByteArray} (h : (namesB l path).2 = false) : dropAtB l root path = ([], -1, false) := by
  unfold dropAtB
  rw [if_pos]
  unfold namesB at h
  split at h
  · cases h
  · rename_i h1
    rwa [Bool.not_eq_true] at h1
theorem dropAtB_none {l : List Pc} {root : Int} {path : ByteArray} (h : (storeB l && isPath path && !decide (partsB path = [])) = true) (hw : (walkB l root (partsB path)).2 = false) : dropAtB l root path = (l, root, false) := by
  unfold dropAtB
  rw [if_neg (by rw [h]; simp), if_pos hw]
end Go.Proofs.Ytigegjgkjahhaaa
