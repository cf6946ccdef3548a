/-
  Chapter 9's model: WalkTo, ReadAt, NamesAt.
-/
import Derived.Test.YtigegjgkjahhaaaDrop
import Derived.Test.YtigegjgkjahhaaaFoldMath
import Derived.Test.YtigegjgkjahhaaaFold3
namespace Go.Proofs.Ytigegjgkjahhaaa
open Go.RowKit
set_option linter.unusedVariables false
theorem mil_max {l : List Pc} (h : ∀ k, (nthP l k).2.size ≤ 1048576) : ∀ k, (nthP l k).2.size ≤ maxLen := fun k => Nat.le_trans (h k) (by unfold maxLen; omega)
end Go.Proofs.Ytigegjgkjahhaaa
