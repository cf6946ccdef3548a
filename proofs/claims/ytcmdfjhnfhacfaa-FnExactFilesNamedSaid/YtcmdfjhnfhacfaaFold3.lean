/-
  Contracts of chapter 6's program: an entry is dropped; the text of a folder.
-/
import Derived.Test.YtcmdfjhnfhacfaaFold2
import Derived.Test.YtcmdfjhnfhacfaaFoldMath
namespace Go.Proofs.Ytcmdfjhnfhacfaa
open Go.RowKit
set_option linter.unusedVariables false
theorem below_quietN {base : Nat} {w w1 w2 : World} (h : Below base w w1) (h2 : ∃ q, w2 = w1.drewN q) : Below base w w2 := by obtain ⟨q, rfl⟩ := h2; exact below_drewN h q
end Go.Proofs.Ytcmdfjhnfhacfaa
