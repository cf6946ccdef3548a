/-
  Draws of chapter 6: entries, folders' texts.
-/
import Derived.Test.YtcmdfjhnfhacfaaGreatDoorFold3
import Derived.Test.YtcmdfjhnfhacfaaGreatDoorPrints
import Derived.Test.YtcmdfjhnfhacfaaGreatDoorDraw0
import Derived.Test.YtcmdfjhnfhacfaaGreatDoorChunks3
namespace Go.Proofs.YtcmdfjhnfhacfaaGreatDoor
open Go.RowKit
set_option linter.unusedVariables false
theorem words_size : ∀ s ∈ words1 ++ words2, s.size ≤ 9 := by decide +kernel
/-! ### what is drawn, at the laws -/
end Go.Proofs.YtcmdfjhnfhacfaaGreatDoor
