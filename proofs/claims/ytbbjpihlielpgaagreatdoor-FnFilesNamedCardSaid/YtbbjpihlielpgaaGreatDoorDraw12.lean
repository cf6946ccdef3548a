/-
  Draws of chapter 6: entries, folders' texts.
-/
import Derived.Test.YtbbjpihlielpgaaGreatDoorFold3
import Derived.Test.YtbbjpihlielpgaaGreatDoorPrints
import Derived.Test.YtbbjpihlielpgaaGreatDoorDraw0
import Derived.Test.YtbbjpihlielpgaaGreatDoorChunks3
namespace Go.Proofs.YtbbjpihlielpgaaGreatDoor
open Go.RowKit
set_option linter.unusedVariables false
theorem words_size : ∀ s ∈ words1 ++ words2, s.size ≤ 9 := by decide +kernel
/-! ### what is drawn, at the laws -/
end Go.Proofs.YtbbjpihlielpgaaGreatDoor
