/-
  Draws of chapters 7 and 8: contents, files' texts, kinds, paths.
-/
import Derived.Test.YtbbjpihlielpgaaGreatDoorDraw12
import Derived.Test.YtbbjpihlielpgaaGreatDoorDraw5
namespace Go.Proofs.YtbbjpihlielpgaaGreatDoor
open Go.RowKit
set_option linter.unusedVariables false
/-! ### a file's text: what its operations yield, in whatever order they run -/
theorem texts_size : ∀ s ∈ texts1 ++ texts2, s.size ≤ 61 := by decide +kernel
theorem nthS_mem' {l : List ByteArray} {j : Nat} (h : j < l.length) : nthS l j ∈ l := by rw [nthS_get h]; exact List.getElem_mem _
/-! ### paths -/
end Go.Proofs.YtbbjpihlielpgaaGreatDoor
