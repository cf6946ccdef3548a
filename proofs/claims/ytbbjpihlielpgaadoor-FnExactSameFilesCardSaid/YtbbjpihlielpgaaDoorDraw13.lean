/-
  Draws of chapters 7 and 8: contents, files' texts, kinds, paths.
-/
import Derived.Test.YtbbjpihlielpgaaDoorFold3
import Derived.Test.YtbbjpihlielpgaaDoorPrints
import Derived.Test.YtbbjpihlielpgaaDoorDraw0
import Derived.Test.YtbbjpihlielpgaaDoorChunks3
import Derived.Test.YtbbjpihlielpgaaDoorDraw5
namespace Go.Proofs.YtbbjpihlielpgaaDoor
open Go.RowKit
set_option linter.unusedVariables false
/-! ### a file's text: what its operations yield, in whatever order they run -/
theorem nthS_mem' {l : List ByteArray} {j : Nat} (h : j < l.length) : nthS l j ∈ l := by rw [nthS_get h]; exact List.getElem_mem _
/-! ### paths -/
end Go.Proofs.YtbbjpihlielpgaaDoor
