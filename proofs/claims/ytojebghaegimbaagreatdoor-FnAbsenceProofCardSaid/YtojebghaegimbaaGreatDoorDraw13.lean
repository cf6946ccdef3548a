/-
  Draws of chapters 7 and 8: contents, files' texts, kinds, paths.
-/
import Derived.Test.YtojebghaegimbaaGreatDoorFold3
import Derived.Test.YtojebghaegimbaaGreatDoorPrints
import Derived.Test.YtojebghaegimbaaGreatDoorDraw0
import Derived.Test.YtojebghaegimbaaGreatDoorChunks3
import Derived.Test.YtojebghaegimbaaGreatDoorDraw5
namespace Go.Proofs.YtojebghaegimbaaGreatDoor
open Go.RowKit
set_option linter.unusedVariables false
/-! ### a file's text: what its operations yield, in whatever order they run -/
theorem nthS_mem' {l : List ByteArray} {j : Nat} (h : j < l.length) : nthS l j ∈ l := by rw [nthS_get h]; exact List.getElem_mem _
/-! ### paths -/
end Go.Proofs.YtojebghaegimbaaGreatDoor
