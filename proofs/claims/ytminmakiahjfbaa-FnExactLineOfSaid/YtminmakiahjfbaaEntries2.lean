/-
  Chapter 6's model: an entry is put.
-/
import Derived.Test.YtminmakiahjfbaaEnts
import Derived.Test.YtminmakiahjfbaaMem
import Derived.Test.YtminmakiahjfbaaStores
import Derived.Deep.RegionLaw
import Derived.Test.YtminmakiahjfbaaChunks
import Derived.Test.YtminmakiahjfbaaArgs
import Derived.Laws.Externs
import Derived.Shelf.RegionOpenPlain
import Derived.Deep.CutRange
import Derived.Deep.CutBlock
namespace Go.Proofs.Ytminmakiahjfbaa
open Go.RowKit
set_option linter.unusedVariables false
/-- How many names lie ahead of a name. -/
def ltN (a b : ByteArray) : Bool := Op.bytesLess a.toList b.toList
end Go.Proofs.Ytminmakiahjfbaa
