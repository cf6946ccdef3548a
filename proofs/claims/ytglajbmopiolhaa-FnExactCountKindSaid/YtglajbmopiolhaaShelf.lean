/-
  The contracts of the library that this seat uses, laid by the tool of the kit.
-/
import Derived.Shelf.Lay
import Derived.Shelf.LaySoft

import Derived.Test.YtglajbmopiolhaaProg
namespace Go.Proofs
open Go.Shelf
shelf_tried
end Go.Proofs
