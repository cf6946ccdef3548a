/-
  Contracts of chapter 9's program: walking along a path, reading a file, the names of a folder.
-/
import Derived.Test.YtglajbmopiolhaaWalks9
import Derived.Test.YtglajbmopiolhaaFold3
import Derived.Lib.IndexLaws
import Derived.Test.YtglajbmopiolhaaPaths8
import Derived.Test.YtglajbmopiolhaaShelf
import Derived.Shelf.Strings.SplitCore
import Derived.Lib.SplitLaws
import Derived.Lib.Join
namespace Go.Proofs.Ytglajbmopiolhaa
open Go.RowKit
set_option linter.unusedVariables false
/-! ### a name's print -/
theorem empty_fold : isFold ByteArray.empty = false := by rfl
/-! ### the folder and the file of a print -/
/-! ### the chapter's functions -/
end Go.Proofs.Ytglajbmopiolhaa
