/-
  Chapter 6's model: an entry is put.
-/
import Derived.Test.YtcmdfjhnfhacfaaEnts
import Derived.Test.YtcmdfjhnfhacfaaMem
import Derived.Test.YtcmdfjhnfhacfaaImpl4
import Derived.Deep.CutRange
import Derived.Deep.CutBlock
namespace Go.Proofs.Ytcmdfjhnfhacfaa
open Go.RowKit
set_option linter.unusedVariables false
/-- How many names lie ahead of a name. -/
def ltN (a b : ByteArray) : Bool := Op.bytesLess a.toList b.toList
def atE (p : ByteArray) : List Ent → Nat
  | [] => 0
  | q :: r => if ltN q.1 p = true then atE p r + 1 else 0
end Go.Proofs.Ytcmdfjhnfhacfaa
