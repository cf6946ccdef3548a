/-
  Contracts of chapter 1: hexadecimal numbers.
-/
import Derived.Test.YtefcmpbjfcpdeaaWords
import Derived.WalkSpells
namespace Go.Proofs.Ytefcmpbjfcpdeaa
open Go.RowKit
set_option linter.unusedVariables false
end Go.Proofs.Ytefcmpbjfcpdeaa
