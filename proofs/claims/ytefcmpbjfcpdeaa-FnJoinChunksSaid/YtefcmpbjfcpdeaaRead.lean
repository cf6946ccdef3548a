/-
  Contracts of chapter 1: reading hexadecimal numbers.
-/
import Derived.Test.YtefcmpbjfcpdeaaHex
namespace Go.Proofs.Ytefcmpbjfcpdeaa
open Go.RowKit
set_option linter.unusedVariables false
end Go.Proofs.Ytefcmpbjfcpdeaa
