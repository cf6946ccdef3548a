/-
  Contracts of chapter 1: reading hexadecimal numbers.
-/
import Derived.Test.YtlmbieaoenpeiaaHex
namespace Go.Proofs.Ytlmbieaoenpeiaa
open Go.RowKit
set_option linter.unusedVariables false
end Go.Proofs.Ytlmbieaoenpeiaa
