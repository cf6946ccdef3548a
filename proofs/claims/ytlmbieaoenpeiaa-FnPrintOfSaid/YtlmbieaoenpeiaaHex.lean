/-
  Contracts of chapter 1: hexadecimal numbers.
-/
import Derived.Test.YtlmbieaoenpeiaaWords
import Derived.WalkSpells
namespace Go.Proofs.Ytlmbieaoenpeiaa
open Go.RowKit
set_option linter.unusedVariables false
end Go.Proofs.Ytlmbieaoenpeiaa
