/-
  Chapter 2: prints. Plain functions and the contracts.
-/
import Derived.Test.YtiniadlpgomgjaaMem
import Derived.Test.YtiniadlpgomgjaaWords
import Derived.Test.YtiniadlpgomgjaaDraw0
import Derived.Maps.AppendAt
namespace Go.Proofs.Ytiniadlpgomgjaa
open Go.RowKit
set_option linter.unusedVariables false
def isPr (n : Int) : Bool := decide (0 ≤ n ∧ n ≤ 16777212)
def stepB (n : Int) (c : UInt8) : Int := (257 * n + (c.toNat : Int)) % 16777213
def sumB (l : List UInt8) : Int := l.foldl stepB 1
/-- The print of a text. -/
def printB (s : ByteArray) : Int := if textB s = true then sumB s.data.toList else -1
/-! ### contracts -/
end Go.Proofs.Ytiniadlpgomgjaa
/-
  Draws of chapter 2.
-/
namespace Go.Proofs.Ytiniadlpgomgjaa
open Go.RowKit
set_option linter.unusedVariables false
end Go.Proofs.Ytiniadlpgomgjaa
