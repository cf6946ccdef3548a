/-
  The walks of chapters 7's and 8's exact laws.
-/
import Derived.Test.YtojebghaegimbaaDoorImpl7
import Derived.Test.YtojebghaegimbaaDoorHelp
namespace Go.Proofs.YtojebghaegimbaaDoor
open Go.RowKit
set_option linter.unusedVariables false
theorem leftS_no {l : List ByteArray} {left : Int} (h : ¬ (l.length + sumS l : Int) ≤ left) : leftS l left = -1 := by unfold leftS; rw [if_neg h]
theorem leftS_yes {l : List ByteArray} {left : Int} (h : (l.length + sumS l : Int) ≤ left) : 0 ≤ leftS l left ∧ leftS l left ≤ left ∧ (l.length : Int) ≤ left := by unfold leftS; rw [if_pos h]; omega
end Go.Proofs.YtojebghaegimbaaDoor
