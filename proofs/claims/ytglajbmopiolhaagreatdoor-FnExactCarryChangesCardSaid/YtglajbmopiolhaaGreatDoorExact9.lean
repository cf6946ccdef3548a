/-
  The walks of chapter 9's exact laws.
-/
import Derived.Test.YtglajbmopiolhaaGreatDoorImpl9
import Derived.Test.YtglajbmopiolhaaGreatDoorArgs
import Derived.Test.YtglajbmopiolhaaGreatDoorHelp
namespace Go.Proofs.YtglajbmopiolhaaGreatDoor
open Go.RowKit
set_option linter.unusedVariables false
theorem sumP_nth : ∀ (l : List Pc) (k : Nat), (nthP l k).2.size ≤ sumP l
  | [], k => by simp [nthP]
  | q :: l, 0 => by
    show q.2.size ≤ ((q :: l).map fun p => p.2.size).sum
    rw [List.map_cons, List.sum_cons]; omega
  | q :: l, k + 1 => by
    have h := sumP_nth l k
    have e : nthP (q :: l) (k + 1) = nthP l k := by simp [nthP]
    rw [e]
    show (nthP l k).2.size ≤ ((q :: l).map fun p => p.2.size).sum
    rw [List.map_cons, List.sum_cons]
    have e2 : sumP l = (l.map fun p => p.2.size).sum := rfl
    omega
theorem sumP_mil {l : List Pc} (h : (l.length + sumP l : Int) ≤ 1048576) (k : Nat) : (nthP l k).2.size ≤ 1048576 := by
  have := sumP_nth l k; omega
end Go.Proofs.YtglajbmopiolhaaGreatDoor
