/-
  Chapter 13, plain: what CarryChanges answers.
-/
import Derived.Test.YtglajbmopiolhaaMath13d
namespace Go.Proofs.Ytglajbmopiolhaa
open Go.RowKit
set_option linter.unusedVariables false
theorem chg_few (l : List Pc) (a b : Int) : (chgB l a b).length ≤ 54 := by
  unfold chgB goneC newC
  rw [List.length_append, List.length_map, List.length_map]
  have h1 := List.length_filter_le (fun s => !(rdB l b s).2) (allB l a)
  have h2 := List.length_filter_le (newT l a b) (allB l b)
  have h3 := all_many (l := l) (root := a)
  have h4 := all_many (l := l) (root := b)
  omega
end Go.Proofs.Ytglajbmopiolhaa
