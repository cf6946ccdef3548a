/-
  Chapter 11's model: TotalSize, FilesNamed, SameFiles.
-/
import Derived.Test.YtglajbmopiolhaaMath10b
import Derived.Test.YtglajbmopiolhaaMath10c
import Derived.Test.YtglajbmopiolhaaFiles11
import Derived.Test.YtglajbmopiolhaaDraw14
namespace Go.Proofs.Ytglajbmopiolhaa
open Go.RowKit
set_option linter.unusedVariables false
/-! ### files with a name -/
theorem all_mil {l : List Pc} {root : Int} : ∀ k, (nthS (allB l root) k).size ≤ 1048576 := fun k => nthS_all (fun q hq => Nat.le_trans (all_small q hq) (by decide)) k
/-! ### how large all files are -/
/-! ### the same files -/
end Go.Proofs.Ytglajbmopiolhaa
