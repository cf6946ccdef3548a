/-
  Chapter 10's model: a name is dropped.
-/
import Derived.Test.YtglajbmopiolhaaDoorSet
import Derived.Deep.CutBlock
namespace Go.Proofs.YtglajbmopiolhaaDoor
open Go.RowKit
set_option linter.unusedVariables false
end Go.Proofs.YtglajbmopiolhaaDoor
/-
  Chapter 10's model: writing and dropping at a path.
-/
namespace Go.Proofs.YtglajbmopiolhaaDoor
open Go.RowKit
set_option linter.unusedVariables false
theorem nthS_all {l : List ByteArray} {m : Nat} (h : ∀ q ∈ l, q.size ≤ m) (k : Nat) : (nthS l k).size ≤ m := by
  by_cases hk : k < l.length
  · rw [nthS_get hk]; exact h _ (List.getElem_mem _)
  · unfold nthS; rw [List.getD_eq_getElem?_getD, List.getElem?_eq_none (by omega)]; simp
section
variable {ops : Array Oper} {rest : List Oper} {o : Oper} {a : Act} {Q : Exit → Act → World → Prop}
variable {t e : TypeId} {size : Nat} {z : Value} {w : World}
end
end Go.Proofs.YtglajbmopiolhaaDoor
/-
  Chapter 10's model: dropping at a path.
-/
namespace Go.Proofs.YtglajbmopiolhaaDoor
open Go.RowKit
set_option linter.unusedVariables false
end Go.Proofs.YtglajbmopiolhaaDoor
