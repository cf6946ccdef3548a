/-
  Draws of chapter 4.
-/
import Derived.Test.YtlbebbkkpjgboaaDraw6
import Derived.Test.YtlbebbkkpjgboaaStores3
import Derived.Test.YtlbebbkkpjgboaaDraw3
namespace Go.Proofs.Ytlbebbkkpjgboaa
open Go.RowKit
set_option linter.unusedVariables false
/-- A drawn store, at the law. -/
def StoreOut (w : World) (e : Ending) (w' : World) : Prop :=
  ∃ (x : Option Addr) (n cap : Nat) (l : List Pc), e = .returned (.slice x n cap) ∧ Pcs w' w'.heap.size x n cap l ∧ FineS l ∧ Below w.heap.size w w'
def TwoStoresOut (w : World) (e : Ending) (w' : World) : Prop :=
  ∃ (x : Option Addr) (n cap : Nat) (l : List Pc) (x1 : Option Addr) (n1 cap1 : Nat) (l1 : List Pc), e = .returned (.tuple #[.slice x n cap, .slice x1 n1 cap1]) ∧ Pcs w' w'.heap.size x n cap l ∧ FineS l ∧ Pcs w' w'.heap.size x1 n1 cap1 l1 ∧ FineS l1 ∧ Below w.heap.size w w'
end Go.Proofs.Ytlbebbkkpjgboaa
