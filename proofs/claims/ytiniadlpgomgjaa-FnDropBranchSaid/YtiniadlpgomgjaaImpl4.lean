/-
  Contracts of chapter 4's program: where a print stands in a store.
-/
import Derived.Test.YtiniadlpgomgjaaStores2
import Derived.Test.YtiniadlpgomgjaaChunks
import Derived.Test.YtiniadlpgomgjaaMem
import Derived.Test.YtiniadlpgomgjaaArgs
import Derived.Laws.Externs
import Derived.Shelf.RegionOpenPlain
import Derived.Test.YtiniadlpgomgjaaStores
namespace Go.Proofs.Ytiniadlpgomgjaa
open Go.RowKit
set_option linter.unusedVariables false
theorem two_at {w : World} {r : Nat} {u v : Value} {t : TypeId} (h : w.heap[r]? = some (.cells #[u, v] t (0, 0))) :
    w.cell? ⟨r, 0, none⟩ = some u ∧ w.cell? ⟨r, 1, none⟩ = some v ∧ w.frozen? ⟨r, 0, none⟩ = false ∧ w.frozen? ⟨r, 1, none⟩ = false := by
  refine ⟨?_, ?_, ?_, ?_⟩ <;> simp [World.cell?, World.frozen?, h]
end Go.Proofs.Ytiniadlpgomgjaa
/-
  Contracts of chapter 4's program: copies of stores; valid stores.
-/
namespace Go.Proofs.Ytiniadlpgomgjaa
open Go.RowKit
set_option linter.unusedVariables false
end Go.Proofs.Ytiniadlpgomgjaa
/-
  Contracts of chapter 4's program: a piece is put in its place.
-/
namespace Go.Proofs.Ytiniadlpgomgjaa
open Go.RowKit
set_option linter.unusedVariables false
end Go.Proofs.Ytiniadlpgomgjaa
/-
  Contracts of chapter 4's program: putting, getting and joining.
-/
namespace Go.Proofs.Ytiniadlpgomgjaa
open Go.RowKit
set_option linter.unusedVariables false
end Go.Proofs.Ytiniadlpgomgjaa
/-
  Contracts of chapter 4's program: PutText, GetText, JoinStores.
-/
namespace Go.Proofs.Ytiniadlpgomgjaa
open Go.RowKit
set_option linter.unusedVariables false
end Go.Proofs.Ytiniadlpgomgjaa
/-
  Contract of chapter 4's program: JoinStores.
-/
namespace Go.Proofs.Ytiniadlpgomgjaa
open Go.RowKit
set_option linter.unusedVariables false
end Go.Proofs.Ytiniadlpgomgjaa
/-
  Chapter 4, plain: what stands in a store; a text put again.
-/
namespace Go.Proofs.Ytiniadlpgomgjaa
open Go.RowKit
set_option linter.unusedVariables false
end Go.Proofs.Ytiniadlpgomgjaa
/-
  Chapter 4, plain: what joined stores hold.
-/
namespace Go.Proofs.Ytiniadlpgomgjaa
open Go.RowKit
set_option linter.unusedVariables false
end Go.Proofs.Ytiniadlpgomgjaa
