/-
  Contracts of chapter 4's model: getting and putting.
-/
import Derived.Test.YtiniadlpgomgjaaStores
import Derived.Deep.RegionLaw
import Derived.Test.YtiniadlpgomgjaaMem
namespace Go.Proofs.Ytiniadlpgomgjaa
open Go.RowKit
set_option linter.unusedVariables false
theorem Lst.quiet {α : Type} {g : α → List Value} {w w' : World} {B : Nat} {x : Option Addr} {n cap : Nat} {l : List α} (h : Lst g w B x n cap l) (hq : ∃ m, w' = w.drewN m) : Lst g w' B x n cap l := by obtain ⟨m, rfl⟩ := hq; exact h.drewN m
theorem below_quiet {B : Nat} {a w w' : World} (h : Below B a w) (hq : ∃ m, w' = w.drewN m) : Below B a w' := by obtain ⟨m, rfl⟩ := hq; exact below_drewN h m
theorem size_quiet {w w' : World} (hq : ∃ m, w' = w.drewN m) : w'.heap.size = w.heap.size := by obtain ⟨m, rfl⟩ := hq; rfl
end Go.Proofs.Ytiniadlpgomgjaa
/-
  Contracts of chapter 4's model: joined stores; the empty folder.
-/
namespace Go.Proofs.Ytiniadlpgomgjaa
open Go.RowKit
set_option linter.unusedVariables false
theorem OwnL.quiet {α : Type} {g : α → List Value} {e : TypeId} {size : Nat} {w w' : World} {base : Nat} {v : Value} {l : List α} (h : OwnL g e size w base v l) (hq : ∃ m, w' = w.drewN m) : OwnL g e size w' base v l := by obtain ⟨m, rfl⟩ := hq; exact h.drewN m
end Go.Proofs.Ytiniadlpgomgjaa
