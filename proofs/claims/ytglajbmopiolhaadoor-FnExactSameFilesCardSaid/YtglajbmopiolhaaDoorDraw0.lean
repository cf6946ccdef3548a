/-
  The reader of drawn codes: what is known of it, and the contracts of its opening and of its picks.
-/
import Derived.Test.YtglajbmopiolhaaDoorWords
import Derived.Test.YtglajbmopiolhaaDoorMem
import Derived.WalkSpells
import Derived.Deep.QuietTactic
import Derived.BigQuiet
import Derived.Laws.Bits64
import Derived.Deep.RegionWith
namespace Go.Proofs.YtglajbmopiolhaaDoor
open Go.RowKit
set_option linter.unusedVariables false
/-- The bytes of a slice that came in can be read. -/
def Bytes (B : Nat) (w : World) (x : Option Addr) (n : Nat) : Prop :=
  ∀ i, i < n → ∃ b off z, x = some ⟨b, off, none⟩ ∧ b < B ∧ w.cell? ⟨b, off + i, none⟩ = some (.int .u8 z) ∧ 0 ≤ z ∧ z ≤ 255
theorem Bytes.keep {B : Nat} {w w' : World} {x : Option Addr} {n : Nat} (h : Bytes B w x n) (hk : ∀ k, k < B → w'.heap[k]? = w.heap[k]?) : Bytes B w' x n := by
  intro i hi
  obtain ⟨b, off, z, h1, h2, h3, h4⟩ := h i hi
  exact ⟨b, off, z, h1, h2, (World.cell?_of_block (w := w) (w' := w') (a := ⟨b, off + i, none⟩) (hk b h2)).trans h3, h4⟩
theorem grownBy_refl (a : World) (r : Option Nat) : a.grownBy a r := ⟨rfl, rfl, rfl, Nat.le_refl _, fun _ _ _ => rfl⟩
end Go.Proofs.YtglajbmopiolhaaDoor
/-
  Contracts of the draws of chapter 1.
-/
namespace Go.Proofs.YtglajbmopiolhaaDoor
open Go.RowKit
set_option linter.unusedVariables false
theorem cell_new (w : World) (cs : Array Value) (t j : Nat) (v : Value) (h : cs[j]? = some v) : (w.alloc (.cells cs t)).cell? ⟨w.heap.size, j, none⟩ = some v := by
  have e := heap_alloc_new w (Obj.cells cs t)
  unfold World.cell?
  rw [e]
  simpa using h
end Go.Proofs.YtglajbmopiolhaaDoor
/-
  The draw of texts.
-/
namespace Go.Proofs.YtglajbmopiolhaaDoor
open Go.RowKit
set_option linter.unusedVariables false
/-- Block b holds 61 zero bytes. -/
def HasZ (w : World) (b : Nat) : Prop := w.heap[b]? = some (.cells (Array.replicate 61 (.int .u8 0)) 5 (0, 0))
theorem HasZ.keep {w w' : World} {b r : Nat} (h : HasZ w b) (hg : w.grownBy w' (some r)) (hne : b ≠ r) : HasZ w' b :=
  (hg.block b (Array.getElem?_eq_some_iff.1 h).1 (by simp; omega)).trans h
end Go.Proofs.YtglajbmopiolhaaDoor
