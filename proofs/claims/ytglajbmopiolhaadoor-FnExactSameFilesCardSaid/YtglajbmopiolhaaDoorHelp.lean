/-
  Contracts of the laws' helpers on lists of numbers.
-/
import Derived.Test.YtglajbmopiolhaaDoorMem
import Derived.Test.YtglajbmopiolhaaDoorWords
import Derived.Laws.BytesArg
import Derived.Deep.RegionWith
import Derived.WalkSpells
namespace Go.Proofs.YtglajbmopiolhaaDoor
open Go.RowKit
set_option linter.unusedVariables false
/-- A bool is handed back; nothing but draws. -/
def QuietB (b : Bool) (w : World) (e : Ending) (w' : World) : Prop := e = .returned (.bool b) ∧ ∃ m, w' = w.drewN m
theorem QuietB.below {b : Bool} {w w' : World} {e : Ending} (h : QuietB b w e w') : Below w.heap.size w w' := by obtain ⟨_, m, rfl⟩ := h; exact below_drewN (Below.refl _ _) m
end Go.Proofs.YtglajbmopiolhaaDoor
/-
  Contracts of the laws' helpers: marks in results, comparisons, copies.
-/
namespace Go.Proofs.YtglajbmopiolhaaDoor
open Go.RowKit
set_option linter.unusedVariables false
/-- A number is handed back; nothing that was there has turned. -/
def BelowI (n : Int) (w : World) (e : Ending) (w' : World) : Prop := e = .returned (.int .i64 n) ∧ Below w.heap.size w w'
/-- A bool is handed back; nothing that was there has turned. -/
def BelowB (b : Bool) (w : World) (e : Ending) (w' : World) : Prop := e = .returned (.bool b) ∧ Below w.heap.size w w'
/-! ### numbers -/
/-! ### texts -/
end Go.Proofs.YtglajbmopiolhaaDoor
/-
  Contracts of the laws' helpers: marks in texts; how much lists of texts hold.
-/
namespace Go.Proofs.YtglajbmopiolhaaDoor
open Go.RowKit
set_option linter.unusedVariables false
theorem own_below {w w' : World} {base : Nat} {e : TypeId} {size n : Nat} {v : Value} {xs : List Value} (h : w.ownsRow base e size v n xs) (hb : Below w.heap.size w w') : w'.ownsRow base e size v n xs :=
  World.ownsRow.kept (row := none) h ⟨hb.os, hb.tape, hb.output, hb.size, fun k hk _ => hb.block k hk⟩ (by cases hv : v.ownBlock <;> simp)
theorem below_drewn {B : Nat} {a w w2 : World} (h : Below B a w) (hb : Below w.drew.heap.size w.drew w2) (hB : B ≤ w.heap.size) : Below B a w2 :=
  ⟨hb.os.trans h.os, hb.tape.trans h.tape, hb.output.trans h.output, Nat.le_trans h.size hb.size, fun k hk => (hb.block k (Nat.lt_of_lt_of_le hk hB)).trans (h.block k hk)⟩
/-! ### how much a list holds -/
end Go.Proofs.YtglajbmopiolhaaDoor
