/-
  Chapter 19's model, as far as draws need it: what is reached are at most as many prints as pieces; a swept store has pieces of the store alone.
-/
import Derived.Test.YtiniadlpgomgjaaEnts
import Derived.Test.YtiniadlpgomgjaaEntries2
import Derived.Deep.CutRange
import Derived.Deep.CutBlock
import Derived.Test.YtiniadlpgomgjaaFoldMath
import Derived.Test.YtiniadlpgomgjaaFold3
import Derived.Test.YtiniadlpgomgjaaMem
import Derived.Test.YtiniadlpgomgjaaHelp
import Derived.BigRegion
import Derived.RegionTactic
import Derived.ChangeAlike
namespace Go.Proofs.Ytiniadlpgomgjaa
open Go.RowKit
set_option linter.unusedVariables false
/-- A row of n bools of the call's own, in block g. -/
def BoRow (w : World) (base g n : Nat) : Prop := ∃ bs : List Bool, bs.length = n ∧ w.ownsRow base 4 1 (.slice (some ⟨g, 0, none⟩) n n) n (bs.map Value.bool)
theorem BoRow.below {w w' : World} {base g n : Nat} (h : BoRow w base g n) (hb : Below w.heap.size w w') : BoRow w' base g n := by
  obtain ⟨bs, h1, h2⟩ := h
  exact ⟨bs, h1, own_below h2 hb⟩
/-- A bool is read, and written. -/
theorem BoRow.at {w : World} {base g n : Nat} (h : BoRow w base g n) {k : Nat} (hk : k < n) :
    ∃ b : Bool, w.cell? ⟨g, k, none⟩ = some (.bool b) ∧ w.frozen? ⟨g, k, none⟩ = false ∧ g < w.heap.size ∧ base ≤ g ∧ ∀ u : Bool, BoRow (w.setCell ⟨g, k, none⟩ (.bool u)) base g n ∧ w.grownBy (w.setCell ⟨g, k, none⟩ (.bool u)) (some g) := by
  obtain ⟨bs, h1, h2⟩ := h
  have hz := h2.cellAt k (by omega)
  rw [List.getElem?_map, List.getElem?_eq_getElem (by omega)] at hz
  refine ⟨bs[k], hz, h2.frozenAt k, (h2.lt g rfl).2, own_at h2 rfl, fun u => ?_⟩
  obtain ⟨h3, h4⟩ := h2.stored k (.bool u)
  exact ⟨⟨bs.set k u, by simpa using h1, by rw [List.map_set]; exact h3⟩, h4⟩
/-- What holds while prints are reached: the row of bools, the answer's row, all else as it was. -/
def ReI (w : World) (g n : Nat) (wr : World) : Prop := BoRow wr w.heap.size g n ∧ OwnI wr w.heap.size (.slice (some ⟨w.heap.size, 0, none⟩) 0 0) [] ∧ Below w.heap.size w wr
theorem ReI.below {w wr w' : World} {g n : Nat} (h : ReI w g n wr) (hb : Below wr.heap.size wr w') : ReI w g n w' :=
  ⟨h.1.below hb, own_below h.2.1 hb, h.2.2.trans (hb.mono h.2.2.size)⟩
/-- A bool is written. -/
theorem ReI.at {w wr : World} {g n : Nat} (h : ReI w g n wr) {k : Nat} (hk : k < n) :
    ∃ b : Bool, wr.cell? ⟨g, k, none⟩ = some (.bool b) ∧ wr.frozen? ⟨g, k, none⟩ = false ∧ g < wr.heap.size ∧ w.heap.size ≤ g ∧ ∀ u : Bool, ReI w g n (wr.setCell ⟨g, k, none⟩ (.bool u)) ∧ wr.grownBy (wr.setCell ⟨g, k, none⟩ (.bool u)) (some g) := by
  obtain ⟨⟨bs, h1, h2⟩, ho, hb⟩ := h
  obtain ⟨b, h3, h4, h5, h6, h7⟩ := BoRow.at ⟨bs, h1, h2⟩ hk
  refine ⟨b, h3, h4, h5, h6, fun u => ⟨⟨(h7 u).1, ?_, ?_⟩, (h7 u).2⟩⟩
  · exact World.ownsRow.kept ho (h7 u).2 (own_ne ho h2 (by decide))
  · exact hb.grown (h7 u).2 hb.size (fun q e => by simp at e; omega)
end Go.Proofs.Ytiniadlpgomgjaa
