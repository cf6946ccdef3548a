/-
  A slice of pieces that came in.
-/
import Derived.Test.YtlbebbkkpjgboaaArgs
import Derived.Test.YtlbebbkkpjgboaaPieces2
import Derived.Deep.SlicePairs
namespace Go.Proofs.Ytlbebbkkpjgboaa
open Go.RowKit Go.ChangeShapes Go.WideShapes Go.ChangeAt
set_option linter.unusedVariables false
def ArgP (w : World) (a : Option Addr) (len cap : Nat) (l : List Pc) : Prop := Pcs w w.heap.size a len cap l ∧ ∀ k, (nthP l k).2.size ≤ maxLen
theorem pcG_nth {f : Nat → Pc} {n j : Nat} {u : Value} (h : (((List.range n).map f).flatMap pcG)[j]? = some u) : j / 2 < n ∧ (pcG (f (j / 2)))[j % 2]? = some u := by
  have hl := (List.getElem?_eq_some_iff.1 h).1
  rw [encPc.length, List.length_map, List.length_range] at hl
  have hj : j = j / 2 * 2 + j % 2 := by omega
  have hlt : j / 2 < n := by omega
  rw [hj, encPc.get _ _ _ (0, ByteArray.empty) (by simpa using hlt) (by omega)] at h
  refine ⟨hlt, ?_⟩
  rw [List.getD_eq_getElem?_getD, List.getElem?_map, List.getElem?_range hlt] at h
  exact h
/-! ### for the exact laws -/
theorem leftP_no {l : List Pc} {left : Int} (h : ¬ (l.length + sumP l : Int) ≤ left) : leftP l left = -1 := by unfold leftP; rw [if_neg h]
theorem leftP_yes {l : List Pc} {left : Int} (h : (l.length + sumP l : Int) ≤ left) : 0 ≤ leftP l left ∧ leftP l left ≤ left ∧ (l.length : Int) ≤ left := by unfold leftP; rw [if_pos h]; omega
theorem OwnL.keptLt {α : Type} {g : α → List Value} {e : TypeId} {size : Nat} {w w' : World} {base : Nat} {v : Value} {l : List α} {r : Option Nat} (h : OwnL g e size w base v l) (hg : w.grownBy w' r) (hr : ∀ k, r = some k → k < base) : OwnL g e size w' base v l :=
  World.ownsRow.kept h hg (by
    cases hv : v.ownBlock with
    | none => exact .inl rfl
    | some k => exact .inr fun e => by have h1 := own_at h hv; have h2 := hr k e.symm; omega)
theorem OwnL.ltSize {α : Type} {g : α → List Value} {e : TypeId} {size : Nat} {w : World} {base : Nat} {v : Value} {l : List α} (h : OwnL g e size w base v l) {k : Nat} (hk : v.ownBlock = some k) : k < w.heap.size := (World.ownsRow.lt h k hk).2
end Go.Proofs.Ytlbebbkkpjgboaa
