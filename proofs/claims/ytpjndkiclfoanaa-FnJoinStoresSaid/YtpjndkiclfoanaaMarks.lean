/-
  Contracts of the laws' helpers: marks in results, comparisons, copies.
-/
import Derived.Test.YtpjndkiclfoanaaLst
import Derived.Test.YtpjndkiclfoanaaHelp
import Derived.Laws.BytesArg
import Derived.Deep.RegionWith
namespace Go.Proofs.Ytpjndkiclfoanaa
open Go.RowKit
set_option linter.unusedVariables false
/-- A number is handed back; nothing but draws. -/
def QuietI (n : Int) (w : World) (e : Ending) (w' : World) : Prop := e = .returned (.int .i64 n) ∧ ∃ m, w' = w.drewN m
/-- A number is handed back; nothing that was there has turned. -/
def BelowI (n : Int) (w : World) (e : Ending) (w' : World) : Prop := e = .returned (.int .i64 n) ∧ Below w.heap.size w w'
/-- A bool is handed back; nothing that was there has turned. -/
def BelowB (b : Bool) (w : World) (e : Ending) (w' : World) : Prop := e = .returned (.bool b) ∧ Below w.heap.size w w'
/-! ### numbers -/
def marksI (k : Int) (n : Nat) : List Int := (List.range n).map fun i : Nat => k + (i : Int)
theorem marksI_len (k : Int) (n : Nat) : (marksI k n).length = n := by unfold marksI; simp
theorem marksI_at {k : Int} {n i : Nat} (h : i < n) : nthI (marksI k n) i = k + i := by unfold nthI marksI; rw [List.getD_eq_getElem?_getD, List.getElem?_map, List.getElem?_range h]; rfl
theorem fill_step {α : Type} (f : Nat → α) (l : List α) (i : Nat) (h : i < l.length) : (((List.range i).map f) ++ l.drop i).set i (f i) = ((List.range (i + 1)).map f) ++ l.drop (i + 1) := by
  rw [List.set_append, if_neg (by simp), List.length_map, List.length_range, Nat.sub_self, List.drop_eq_getElem_cons h, List.set_cons_zero, List.range_succ, List.map_append, List.append_assoc]
  rfl
theorem own_size {w : World} {base : Nat} {e : TypeId} {size n : Nat} {v : Value} {xs : List Value} (h : w.ownsRow base e size v n xs) : base ≤ w.heap.size ∨ v = .slice none 0 0 := by
  rcases h.2 with ⟨rfl, _⟩ | ⟨g, cap, cur, rfl, hb, hg, _⟩
  · exact .inr rfl
  · have := (Array.getElem?_eq_some_iff.1 hg).1; exact .inl (by omega)
/-! ### texts -/
theorem take_eq_stepS {l l' : List ByteArray} {k : Nat} (h : k < l.length) (h' : k < l'.length) (he : l.take k = l'.take k) (hx : nthS l k = nthS l' k) : l.take (k + 1) = l'.take (k + 1) := by
  rw [take_snocS h, take_snocS h', he, hx]
theorem ne_atS {l l' : List ByteArray} {k : Nat} (hx : nthS l k ≠ nthS l' k) : l ≠ l' := fun h => hx (by rw [h])
theorem fillS {l : List ByteArray} {k : Nat} (h : k < l.length) : (l.take k ++ List.replicate (l.length - k) ByteArray.empty).set k (nthS l k) = l.take (k + 1) ++ List.replicate (l.length - (k + 1)) ByteArray.empty := by
  rw [List.set_append, if_neg (by simp; omega), List.length_take, Nat.min_eq_left (by omega), Nat.sub_self, show l.length - k = (l.length - (k + 1)) + 1 by omega, List.replicate_succ, List.set_cons_zero, nthS_get h, List.take_succ_eq_append_getElem h, List.append_assoc]
  rfl
end Go.Proofs.Ytpjndkiclfoanaa
