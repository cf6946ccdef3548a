/-
  Contracts of the laws' helpers on lists of entries.
-/
import Derived.Test.YtiniadlpgomgjaaFold
import Derived.Test.YtiniadlpgomgjaaArgs
namespace Go.Proofs.Ytiniadlpgomgjaa
open Go.RowKit
set_option linter.unusedVariables false
def sumE (l : List Ent) : Nat := (l.map fun p => p.1.size).sum
theorem sumE_snoc (l : List Ent) (t : Ent) : sumE (l ++ [t]) = sumE l + t.1.size := by unfold sumE; simp
theorem sumE_split (l : List Ent) (k : Nat) : sumE l = sumE (l.take k) + sumE (l.drop k) := by
  have h : sumE l = sumE (l.take k ++ l.drop k) := by rw [List.take_append_drop]
  rw [h]; unfold sumE; rw [List.map_append, List.sum_append]
/-- What is left behind a list; -1 if it is too much. -/
def leftEn (l : List Ent) (left : Int) : Int := if (l.length + sumE l : Int) ≤ left then left - l.length - sumE l else -1
theorem take_eq_stepE {l l' : List Ent} {k : Nat} (h : k < l.length) (h' : k < l'.length) (he : l.take k = l'.take k) (hx : nthE l k = nthE l' k) : l.take (k + 1) = l'.take (k + 1) := by
  rw [take_snocE h, take_snocE h', he, hx]
theorem ne_atE {l l' : List Ent} {k : Nat} (hx : nthE l k ≠ nthE l' k) : l ≠ l' := fun h => hx (by rw [h])
theorem ne_en {p q : Ent} (h : p ≠ q) : p.1 ≠ q.1 ∨ (p.1 = q.1 ∧ p.2 ≠ q.2) := by
  by_cases h1 : p.1 = q.1
  · exact .inr ⟨h1, fun h2 => h (Prod.ext h1 h2)⟩
  · exact .inl h1
def marksE (k : Int) (n : Nat) : List Ent := (List.range n).map fun i : Nat => (markB (k + 2 * (i : Int)), k + 2 * (i : Int) + 1)
theorem marksE_len (k : Int) (n : Nat) : (marksE k n).length = n := by unfold marksE; simp
theorem marksE_at {k : Int} {n i : Nat} (h : i < n) : nthE (marksE k n) i = (markB (k + 2 * i), k + 2 * i + 1) := by unfold nthE marksE; rw [List.getD_eq_getElem?_getD, List.getElem?_map, List.getElem?_range h]; rfl
theorem marksE_snoc (k : Int) (n : Nat) : marksE k (n + 1) = marksE k n ++ [(markB (k + 2 * (n : Int)), k + 2 * (n : Int) + 1)] := by unfold marksE; rw [List.range_succ, List.map_append]; rfl
theorem marksE_step {k : Int} {l : List Ent} {j : Nat} (h : j < l.length) :
    (((marksE k j).flatMap enG ++ (l.drop j).flatMap enG).set (j * 2) (.string (markB (k + 2 * j)))).set (j * 2 + 1) (.int .i64 (k + 2 * j + 1)) = (marksE k (j + 1)).flatMap enG ++ (l.drop (j + 1)).flatMap enG := by
  rw [set2 _ _ (by rw [encEn.length, marksE_len]) (by rw [encEn.length, List.length_drop]; omega), marksE_snoc, List.flatMap_append]
  have e : ((l.drop j).flatMap enG).drop 2 = (l.drop (j + 1)).flatMap enG := by
    have := flat_drop encEn (l.drop j) 1
    rw [Nat.one_mul, List.drop_drop] at this
    rw [this]
  rw [e]; rfl
end Go.Proofs.Ytiniadlpgomgjaa
/-
  A slice of entries that came in.
-/
namespace Go.Proofs.Ytiniadlpgomgjaa
open Go.RowKit Go.ChangeShapes Go.WideShapes Go.ChangeAt
set_option linter.unusedVariables false
def ArgE (w : World) (a : Option Addr) (len cap : Nat) (l : List Ent) : Prop := Ents w w.heap.size a len cap l ∧ ∀ k, (nthE l k).1.size ≤ maxLen
theorem enG_nth {f : Nat → Ent} {n j : Nat} {u : Value} (h : (((List.range n).map f).flatMap enG)[j]? = some u) : j / 2 < n ∧ (enG (f (j / 2)))[j % 2]? = some u := by
  have hl := (List.getElem?_eq_some_iff.1 h).1
  rw [encEn.length, List.length_map, List.length_range] at hl
  have hj : j = j / 2 * 2 + j % 2 := by omega
  have hlt : j / 2 < n := by omega
  rw [hj, encEn.get _ _ _ (ByteArray.empty, 0) (by simpa using hlt) (by omega)] at h
  refine ⟨hlt, ?_⟩
  rw [List.getD_eq_getElem?_getD, List.getElem?_map, List.getElem?_range hlt] at h
  exact h
/-! ### for the exact laws -/
theorem leftEn_no {l : List Ent} {left : Int} (h : ¬ (l.length + sumE l : Int) ≤ left) : leftEn l left = -1 := by unfold leftEn; rw [if_neg h]
theorem leftEn_yes {l : List Ent} {left : Int} (h : (l.length + sumE l : Int) ≤ left) : 0 ≤ leftEn l left ∧ leftEn l left ≤ left ∧ (l.length : Int) ≤ left := by unfold leftEn; rw [if_pos h]; omega
end Go.Proofs.Ytiniadlpgomgjaa
