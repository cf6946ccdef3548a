/-
  Contracts of the laws' helpers on lists of pieces: copies and marks.
-/
import Derived.Test.YtlbebbkkpjgboaaPieces
namespace Go.Proofs.Ytlbebbkkpjgboaa
open Go.RowKit
set_option linter.unusedVariables false
theorem grownBy_then {a b c : World} {r : Option Nat} (h : a.grownBy b r) (k : b.grownBy c r) : a.grownBy c r :=
  ⟨k.os.trans h.os, k.tape.trans h.tape, k.output.trans h.output, Nat.le_trans h.size k.size, fun i hi hr => (k.block i (Nat.lt_of_lt_of_le hi h.size) hr).trans (h.block i hi hr)⟩
theorem set2 {α : Type} {A R : List α} {m : Nat} (x y : α) (hA : A.length = m) (hR : 2 ≤ R.length) : ((A ++ R).set m x).set (m + 1) y = A ++ [x, y] ++ R.drop 2 := by
  subst hA
  match R, hR with
  | a :: b :: R, _ => simp
theorem flat_drop {α : Type} {g : α → List Value} {size : Nat} (E : Enc g size) : ∀ (l : List α) (k : Nat), (l.flatMap g).drop (k * size) = (l.drop k).flatMap g
  | l, 0 => by simp
  | [], k + 1 => by simp
  | a :: l, k + 1 => by
    rw [List.flatMap_cons, List.drop_append, E.len, List.drop_of_length_le (by rw [E.len, Nat.succ_mul]; omega), List.nil_append, show (k + 1) * size - size = k * size by rw [Nat.succ_mul]; omega, flat_drop E l k]
    rfl
def marksP (k : Int) (n : Nat) : List Pc := (List.range n).map fun i : Nat => (k + 2 * (i : Int), markB (k + 2 * (i : Int) + 1))
theorem marksP_len (k : Int) (n : Nat) : (marksP k n).length = n := by unfold marksP; simp
theorem marksP_at {k : Int} {n i : Nat} (h : i < n) : nthP (marksP k n) i = (k + 2 * i, markB (k + 2 * i + 1)) := by unfold nthP marksP; rw [List.getD_eq_getElem?_getD, List.getElem?_map, List.getElem?_range h]; rfl
theorem marksP_snoc (k : Int) (n : Nat) : marksP k (n + 1) = marksP k n ++ [(k + 2 * (n : Int), markB (k + 2 * (n : Int) + 1))] := by unfold marksP; rw [List.range_succ, List.map_append]; rfl
theorem marks_step {k : Int} {l : List Pc} {j : Nat} (h : j < l.length) :
    (((marksP k j).flatMap pcG ++ (l.drop j).flatMap pcG).set (j * 2) (.int .i64 (k + 2 * j))).set (j * 2 + 1) (.string (markB (k + 2 * j + 1))) = (marksP k (j + 1)).flatMap pcG ++ (l.drop (j + 1)).flatMap pcG := by
  rw [set2 _ _ (by rw [encPc.length, marksP_len]) (by rw [encPc.length, List.length_drop]; omega), marksP_snoc, List.flatMap_append]
  have e : ((l.drop j).flatMap pcG).drop 2 = (l.drop (j + 1)).flatMap pcG := by
    have := flat_drop encPc (l.drop j) 1
    rw [Nat.one_mul, List.drop_drop] at this
    rw [this]
  rw [e]; rfl
theorem run_mkPc (n : Nat) (hn : n ≤ 2000000) (w : World) : (Instr.makeSlice 23 (.int .i64 (n : Int)) (.int .i64 (n : Int))).run Try.prog w = .ok (.slice (some ⟨w.heap.size, 0, none⟩) n n) (w.alloc (.cells (madeCells #[.int .i64 0, .string ByteArray.empty] (n * 2)) 51)) := run_mk eltPc n hn w
theorem own_mkPc (w : World) (n : Nat) (hn : n ≤ 2000000) {base : Nat} (hb : base ≤ w.heap.size) :
    (w.alloc (.cells (madeCells #[.int .i64 0, .string ByteArray.empty] (n * 2)) 51)).ownsRow base 51 2 (.slice (some ⟨w.heap.size, 0, none⟩) n n) n (madeCells #[.int .i64 0, .string ByteArray.empty] (n * 2)).toList := own_mk eltPc w n hn hb
end Go.Proofs.Ytlbebbkkpjgboaa
