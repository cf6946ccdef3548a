/-
  copy, append of a make, and slices that are cut, at elements of more than one cell: for rows of a call's own.
-/
import Derived.Test.YtlbebbkkpjgboaaLst
import Derived.Laws.CopyRow
import Derived.Lib.AppendZerosOnto
import Derived.Lib.Overlaps
import Derived.Laws.NewBlocks
namespace Go.Proofs.Ytlbebbkkpjgboaa
open Go.RowKit
set_option linter.unusedVariables false
/-- What a copy leaves in a row. -/
def laid (cur : List Value) (o : Nat) (cs : List Value) : List Value := cur.take o ++ cs ++ cur.drop (o + cs.length)
theorem laid_len {cur cs : List Value} {o : Nat} (h : o + cs.length ≤ cur.length) : (laid cur o cs).length = cur.length := by unfold laid; simp; omega
/-- The row of a block. -/
def RowIs (w : World) (g : Nat) (t : TypeId) (cur : List Value) : Prop := w.heap[g]? = some (.cells cur.toArray t (0, 0))
theorem RowIs.grown {w w' : World} {g : Nat} {t : TypeId} {cur : List Value} {r : Option Nat} (h : RowIs w g t cur) (hg : w.grownBy w' r) (hr : some g ≠ r) : RowIs w' g t cur :=
  (hg.block g (Array.getElem?_eq_some_iff.1 h).1 hr).trans h
theorem RowIs.cell {w : World} {g : Nat} {t : TypeId} {cur : List Value} (h : RowIs w g t cur) {j : Nat} {u : Value} (hj : cur[j]? = some u) : w.cell? ⟨g, j, none⟩ = some u := by
  rw [cell_of_row w g j _ t (0, 0) h]; simpa using hj
section
variable {ops : Array Oper} {rest rest' : List Oper} {o : Oper} {a : Act} {Q : Exit → Act → World → Prop} {K : Act → World → Prop} {P0 : Prop} {t e : TypeId} {size : Nat} {z : Value} {w : World}
theorem run_copyK (T : Elt t e size z) (sT ty : TypeId) {g off dLen dCap : Nat} {ad : Addr} {sLen sCap : Nat} {cur cs : List Value} {te : TypeId} (hg : RowIs w g te cur) (hn : cs.length = Nat.min sLen dLen * size)
    (hsrc : ∀ j v, cs[j]? = some v → w.cell? (ad.add j) = some v) (hfit : off + cs.length ≤ cur.length) (h1 : ∀ v ∈ cs, v.oneCell' = true) :
    ∃ w', (Builtin.copy_ #[t, sT] ty #[.slice (some ⟨g, off, none⟩) dLen dCap, .slice (some ad) sLen sCap]).run Try.prog w = .ok (goInt (Nat.min sLen dLen)) w' ∧ RowIs w' g te (laid cur off cs) ∧ w.grownBy w' (some g) := by
  obtain ⟨i, hi, hz, hsz, hby⟩ := T.info
  have hl := run_loadCells_list (P := Try.prog) w ad cs hsrc
  rw [hn] at hl
  have hst := run_storeCells_at Try.prog g off te cs 0 cur.toArray w hg (by simpa using hfit) h1
  refine ⟨w.setRow g (cur.toArray.toList.take (off + 0) ++ cs ++ cur.toArray.toList.drop (off + 0 + cs.length)).toArray, ?_, ?_, ?_⟩
  · simp [Builtin.copy_, run_underlying T.und, Builtin.lenOf, Builtin.firstCells, sizeOf, typeInfo, hi, hsz, hl, hst]
  · exact setRow_heap w g _ _ te (0, 0) hg
  · exact ⟨rfl, rfl, rfl, by simp [World.setRow], fun k hk hr => setRow_other w g k _ (fun h => hr (by rw [h]))⟩
theorem wp_copyK (T : Elt t e size z) {g off dLen dCap : Nat} {ad : Addr} {sLen sCap : Nat} {cur cs : List Value} {te sT : TypeId} (hg : RowIs w g te cur) (hn : cs.length = Nat.min sLen dLen * size)
    (hsrc : ∀ j v, cs[j]? = some v → w.cell? (ad.add j) = some v) (hfit : off + cs.length ≤ cur.length) (h1 : ∀ v ∈ cs, v.oneCell' = true)
    (d s : Operand) (ho : o.op = .call { callee := .builtin .copy, args := #[d, s], argTypes := #[t, sT] }) (hd : a.eval d = .slice (some ⟨g, off, none⟩) dLen dCap) (hs : a.eval s = .slice (some ad) sLen sCap)
    (h : ∀ w' n, RowIs w' g te (laid cur off cs) → w.grownBy w' (some g) → K (a.put o.dst (goInt n)) w') : o.wp Try.prog a w K Q := by
  obtain ⟨w', hr, h2, h3⟩ := run_copyK T sT o.type (dCap := dCap) (sCap := sCap) hg hn hsrc hfit h1
  unfold Oper.wp execOp
  simp only [ho, resolve, invoke, builtin, Sem.run_bind, Sem.run_pure, Result.andThen_ok, List.map_toArray, List.map_cons, List.map_nil, hd, hs, hr]
  exact h w' _ h2 h3
theorem wpList_copyK (T : Elt t e size z) {g off dLen dCap : Nat} {ad : Addr} {sLen sCap : Nat} {cur cs : List Value} {te sT : TypeId} (hg : RowIs w g te cur) (hn : cs.length = Nat.min sLen dLen * size)
    (hsrc : ∀ j v, cs[j]? = some v → w.cell? (ad.add j) = some v) (hfit : off + cs.length ≤ cur.length) (h1 : ∀ v ∈ cs, v.oneCell' = true)
    (hgd : o.guard = none) (d s : Operand) (ho : o.op = .call { callee := .builtin .copy, args := #[d, s], argTypes := #[t, sT] }) (hd : a.eval d = .slice (some ⟨g, off, none⟩) dLen dCap) (hs : a.eval s = .slice (some ad) sLen sCap)
    (h : ∀ w' n, RowIs w' g te (laid cur off cs) → w.grownBy w' (some g) → wpList Try.prog ops Q rest (a.put o.dst (goInt n)) w') : wpList Try.prog ops Q (o :: rest) a w :=
  wpList_plain hgd fun _ hK => wp_copyK T hg hn hsrc hfit h1 d s ho hd hs fun w' n h2 h3 => hK _ _ (h w' n h2 h3)
theorem step_copyK (T : Elt t e size z) {g off dLen dCap : Nat} {ad : Addr} {sLen sCap : Nat} {cur cs : List Value} {te sT : TypeId} (hg : RowIs w g te cur) (hn : cs.length = Nat.min sLen dLen * size)
    (hsrc : ∀ j v, cs[j]? = some v → w.cell? (ad.add j) = some v) (hfit : off + cs.length ≤ cur.length) (h1 : ∀ v ∈ cs, v.oneCell' = true)
    (hgd : o.guard = none) (d s : Operand) (ho : o.op = .call { callee := .builtin .copy, args := #[d, s], argTypes := #[t, sT] }) (hd : a.eval d = .slice (some ⟨g, off, none⟩) dLen dCap) (hs : a.eval s = .slice (some ad) sLen sCap)
    (h : ∀ w' n, RowIs w' g te (laid cur off cs) → w.grownBy w' (some g) → K (a.put o.dst (goInt n)) w') :
    if Region.wanted o (yielded ops a.tmps) = true then Oper.wp Try.prog o a w K Q else P0 := by
  have hw : Region.wanted o (yielded ops a.tmps) = true := by simp [Region.wanted, hgd]
  rw [if_pos hw]
  exact wp_copyK T hg hn hsrc hfit h1 d s ho hd hs h
/-- append of k zero values to the first m elements of a row in which there is no room for them: a new row. -/
theorem run_appZ (T : Elt t e size z) (tn ty : TypeId) (htn : Try.prog.underlying tn = some (.int .i64)) {x : Addr} {m c k : Nat} {olds : List Value} (hl : olds.length = m * size) (hr : ∀ j v, olds[j]? = some v → w.cell? (x.add j) = some v) (hk : 0 < k) (hroom : c < m + k) (hm : m + k ≤ 2000000) :
    ∃ w' G rest, (Builtin.append_ #[t, tn] ty #[.slice (some x) m c, .int .i64 (k : Int)]).run Try.prog w = .ok (.slice (some ⟨w.heap.size, 0, none⟩) (m + k) G) w' ∧ RowIs w' w.heap.size e (olds ++ rest) ∧ rest.length = (G - m) * size ∧ m + k ≤ G ∧ G ≤ maxLen ∧ w.grownBy w' none := by
  obtain ⟨i, hi, hz, hsz, hby⟩ := T.info
  have hb : (m + k) * i.bytes ≤ 2000000 * 1000 := Nat.mul_le_mul (by omega) hby
  have hb2 : k * i.bytes ≤ 2000000 * 1000 := Nat.mul_le_mul (by omega) hby
  have hold : (Builtin.firstCells i.size m (.slice (some x) m c)).run Try.prog w.drew = .ok olds.toArray w.drew := by
    rw [hsz]
    show (loadCells x (m * size)).run Try.prog w.drew = _
    rw [← hl]
    exact run_loadCells_list w.drew x olds hr
  have h := Lib.run_append_grow_zeros w t tn ty e i z .i64 .i64 T.und htn hi hz (some x) m c olds hold k hk (by rw [hsz]; exact T.pos) hroom (by omega) (by omega) (growslice_fits hroom (by omega))
  have hge := grownCap_ge w (m + k) c e
  have hG := grownCap_le_maxLen w (m + k) c e (by unfold maxLen; omega)
  refine ⟨_, _, (Builtin.zeroCells z.cells k ++ Builtin.zeroCells z.cells (grownCap w (m + k) c e - (m + k))).toList, h, ?_, ?_, hge, hG, rfl, rfl, rfl, by simp, fun j hj _ => Below.heap_alloc w.drew _ j hj⟩
  · refine (heap_alloc_new w.drew _).trans ?_
    rw [Array.append_assoc, ← List.append_toArray, Array.toArray_toList]
  · rw [Array.length_toList, Array.size_append, size_zeroCells, size_zeroCells, T.cells, ← Nat.add_mul, show k + (grownCap w (m + k) c e - (m + k)) = grownCap w (m + k) c e - m by omega]
theorem wpList_appZ (T : Elt t e size z) {tn : TypeId} (htn : Try.prog.underlying tn = some (.int .i64)) {x : Addr} {m c k : Nat} {olds : List Value} (hl : olds.length = m * size) (hr : ∀ j v, olds[j]? = some v → w.cell? (x.add j) = some v) (hk : 0 < k) (hroom : c < m + k) (hm : m + k ≤ 2000000) {kI : Int} (hkI : kI = (k : Int))
    (hgd : o.guard = none) (s y : Operand) (ho : o.op = .call { callee := .builtin .append, args := #[s, y], argTypes := #[t, tn] }) (hs : a.eval s = .slice (some x) m c) (hy : a.eval y = .int .i64 kI)
    (h : ∀ w' G rest, RowIs w' w.heap.size e (olds ++ rest) → rest.length = (G - m) * size → m + k ≤ G → G ≤ maxLen → w.grownBy w' none → wpList Try.prog ops Q rest' (a.put o.dst (.slice (some ⟨w.heap.size, 0, none⟩) (m + k) G)) w') : wpList Try.prog ops Q (o :: rest') a w := by
  subst hkI
  obtain ⟨w', G, rest, hrun, h2, h3, h4, h5, h6⟩ := run_appZ T tn o.type htn hl hr hk hroom hm
  refine wpList_plain hgd fun _ hK => ?_
  unfold Oper.wp execOp
  simp only [ho, resolve, invoke, builtin, Sem.run_bind, Sem.run_pure, Result.andThen_ok, List.map_toArray, List.map_cons, List.map_nil, hs, hy, hrun]
  exact hK _ _ (h w' G rest h2 h3 h4 h5 h6)
end
/-! ### what stands in the row at the end -/
theorem laid_split {A X R cs : List Value} {o : Nat} (hA : A.length = o) (hX : X.length = cs.length) : laid (A ++ X ++ R) o cs = A ++ cs ++ R := by
  unfold laid
  subst hA
  rw [List.append_assoc A X R, List.take_left', List.drop_append, List.drop_of_length_le (by omega), List.nil_append, Nat.add_sub_cancel_left, List.drop_append, List.drop_of_length_le (by omega), List.nil_append, hX, Nat.sub_self, List.drop_zero]
  rfl
/-- The tail first, then the piece. -/
theorem laid_tail {A X Y Z q r : List Value} {i j : Nat} (hA : A.length = i) (hX : i + X.length = j) (hq : q.length = X.length) (hr : r.length = Y.length) : laid (laid (A ++ X ++ Y ++ Z) j r) i q = A ++ q ++ r ++ Z := by
  rw [laid_split (A := A ++ X) (X := Y) (by simp; omega) hr.symm, List.append_assoc (A ++ X) r Z, laid_split hA hq.symm, List.append_assoc (A ++ q)]
/-- The piece first, then the tail. -/
theorem laid_head {A X Y Z q r : List Value} {i j : Nat} (hA : A.length = i) (hX : i + X.length = j) (hq : q.length = X.length) (hr : r.length = Y.length) : laid (laid (A ++ X ++ Y ++ Z) i q) j r = A ++ q ++ r ++ Z := by
  rw [List.append_assoc (A ++ X), laid_split hA hq.symm, ← List.append_assoc (A ++ q), laid_split (A := A ++ q) (X := Y) (by simp; omega) hr.symm]
/-- A list in four parts. -/
theorem parts4 (L : List Value) (i m k : Nat) (h : i + m + k ≤ L.length) : ∃ A X Y Z, L = A ++ X ++ Y ++ Z ∧ A = L.take i ∧ A.length = i ∧ X.length = m ∧ Y.length = k :=
  ⟨L.take i, (L.drop i).take m, ((L.drop i).drop m).take k, ((L.drop i).drop m).drop k, by
    rw [List.append_assoc (L.take i ++ _), List.take_append_drop, List.append_assoc, List.take_append_drop, List.take_append_drop], rfl, by rw [List.length_take]; omega, by rw [List.length_take, List.length_drop]; omega, by rw [List.length_take, List.length_drop, List.length_drop]; omega⟩
end Go.Proofs.Ytlbebbkkpjgboaa
