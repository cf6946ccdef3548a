/-
  Lists in memory: what a slice that is handed on reads as; rows of a call's own.
-/
import Derived.Test.YtlbebbkkpjgboaaRows
import Derived.WalkKit
import Derived.Lib.Hide
import Derived.Laws.OwnMore
import Derived.Deep.AppendLies
import Derived.Deep.Onto
import Derived.Maps.AppendAt
import Derived.OwnWalk
import Derived.Deep.QuietTactic
import Derived.BigQuiet
import Derived.WalkSpells
namespace Go.Proofs.Ytlbebbkkpjgboaa
open Go.RowKit
set_option linter.unusedVariables false
/-- From x on the cells xs can be read, in a block below B. -/
def Rds (w : World) (B : Nat) (x : Option Addr) (xs : List Value) : Prop :=
  ∀ j u, xs[j]? = some u → ∃ b off, x = some ⟨b, off, none⟩ ∧ b < B ∧ w.cell? ⟨b, off + j, none⟩ = some u
theorem Rds.keep {w w' : World} {B : Nat} {x : Option Addr} {xs : List Value} (h : Rds w B x xs) (hk : ∀ k, k < B → w'.heap[k]? = w.heap[k]?) : Rds w' B x xs := by
  intro j u hu
  obtain ⟨b, off, h1, h2, h3⟩ := h j u hu
  exact ⟨b, off, h1, h2, (World.cell?_of_block (w := w) (w' := w') (a := ⟨b, off + j, none⟩) (hk b h2)).trans h3⟩
theorem Rds.below {w w' : World} {B B' : Nat} {x : Option Addr} {xs : List Value} (h : Rds w B x xs) (hb : Below B' w w') (hB : B ≤ B') : Rds w' B x xs := h.keep fun k hk => hb.block k (by omega)
theorem Rds.more {w : World} {B B' : Nat} {x : Option Addr} {xs : List Value} (h : Rds w B x xs) (hB : B ≤ B') : Rds w B' x xs := fun j u hu => by
  obtain ⟨b, off, h1, h2, h3⟩ := h j u hu
  exact ⟨b, off, h1, by omega, h3⟩
theorem Rds.nil (w : World) (B : Nat) (x : Option Addr) : Rds w B x [] := fun j u hu => by simp at hu
theorem Rds.take {w : World} {B : Nat} {x : Option Addr} {xs : List Value} (h : Rds w B x xs) (n : Nat) : Rds w B x (xs.take n) := fun j u hu => by
  rw [List.getElem?_take] at hu
  split at hu
  · exact h j u hu
  · cases hu
theorem Rds.grown {w w' : World} {B : Nat} {x : Option Addr} {xs : List Value} {row : Option Nat} (h : Rds w B x xs) (hg : w.grownBy w' row) (hB : B ≤ w.heap.size) (hr : ∀ k, row = some k → B ≤ k) : Rds w' B x xs :=
  h.keep fun k hk => hg.block k (by omega) (fun e => by have := hr k e.symm; omega)
theorem Rds.alloc {w : World} {B : Nat} {x : Option Addr} {xs : List Value} (h : Rds w B x xs) (hB : B ≤ w.heap.size) (o : Obj) : Rds (w.alloc o) B x xs := h.keep fun k hk => Below.heap_alloc _ _ _ (by omega)
theorem Rds.drew {w : World} {B : Nat} {x : Option Addr} {xs : List Value} (h : Rds w B x xs) : Rds w.drew B x xs := h
/-- A row of a call's own reads as what it holds. -/
theorem own_reads {w : World} {base : Nat} {e : TypeId} {size : Nat} {v : Value} {n : Nat} {xs : List Value} (h : w.ownsRow base e size v n xs) :
    ∃ x cap, v = .slice x n cap ∧ n ≤ cap ∧ cap ≤ maxLen ∧ Rds w w.heap.size x xs := by
  obtain ⟨hl, h2⟩ := h
  rcases h2 with ⟨rfl, rfl⟩ | ⟨g, cap, cur, rfl, hb, hg, hn, hm, hs, rfl⟩
  · have : xs = [] := List.eq_nil_of_length_eq_zero (by omega)
    subst this
    exact ⟨none, 0, rfl, Nat.le_refl _, by unfold maxLen; omega, Rds.nil _ _ _⟩
  · refine ⟨_, cap, rfl, hn, hm, fun j u hu => ⟨g, 0, rfl, (Array.getElem?_eq_some_iff.1 hg).1, ?_⟩⟩
    rw [cell_of_row w g _ cur e (0, 0) hg]
    rw [List.getElem?_take] at hu
    split at hu
    · simpa using hu
    · cases hu
/-- The slice (x, n, cap) reads as the numbers l. -/
structure Ints (w : World) (B : Nat) (x : Option Addr) (n cap : Nat) (l : List Int) : Prop where
  len : l.length = n
  le : n ≤ cap
  max : cap ≤ maxLen
  rds : Rds w B x (l.map (Value.int .i64))
/-- The number at a place. -/
def nthI (l : List Int) (k : Nat) : Int := l.getD k 0
theorem nthI_get {l : List Int} {k : Nat} (h : k < l.length) : nthI l k = l[k] := by unfold nthI; rw [List.getD_eq_getElem?_getD, List.getElem?_eq_getElem h]; rfl
theorem nthI_some {l : List Int} {k : Nat} (h : k < l.length) : l[k]? = some (nthI l k) := by rw [nthI_get h, List.getElem?_eq_getElem h]
theorem Ints.at {w : World} {B : Nat} {x : Option Addr} {n cap : Nat} {l : List Int} (h : Ints w B x n cap l) {k : Nat} (hk : k < n) :
    ∃ b off, x = some ⟨b, off, none⟩ ∧ b < B ∧ w.cell? ⟨b, off + k, none⟩ = some (.int .i64 (nthI l k)) := by
  refine h.rds k _ ?_
  have := h.len
  rw [List.getElem?_map, nthI_some (by omega)]; rfl
theorem Ints.below {w w' : World} {B B' : Nat} {x : Option Addr} {n cap : Nat} {l : List Int} (h : Ints w B x n cap l) (hb : Below B' w w') (hB : B ≤ B') : Ints w' B x n cap l := ⟨h.len, h.le, h.max, h.rds.below hb hB⟩
theorem Ints.keep {w w' : World} {B : Nat} {x : Option Addr} {n cap : Nat} {l : List Int} (h : Ints w B x n cap l) (hk : ∀ k, k < B → w'.heap[k]? = w.heap[k]?) : Ints w' B x n cap l := ⟨h.len, h.le, h.max, h.rds.keep hk⟩
theorem Ints.more {w : World} {B B' : Nat} {x : Option Addr} {n cap : Nat} {l : List Int} (h : Ints w B x n cap l) (hB : B ≤ B') : Ints w B' x n cap l := ⟨h.len, h.le, h.max, h.rds.more hB⟩
/-- A row of numbers of a call's own. -/
def OwnI (w : World) (base : Nat) (v : Value) (l : List Int) : Prop := w.ownsRow base 3 1 v l.length (l.map (Value.int .i64))
theorem OwnI.ints {w : World} {base : Nat} {v : Value} {l : List Int} (h : OwnI w base v l) : ∃ x n cap, v = .slice x n cap ∧ Ints w w.heap.size x n cap l := by
  obtain ⟨x, cap, h1, h2, h3, h4⟩ := own_reads h
  exact ⟨x, _, cap, h1, rfl, h2, h3, h4⟩
theorem OwnI.below {w w' : World} {base : Nat} {v : Value} {l : List Int} (h : OwnI w base v l) (hb : Below w.heap.size w w') : OwnI w' base v l :=
  World.ownsRow.kept (row := none) h ⟨hb.os, hb.tape, hb.output, hb.size, fun k hk _ => hb.block k hk⟩ (by cases hv : v.ownBlock <;> simp)
theorem OwnI.mono {w : World} {base base' : Nat} {v : Value} {l : List Int} (h : OwnI w base v l) (hb : base' ≤ base) : OwnI w base' v l := World.ownsRow.mono h hb
theorem Try.infoInt : (Try.prog.info? 3).map (fun i => (i.zero, i.size, i.bytes)) = some (some (.int .i64 0), 1, 8) := by kernel_rfl
theorem below_of_none {B : Nat} {a w w' : World} (h : Below B a w) (hg : w.grownBy w' none) (hB : B ≤ w.heap.size) : Below B a w' := h.grown hg hB (fun _ e => by cases e)
/-! ### element types; append; make -/
/-- t is the type of slices of e, whose elements take 'size' cells. -/
structure Elt (t e : TypeId) (size : Nat) (z : Value) : Prop where
  und : Try.prog.underlying t = some (.slice e)
  info : ∃ i, Try.prog.info? e = some i ∧ i.zero = some z ∧ i.size = size ∧ i.bytes ≤ 1000
  cells : z.cells.size = size
  pos : 0 < size
theorem elt_of {t e : TypeId} {size by' : Nat} {z : Value} (h : Try.prog.underlying t = some (.slice e)) (hi : (Try.prog.info? e).map (fun i => (i.zero, i.size, i.bytes)) = some (some z, size, by')) (hb : by' ≤ 1000) (hc : z.cells.size = size) (hp : 0 < size) : Elt t e size z := by
  refine ⟨h, ?_, hc, hp⟩
  obtain ⟨i, h1, h2⟩ := Option.map_eq_some_iff.1 hi
  simp only [Prod.mk.injEq] at h2
  exact ⟨i, h1, h2.1, h2.2.1, by omega⟩
theorem eltInt : Elt 31 3 1 (.int .i64 0) := elt_of Try.underlying31 Try.infoInt (by decide) rfl (by decide)
section
variable {ops : Array Oper} {rest : List Oper} {o : Oper} {a : Act} {Q : Exit → Act → World → Prop} {t e : TypeId} {size : Nat} {z : Value} {w : World}
theorem addr_add (b off j : Nat) : (⟨b, off, none⟩ : Addr).add j = ⟨b, off + j, none⟩ := by unfold Addr.add; split <;> simp_all
/-- append of one element to a row of the call's own: the element lies in a block that was just made. -/
theorem wpList_app1 (E : Elt t e size z) {base n : Nat} {v : Value} {xs : List Value} (cs : Array Value) (hown : w.ownsRow base e size v n xs) (hcs : cs.size = size) (h1 : ∀ u ∈ cs.toList, u.oneCell' = true) (hn : n ≤ 2000000) (hbase : base ≤ w.heap.size)
    (hgd : o.guard = none) (s x : Operand) (ho : o.op = .call { callee := .builtin .append, args := #[s, x], argTypes := #[t, t] }) (hs : a.eval s = v) (hx : a.eval x = .slice (some ⟨w.heap.size, 0, none⟩) 1 1)
    (h : ∀ v' w', w'.ownsRow base e size v' (n + 1) (xs ++ cs.toList) → w.grownBy w' v.ownBlock → wpList Try.prog ops Q rest (a.put o.dst v') w') : wpList Try.prog ops Q (o :: rest) a (w.alloc (.cells cs e)) := by
  obtain ⟨i, hi, hz, hsz, hby⟩ := E.info
  refine wpList_append_own_at _ hgd s x t ho base e i z size i.bytes E.und hi hz hsz rfl E.cells E.pos v n xs hs (hown.alloc _) ⟨w.heap.size, 0, none⟩ 1 1 cs.toList hx (by simpa using hcs) ?_ h1 (by unfold maxLen; omega) ?_ (by simp; omega) ?_
  · intro j u hu
    rw [addr_add, Nat.zero_add]
    unfold World.cell?
    rw [heap_alloc_new]
    simpa using hu
  · have : (n + 1) * i.bytes ≤ 2000001 * 1000 := Nat.mul_le_mul (by omega) hby
    omega
  · intro v' w' h1 h2 _ _
    exact h v' w' h1 ⟨h2.os, h2.tape, h2.output, Nat.le_trans (by simp) h2.size, fun k hk hne => (h2.block k (by simp; omega) hne).trans (Below.heap_alloc _ _ _ hk)⟩
/-- append of a slice, nil or not, to a row of the call's own. -/
theorem run_appN (E : Elt t e size z) {base n m c B : Nat} {v : Value} {x : Option Addr} {xs news : List Value} (ty : TypeId) (hown : w.ownsRow base e size v n xs) (hr : Rds w B x news) (hl : news.length = m * size) (h1 : ∀ u ∈ news, u.oneCell' = true) (hn : n ≤ 2000000) (hm : m ≤ 2000000) (hbase : base ≤ w.heap.size) :
    ∃ v' w', (Builtin.append_ #[t, t] ty #[v, .slice x m c]).run Try.prog w = .ok v' w' ∧ w'.ownsRow base e size v' (n + m) (xs ++ news) ∧ w.grownBy w' v.ownBlock := by
  obtain ⟨i, hi, hz, hsz, hby⟩ := E.info
  by_cases h0 : news = []
  · subst h0
    have hm0 : m = 0 := by
      have := hl
      simp only [List.length_nil] at this
      rcases Nat.eq_zero_or_pos m with h | h
      · exact h
      · have := Nat.mul_pos h E.pos; omega
    subst hm0
    cases x with
    | none =>
      refine ⟨v, w, ?_, by simpa using hown, rfl, rfl, rfl, Nat.le_refl _, fun _ _ _ => rfl⟩
      rcases hown.2 with ⟨rfl, rfl⟩ | ⟨g, cap, cur, rfl, _, _, hnc, _⟩
      · simp [Builtin.append_, run_underlying E.und, sizeOf, typeInfo, hi, Builtin.lenOf, Builtin.firstCells]
      · simp [Builtin.append_, run_underlying E.und, sizeOf, typeInfo, hi, Builtin.lenOf, Builtin.firstCells, hnc, storeCells]
    | some ad =>
      obtain ⟨v', w', h2, h3, h4, _⟩ := run_append_own_at (P := Try.prog) w base t ty e i z size i.bytes E.und hi hz hsz rfl E.cells E.pos v n xs hown ad 0 c [] (by simp) (by intro j u hu; simp at hu) (by intro u hu; simp at hu) (by unfold maxLen; omega) (by have : (n + 0) * i.bytes ≤ 2000000 * 1000 := Nat.mul_le_mul (by omega) hby; omega) hbase
      exact ⟨v', w', h2, h3, h4⟩
  · have hpos : 0 < news.length := List.length_pos_iff.2 h0
    obtain ⟨b, off, rfl, _, _⟩ := hr 0 _ (List.getElem?_eq_getElem hpos)
    obtain ⟨v', w', h2, h3, h4, _⟩ := run_append_own_at (P := Try.prog) w base t ty e i z size i.bytes E.und hi hz hsz rfl E.cells E.pos v n xs hown ⟨b, off, none⟩ m c news hl (by
        intro j u hu
        obtain ⟨b', off', he, _, hc⟩ := hr j u hu
        simp only [Option.some.injEq, Addr.mk.injEq, and_true] at he
        obtain ⟨rfl, rfl⟩ := he
        rw [addr_add]; exact hc) h1 (by unfold maxLen; omega) (by have : (n + m) * i.bytes ≤ 4000000 * 1000 := Nat.mul_le_mul (by omega) hby; omega) hbase
    exact ⟨v', w', h2, h3, h4⟩
theorem wpList_appN (E : Elt t e size z) {base n m c B : Nat} {v : Value} {x : Option Addr} {xs news : List Value} (hown : w.ownsRow base e size v n xs) (hr : Rds w B x news) (hl : news.length = m * size) (h1 : ∀ u ∈ news, u.oneCell' = true) (hn : n ≤ 2000000) (hm : m ≤ 2000000) (hbase : base ≤ w.heap.size)
    (hgd : o.guard = none) (s y : Operand) (ho : o.op = .call { callee := .builtin .append, args := #[s, y], argTypes := #[t, t] }) (hs : a.eval s = v) (hy : a.eval y = .slice x m c)
    (h : ∀ v' w', w'.ownsRow base e size v' (n + m) (xs ++ news) → w.grownBy w' v.ownBlock → wpList Try.prog ops Q rest (a.put o.dst v') w') : wpList Try.prog ops Q (o :: rest) a w := by
  obtain ⟨v', w', hrun, h2, h3⟩ := run_appN (w := w) E (c := c) o.type hown hr hl h1 hn hm hbase
  refine wpList_plain hgd fun _ hK => ?_
  unfold Oper.wp execOp
  simp only [ho, resolve, invoke, builtin, Sem.run_bind, Sem.run_pure, Result.andThen_ok, List.map_toArray, List.map_cons, List.map_nil, hs, hy, hrun]
  exact hK _ _ (h v' w' h2 h3)
end
/-- What 'make' lays. -/
theorem run_mk {t e : TypeId} {size : Nat} {z : Value} (E : Elt t e size z) (n : Nat) (hn : n ≤ 2000000) (w : World) :
    (Instr.makeSlice t (.int .i64 (n : Int)) (.int .i64 (n : Int))).run Try.prog w = .ok (.slice (some ⟨w.heap.size, 0, none⟩) n n) (w.alloc (.cells (madeCells z.cells (n * size)) e)) := by
  obtain ⟨i, hi, hz, hsz, hby⟩ := E.info
  have hb : (i.bytes : Int) * (n : Int) ≤ 281474976710656 := by
    have h1 : i.bytes * n ≤ 1000 * 2000000 := Nat.mul_le_mul hby hn
    have h2 : ((i.bytes * n : Nat) : Int) = (i.bytes : Int) * (n : Int) := Int.natCast_mul _ _
    omega
  have hr := run_make (P := Try.prog) w t e i z E.und hi hz .i64 .i64 n n (by omega) (Int.le_refl _) hb (by omega)
  simp only [Int.toNat_natCast, hsz] at hr
  exact hr
theorem own_mk {t e : TypeId} {size : Nat} {z : Value} (E : Elt t e size z) (w : World) (n : Nat) (hn : n ≤ 2000000) {base : Nat} (hb : base ≤ w.heap.size) :
    (w.alloc (.cells (madeCells z.cells (n * size)) e)).ownsRow base e size (.slice (some ⟨w.heap.size, 0, none⟩) n n) n (madeCells z.cells (n * size)).toList :=
  World.ownsRow_lit w _ n hb (by unfold maxLen; omega) (size_madeCells _ _)
theorem zerosI (n : Nat) : (madeCells (Value.int .i64 0).cells (n * 1)).toList = (List.replicate n (0 : Int)).map (Value.int .i64) := by
  rw [Nat.mul_one]; show (madeCells #[.int .i64 0] n).toList = _; rw [toList_madeCells_one, List.map_replicate]
theorem own_mkI (w : World) (n : Nat) (hn : n ≤ 2000000) {base : Nat} (hb : base ≤ w.heap.size) :
    (w.alloc (.cells (madeCells #[.int .i64 0] n) 3)).ownsRow base 3 1 (.slice (some ⟨w.heap.size, 0, none⟩) n n) n ((List.replicate n (0 : Int)).map (Value.int .i64)) := by
  have h := own_mk eltInt w n hn hb
  rw [zerosI, Nat.mul_one] at h
  exact h
theorem one_ints (l : List Int) : ∀ u ∈ l.map (Value.int .i64), u.oneCell' = true := by
  intro u hu; obtain ⟨n, _, rfl⟩ := List.mem_map.1 hu; rfl
theorem grownBy_into {a w w' : World} {r : Option Nat} {v : Value} (h : a.grownBy w r) (hg : w.grownBy w' v.ownBlock) (hv : ∀ k, v.ownBlock = some k → a.heap.size ≤ k) : a.grownBy w' r :=
  ⟨hg.os.trans h.os, hg.tape.trans h.tape, hg.output.trans h.output, Nat.le_trans h.size hg.size, fun k hk hne => (hg.block k (Nat.lt_of_lt_of_le hk h.size) (fun e => by have := hv k e.symm; omega)).trans (h.block k hk hne)⟩
theorem grownBy_below {a b : World} (h : Below a.heap.size a b) (r : Option Nat) : a.grownBy b r := ⟨h.os, h.tape, h.output, h.size, fun k hk _ => h.block k hk⟩
theorem below_own {B : Nat} {a w w' : World} {v : Value} (h : Below B a w) (hg : w.grownBy w' v.ownBlock) (hB : B ≤ w.heap.size) (hv : ∀ k, v.ownBlock = some k → B ≤ k) : Below B a w' := h.grown hg hB hv
theorem own_at {w : World} {base : Nat} {e : TypeId} {size n : Nat} {v : Value} {xs : List Value} (h : w.ownsRow base e size v n xs) {k : Nat} (hk : v.ownBlock = some k) : base ≤ k := (h.lt k hk).1
theorem own_drew {w : World} {base : Nat} {e : TypeId} {size n : Nat} {v : Value} {xs : List Value} (h : w.ownsRow base e size v n xs) : w.drew.ownsRow base e size v n xs := h
theorem own_drewN {w : World} {base : Nat} {e : TypeId} {size n : Nat} {v : Value} {xs : List Value} (h : w.ownsRow base e size v n xs) (k : Nat) : (w.drewN k).ownsRow base e size v n xs := h
theorem below_drewN {B : Nat} {a w : World} (h : Below B a w) (n : Nat) : Below B a (w.drewN n) := ⟨h.os, h.tape, h.output, h.size, h.block⟩
section
variable {ops : Array Oper} {rest : List Oper} {o : Oper} {a : Act} {Q : Exit → Act → World → Prop} {w : World}
theorem wpList_app1I {base : Nat} {v : Value} {l : List Int} (u : Int) (hown : OwnI w base v l) (hn : l.length ≤ 2000000) (hbase : base ≤ w.heap.size)
    (hgd : o.guard = none) (s x : Operand) (ho : o.op = .call { callee := .builtin .append, args := #[s, x], argTypes := #[31, 31] }) (hs : a.eval s = v) (hx : a.eval x = .slice (some ⟨w.heap.size, 0, none⟩) 1 1)
    (h : ∀ v' w', OwnI w' base v' (l ++ [u]) → w.grownBy w' v.ownBlock → wpList Try.prog ops Q rest (a.put o.dst v') w') : wpList Try.prog ops Q (o :: rest) a (w.alloc (.cells #[.int .i64 u] 3)) := by
  refine wpList_app1 eltInt #[.int .i64 u] hown rfl (by intro u hu; simp at hu; subst hu; rfl) hn hbase hgd s x ho hs hx fun v' w' h1 h2 => h v' w' ?_ h2
  unfold OwnI
  rw [List.length_append, List.map_append]
  exact h1
theorem wpList_appNI {base m c B : Nat} {v : Value} {x : Option Addr} {l l' : List Int} (hown : OwnI w base v l) (hr : Ints w B x m c l') (hn : l.length ≤ 2000000) (hm : m ≤ 2000000) (hbase : base ≤ w.heap.size)
    (hgd : o.guard = none) (s y : Operand) (ho : o.op = .call { callee := .builtin .append, args := #[s, y], argTypes := #[31, 31] }) (hs : a.eval s = v) (hy : a.eval y = .slice x m c)
    (h : ∀ v' w', OwnI w' base v' (l ++ l') → w.grownBy w' v.ownBlock → wpList Try.prog ops Q rest (a.put o.dst v') w') : wpList Try.prog ops Q (o :: rest) a w := by
  refine wpList_appN eltInt hown hr.rds (by simpa using hr.len) (one_ints _) hn hm hbase hgd s y ho hs hy fun v' w' h1 h2 => h v' w' ?_ h2
  unfold OwnI
  rw [List.length_append, List.map_append, hr.len]
  exact h1
end
theorem Ints.alloc {w : World} {B : Nat} {x : Option Addr} {n cap : Nat} {l : List Int} (h : Ints w B x n cap l) (hB : B ≤ w.heap.size) (o : Obj) : Ints (w.alloc o) B x n cap l := ⟨h.len, h.le, h.max, h.rds.alloc hB o⟩
theorem own_newI (w : World) : OwnI (w.alloc (.cells #[] 3)) w.heap.size (.slice (some ⟨w.heap.size, 0, none⟩) 0 0) [] := World.ownsRow_lit w #[] 0 (Nat.le_refl _) (by decide) rfl
theorem OwnI.at {w : World} {base : Nat} {v : Value} {l : List Int} (h : OwnI w base v l) : ∀ k, v.ownBlock = some k → base ≤ k := fun k hk => own_at h hk
end Go.Proofs.Ytlbebbkkpjgboaa
