/-
  Lists in memory whose elements take one or more cells: what a slice reads as; rows of a call's own; append; make.
-/
import Derived.Test.YtlbebbkkpjgboaaMem
namespace Go.Proofs.Ytlbebbkkpjgboaa
open Go.RowKit
set_option linter.unusedVariables false
/-- An element's cells: 'size' many. -/
structure Enc {α : Type} (g : α → List Value) (size : Nat) : Prop where
  len : ∀ a, (g a).length = size
  one : ∀ a, ∀ u ∈ g a, u.oneCell' = true
  pos : 0 < size
theorem Enc.length {α : Type} {g : α → List Value} {size : Nat} (E : Enc g size) (l : List α) : (l.flatMap g).length = l.length * size := by
  induction l with
  | nil => simp
  | cons a l ih => rw [List.flatMap_cons, List.length_append, ih, E.len, List.length_cons, Nat.succ_mul, Nat.add_comm]
theorem Enc.get {α : Type} {g : α → List Value} {size : Nat} (E : Enc g size) : ∀ (l : List α) (k j : Nat) (d : α), k < l.length → j < size → (l.flatMap g)[k * size + j]? = (g (l.getD k d))[j]?
  | [], k, j, d, hk, hj => by simp at hk
  | a :: l, 0, j, d, hk, hj => by rw [List.flatMap_cons, Nat.zero_mul, Nat.zero_add, List.getElem?_append_left (by rw [E.len]; exact hj)]; rfl
  | a :: l, k + 1, j, d, hk, hj => by
    rw [List.flatMap_cons, List.getElem?_append_right (by rw [E.len, Nat.succ_mul]; omega), E.len, show (k + 1) * size + j - size = k * size + j by rw [Nat.succ_mul]; omega, Enc.get E l k j d (by simpa using hk) hj]
    rfl
theorem Enc.oneAll {α : Type} {g : α → List Value} {size : Nat} (E : Enc g size) (l : List α) : ∀ u ∈ l.flatMap g, u.oneCell' = true := by
  intro u hu; obtain ⟨a, _, h⟩ := List.mem_flatMap.1 hu; exact E.one a u h
/-- The slice (x, n, cap) reads as the list l. -/
structure Lst {α : Type} (g : α → List Value) (w : World) (B : Nat) (x : Option Addr) (n cap : Nat) (l : List α) : Prop where
  len : l.length = n
  le : n ≤ cap
  max : cap ≤ maxLen
  rds : Rds w B x (l.flatMap g)
section
variable {α : Type} {g : α → List Value} {size : Nat} {w w' : World} {B B' : Nat} {x : Option Addr} {n cap : Nat} {l : List α}
theorem Lst.below (h : Lst g w B x n cap l) (hb : Below B' w w') (hB : B ≤ B') : Lst g w' B x n cap l := ⟨h.len, h.le, h.max, h.rds.below hb hB⟩
theorem Lst.keep (h : Lst g w B x n cap l) (hk : ∀ k, k < B → w'.heap[k]? = w.heap[k]?) : Lst g w' B x n cap l := ⟨h.len, h.le, h.max, h.rds.keep hk⟩
theorem Lst.more (h : Lst g w B x n cap l) (hB : B ≤ B') : Lst g w B' x n cap l := ⟨h.len, h.le, h.max, h.rds.more hB⟩
theorem Lst.alloc (h : Lst g w B x n cap l) (hB : B ≤ w.heap.size) (o : Obj) : Lst g (w.alloc o) B x n cap l := ⟨h.len, h.le, h.max, h.rds.alloc hB o⟩
theorem Lst.grown {row : Option Nat} (h : Lst g w B x n cap l) (hg : w.grownBy w' row) (hB : B ≤ w.heap.size) (hr : ∀ k, row = some k → B ≤ k) : Lst g w' B x n cap l := ⟨h.len, h.le, h.max, h.rds.grown hg hB hr⟩
theorem Lst.drewN (h : Lst g w B x n cap l) (m : Nat) : Lst g (w.drewN m) B x n cap l := ⟨h.len, h.le, h.max, h.rds⟩
theorem Lst.at (E : Enc g size) (h : Lst g w B x n cap l) {k j : Nat} {v : Value} (d : α) (hk : k < n) (hj : j < size) (hv : (g (l.getD k d))[j]? = some v) :
    ∃ b off, x = some ⟨b, off, none⟩ ∧ b < B ∧ w.cell? ⟨b, off + (k * size + j), none⟩ = some v := by
  refine h.rds (k * size + j) v ?_
  rw [E.get l k j d (by have := h.len; omega) hj]; exact hv
end
/-- A row of a call's own. -/
def OwnL {α : Type} (g : α → List Value) (e : TypeId) (size : Nat) (w : World) (base : Nat) (v : Value) (l : List α) : Prop := w.ownsRow base e size v l.length (l.flatMap g)
section
variable {α : Type} {g : α → List Value} {e t : TypeId} {size : Nat} {z : Value} {w w' : World} {base base' : Nat} {v : Value} {l : List α}
theorem OwnL.lst (h : OwnL g e size w base v l) : ∃ x n cap, v = .slice x n cap ∧ Lst g w w.heap.size x n cap l := by
  obtain ⟨x, cap, h1, h2, h3, h4⟩ := own_reads h
  exact ⟨x, _, cap, h1, rfl, h2, h3, h4⟩
theorem OwnL.below (h : OwnL g e size w base v l) (hb : Below w.heap.size w w') : OwnL g e size w' base v l :=
  World.ownsRow.kept (row := none) h ⟨hb.os, hb.tape, hb.output, hb.size, fun k hk _ => hb.block k hk⟩ (by cases hv : v.ownBlock <;> simp)
theorem OwnL.mono (h : OwnL g e size w base v l) (hb : base' ≤ base) : OwnL g e size w base' v l := World.ownsRow.mono h hb
theorem OwnL.at (h : OwnL g e size w base v l) : ∀ k, v.ownBlock = some k → base ≤ k := fun k hk => own_at h hk
theorem OwnL.drewN (h : OwnL g e size w base v l) (m : Nat) : OwnL g e size (w.drewN m) base v l := h
theorem OwnL.nil (g : α → List Value) (e : TypeId) (size : Nat) (w : World) (base : Nat) : OwnL g e size w base (.slice none 0 0) [] := World.ownsRow_nil w base e size
theorem OwnL.new (g : α → List Value) (e : TypeId) {size : Nat} (w : World) : OwnL g e size (w.alloc (.cells #[] e)) w.heap.size (.slice (some ⟨w.heap.size, 0, none⟩) 0 0) [] := World.ownsRow_lit w #[] 0 (Nat.le_refl _) (by decide) (by simp)
theorem OwnI.nil (w : World) (base : Nat) : OwnI w base (.slice none 0 0) [] := World.ownsRow_nil w base _ 1
theorem OwnI.drewN {w : World} {base : Nat} {v : Value} {l : List Int} (h : OwnI w base v l) (m : Nat) : OwnI (w.drewN m) base v l := h
variable {ops : Array Oper} {rest : List Oper} {o : Oper} {a : Act} {Q : Exit → Act → World → Prop}
theorem wpList_app1L (T : Elt t e size z) (E : Enc g size) (u : α) (cs : Array Value) (hcs : cs.toList = g u) (hown : OwnL g e size w base v l) (hn : l.length ≤ 2000000) (hbase : base ≤ w.heap.size)
    (hgd : o.guard = none) (s x : Operand) (ho : o.op = .call { callee := .builtin .append, args := #[s, x], argTypes := #[t, t] }) (hs : a.eval s = v) (hx : a.eval x = .slice (some ⟨w.heap.size, 0, none⟩) 1 1)
    (h : ∀ v' w', OwnL g e size w' base v' (l ++ [u]) → w.grownBy w' v.ownBlock → wpList Try.prog ops Q rest (a.put o.dst v') w') : wpList Try.prog ops Q (o :: rest) a (w.alloc (.cells cs e)) := by
  refine wpList_app1 T cs hown (by have := E.len u; rw [← hcs] at this; simpa using this) (by rw [hcs]; exact E.one u) hn hbase hgd s x ho hs hx fun v' w' h1 h2 => h v' w' ?_ h2
  unfold OwnL
  rw [List.length_append, List.flatMap_append, List.flatMap_singleton, ← hcs]
  exact h1
end
theorem le_drew {a : Nat} {w : World} (h : a ≤ w.heap.size) : a ≤ w.drew.heap.size := h
theorem le_alloc {a : Nat} {w : World} (h : a ≤ w.heap.size) (o : Obj) : a ≤ (w.alloc o).heap.size := by simp; omega
theorem eq_drew {a : Nat} {w : World} (h : a = w.heap.size) : a = w.drew.heap.size := h
theorem eq_alloc {a : Nat} {w : World} (h : a = w.heap.size + 1) (o : Obj) : a = (w.alloc o).heap.size := by simp; omega
theorem eq_allocS {a : Nat} {w : World} (h : a = w.heap.size) (o : Obj) : a + 1 = (w.alloc o).heap.size := by simp; omega
/-! ### a list appended to a list -/
section
variable {ops : Array Oper} {rest : List Oper} {o : Oper} {a : Act} {Q : Exit → Act → World → Prop} {K : Act → World → Prop} {P0 : Prop} {t e : TypeId} {size : Nat} {z : Value} {w : World}
/-- append of a slice, nil or not, to a row of the call's own. -/
theorem run_appN2 (E : Elt t e size z) {base n m c B : Nat} {v : Value} {x : Option Addr} {xs news : List Value} (ty : TypeId) (hown : w.ownsRow base e size v n xs) (hr : Rds w B x news) (hl : news.length = m * size) (h1 : ∀ u ∈ news, u.oneCell' = true) (hn : n ≤ 2000000) (hm : m ≤ 2000000) (hbase : base ≤ w.heap.size) :
    ∃ v' w', (Builtin.append_ #[t, t] ty #[v, .slice x m c]).run Try.prog w = .ok v' w' ∧ w'.ownsRow base e size v' (n + m) (xs ++ news) ∧ w.grownBy w' v.ownBlock ∧ (v'.ownBlock = v.ownBlock ∨ v'.ownBlock = some w.heap.size) := by
  obtain ⟨i, hi, hz, hsz, hby⟩ := E.info
  by_cases h0 : news = []
  · subst h0
    have hm0 : m = 0 := by
      have := hl
      simp only [List.length_nil] at this
      rcases Nat.eq_zero_or_pos m with h | h
      · exact h
      · have := Nat.mul_pos h E.pos; omega
    subst hm0
    cases x with
    | none =>
      refine ⟨v, w, ?_, by simpa using hown, ⟨rfl, rfl, rfl, Nat.le_refl _, fun _ _ _ => rfl⟩, .inl rfl⟩
      rcases hown.2 with ⟨rfl, rfl⟩ | ⟨g, cap, cur, rfl, _, _, hnc, _⟩
      · simp [Builtin.append_, run_underlying E.und, sizeOf, typeInfo, hi, Builtin.lenOf, Builtin.firstCells]
      · simp [Builtin.append_, run_underlying E.und, sizeOf, typeInfo, hi, Builtin.lenOf, Builtin.firstCells, hnc, storeCells]
    | some ad =>
      obtain ⟨v', w', h2, h3, h4, _, h5⟩ := run_append_own_at (P := Try.prog) w base t ty e i z size i.bytes E.und hi hz hsz rfl E.cells E.pos v n xs hown ad 0 c [] (by simp) (by intro j u hu; simp at hu) (by intro u hu; simp at hu) (by unfold maxLen; omega) (by have : (n + 0) * i.bytes ≤ 2000000 * 1000 := Nat.mul_le_mul (by omega) hby; omega) hbase
      exact ⟨v', w', h2, h3, h4, h5⟩
  · have hpos : 0 < news.length := List.length_pos_iff.2 h0
    obtain ⟨b, off, rfl, _, _⟩ := hr 0 _ (List.getElem?_eq_getElem hpos)
    obtain ⟨v', w', h2, h3, h4, _, h5⟩ := run_append_own_at (P := Try.prog) w base t ty e i z size i.bytes E.und hi hz hsz rfl E.cells E.pos v n xs hown ⟨b, off, none⟩ m c news hl (by
        intro j u hu
        obtain ⟨b', off', he, _, hc⟩ := hr j u hu
        simp only [Option.some.injEq, Addr.mk.injEq, and_true] at he
        obtain ⟨rfl, rfl⟩ := he
        rw [addr_add]; exact hc) h1 (by unfold maxLen; omega) (by have : (n + m) * i.bytes ≤ 4000000 * 1000 := Nat.mul_le_mul (by omega) hby; omega) hbase
    exact ⟨v', w', h2, h3, h4, h5⟩
theorem run_appL {α : Type} {g : α → List Value} (T : Elt t e size z) (E : Enc g size) {base m c B : Nat} {v : Value} {x : Option Addr} {l l' : List α} (ty : TypeId) (hown : OwnL g e size w base v l) (hr : Lst g w B x m c l') (hn : l.length ≤ 2000000) (hm : m ≤ 2000000) (hbase : base ≤ w.heap.size) :
    ∃ v' w', (Builtin.append_ #[t, t] ty #[v, .slice x m c]).run Try.prog w = .ok v' w' ∧ OwnL g e size w' base v' (l ++ l') ∧ w.grownBy w' v.ownBlock ∧ (v'.ownBlock = v.ownBlock ∨ v'.ownBlock = some w.heap.size) := by
  obtain ⟨v', w', h1, h2, h3, h4⟩ := run_appN2 (w := w) T (c := c) ty hown hr.rds (by rw [E.length, hr.len]) (E.oneAll l') hn hm hbase
  refine ⟨v', w', h1, ?_, h3, h4⟩
  unfold OwnL
  rw [List.length_append, List.flatMap_append, hr.len]
  exact h2
theorem wp_appL {α : Type} {g : α → List Value} (T : Elt t e size z) (E : Enc g size) {base m c B : Nat} {v : Value} {x : Option Addr} {l l' : List α} (hown : OwnL g e size w base v l) (hr : Lst g w B x m c l') (hn : l.length ≤ 2000000) (hm : m ≤ 2000000) (hbase : base ≤ w.heap.size)
    (s y : Operand) (ho : o.op = .call { callee := .builtin .append, args := #[s, y], argTypes := #[t, t] }) (hs : a.eval s = v) (hy : a.eval y = .slice x m c)
    (h : ∀ v' w', OwnL g e size w' base v' (l ++ l') → w.grownBy w' v.ownBlock → (v'.ownBlock = v.ownBlock ∨ v'.ownBlock = some w.heap.size) → K (a.put o.dst v') w') : o.wp Try.prog a w K Q := by
  obtain ⟨v', w', hrun, h2, h3, h4⟩ := run_appL (w := w) T E (c := c) o.type hown hr hn hm hbase
  unfold Oper.wp execOp
  simp only [ho, resolve, invoke, builtin, Sem.run_bind, Sem.run_pure, Result.andThen_ok, List.map_toArray, List.map_cons, List.map_nil, hs, hy, hrun]
  exact h v' w' h2 h3 h4
theorem wpList_appL {α : Type} {g : α → List Value} (T : Elt t e size z) (E : Enc g size) {base m c B : Nat} {v : Value} {x : Option Addr} {l l' : List α} (hown : OwnL g e size w base v l) (hr : Lst g w B x m c l') (hn : l.length ≤ 2000000) (hm : m ≤ 2000000) (hbase : base ≤ w.heap.size)
    (hgd : o.guard = none) (s y : Operand) (ho : o.op = .call { callee := .builtin .append, args := #[s, y], argTypes := #[t, t] }) (hs : a.eval s = v) (hy : a.eval y = .slice x m c)
    (h : ∀ v' w', OwnL g e size w' base v' (l ++ l') → w.grownBy w' v.ownBlock → (v'.ownBlock = v.ownBlock ∨ v'.ownBlock = some w.heap.size) → wpList Try.prog ops Q rest (a.put o.dst v') w') : wpList Try.prog ops Q (o :: rest) a w :=
  wpList_plain hgd fun _ hK => wp_appL T E hown hr hn hm hbase s y ho hs hy fun v' w' h1 h2 h3 => hK _ _ (h v' w' h1 h2 h3)
/-- .. as a step of a region that draws its order. -/
theorem step_appL {α : Type} {g : α → List Value} (T : Elt t e size z) (E : Enc g size) {base m c B : Nat} {v : Value} {x : Option Addr} {l l' : List α} (hown : OwnL g e size w base v l) (hr : Lst g w B x m c l') (hn : l.length ≤ 2000000) (hm : m ≤ 2000000) (hbase : base ≤ w.heap.size)
    (hgd : o.guard = none) (s y : Operand) (ho : o.op = .call { callee := .builtin .append, args := #[s, y], argTypes := #[t, t] }) (hs : a.eval s = v) (hy : a.eval y = .slice x m c)
    (h : ∀ v' w', OwnL g e size w' base v' (l ++ l') → w.grownBy w' v.ownBlock → (v'.ownBlock = v.ownBlock ∨ v'.ownBlock = some w.heap.size) → K (a.put o.dst v') w') :
    if Region.wanted o (yielded ops a.tmps) = true then Oper.wp Try.prog o a w K Q else P0 := by
  have hw : Region.wanted o (yielded ops a.tmps) = true := by simp [Region.wanted, hgd]
  rw [if_pos hw]
  exact wp_appL T E hown hr hn hm hbase s y ho hs hy h
end
/-- A row that is empty, in whatever block. -/
theorem OwnL.newAt {α : Type} (g : α → List Value) (e : TypeId) {size : Nat} {w : World} {k base : Nat} (h : k = w.heap.size) (hb : base ≤ k) : OwnL g e size (w.alloc (.cells #[] e)) base (.slice (some ⟨k, 0, none⟩) 0 0) [] := by
  subst h; exact (OwnL.new g e w).mono hb
theorem OwnL.alloc {α : Type} {g : α → List Value} {e : TypeId} {size : Nat} {w : World} {base : Nat} {v : Value} {l : List α} (h : OwnL g e size w base v l) (o : Obj) : OwnL g e size (w.alloc o) base v l := World.ownsRow.alloc h o
theorem OwnL.drew {α : Type} {g : α → List Value} {e : TypeId} {size : Nat} {w : World} {base : Nat} {v : Value} {l : List α} (h : OwnL g e size w base v l) : OwnL g e size w.drew base v l := h
theorem Lst.drew {α : Type} {g : α → List Value} {w : World} {B : Nat} {x : Option Addr} {n cap : Nat} {l : List α} (h : Lst g w B x n cap l) : Lst g w.drew B x n cap l := ⟨h.len, h.le, h.max, h.rds⟩
/-- The block of one element. -/
def OneAt {α : Type} (g : α → List Value) (e : TypeId) (w : World) (k : Nat) (u : α) : Prop := ∃ cs, cs.toList = g u ∧ w.heap[k]? = some (.cells cs e (0, 0))
theorem OneAt.new {α : Type} (g : α → List Value) (e : TypeId) {w : World} {k : Nat} (h : k = w.heap.size) (cs : Array Value) (u : α) (hc : cs.toList = g u) : OneAt g e (w.alloc (.cells cs e)) k u := by
  subst h; exact ⟨cs, hc, heap_alloc_new w _⟩
theorem OneAt.alloc {α : Type} {g : α → List Value} {e : TypeId} {w : World} {k : Nat} {u : α} (h : OneAt g e w k u) (o : Obj) : OneAt g e (w.alloc o) k u := by
  obtain ⟨cs, h1, h2⟩ := h
  exact ⟨cs, h1, (Below.heap_alloc w o k (Array.getElem?_eq_some_iff.1 h2).1).trans h2⟩
theorem OneAt.drew {α : Type} {g : α → List Value} {e : TypeId} {w : World} {k : Nat} {u : α} (h : OneAt g e w k u) : OneAt g e w.drew k u := h
theorem OneAt.lt {α : Type} {g : α → List Value} {e : TypeId} {w : World} {k : Nat} {u : α} (h : OneAt g e w k u) : k < w.heap.size := by obtain ⟨cs, h1, h2⟩ := h; exact (Array.getElem?_eq_some_iff.1 h2).1
theorem OneAt.grown {α : Type} {g : α → List Value} {e : TypeId} {w w' : World} {k : Nat} {u : α} {r : Option Nat} (h : OneAt g e w k u) (hg : w.grownBy w' r) (hr : some k ≠ r) : OneAt g e w' k u := by
  have hl := h.lt
  obtain ⟨cs, h1, h2⟩ := h
  exact ⟨cs, h1, (hg.block k hl hr).trans h2⟩
theorem OneAt.lst {α : Type} {g : α → List Value} {e : TypeId} {w : World} {k : Nat} {u : α} (h : OneAt g e w k u) : Lst g w w.heap.size (some ⟨k, 0, none⟩) 1 1 [u] := by
  have hl := h.lt
  obtain ⟨cs, h1, h2⟩ := h
  refine ⟨rfl, Nat.le_refl _, by decide, fun j v hv => ⟨k, 0, rfl, hl, ?_⟩⟩
  rw [List.flatMap_singleton, ← h1] at hv
  rw [cell_of_row w k _ cs e (0, 0) h2]
  simpa using hv
theorem Lst.cut {α : Type} {g : α → List Value} {w : World} {B : Nat} {x : Option Addr} {n cap m : Nat} {l : List α} (h : Lst g w B x n cap l) (hm : m ≤ n) : Lst g w B x m cap (l.take m) :=
  ⟨by rw [List.length_take]; have := h.len; omega, Nat.le_trans hm h.le, h.max, fun j u hu => h.rds j u (by
    have e : l.flatMap g = (l.take m).flatMap g ++ (l.drop m).flatMap g := by rw [← List.flatMap_append, List.take_append_drop]
    rw [e, List.getElem?_append_left (List.getElem?_eq_some_iff.1 hu).1]; exact hu)⟩
/-- The rest of a list. -/
theorem Lst.rest {α : Type} {g : α → List Value} {size : Nat} (E : Enc g size) {w : World} {B : Nat} {b off n cap m : Nat} {l : List α} (h : Lst g w B (some ⟨b, off, none⟩) n cap l) (hm : m ≤ n) : Lst g w B (some ⟨b, off + m * size, none⟩) (n - m) (cap - m) (l.drop m) :=
  ⟨by rw [List.length_drop]; have := h.len; omega, by have := h.le; omega, by have := h.max; omega, fun j u hu => by
    have e : l.flatMap g = (l.take m).flatMap g ++ (l.drop m).flatMap g := by rw [← List.flatMap_append, List.take_append_drop]
    have hl : ((l.take m).flatMap g).length = m * size := by rw [E.length, List.length_take]; have := h.len; rw [Nat.min_eq_left (by omega)]
    obtain ⟨b', off', e', hb, hc⟩ := h.rds (m * size + j) u (by rw [e, List.getElem?_append_right (by omega), hl, Nat.add_sub_cancel_left]; exact hu)
    simp only [Option.some.injEq, Addr.mk.injEq, and_true] at e'
    obtain ⟨rfl, rfl⟩ := e'
    exact ⟨b, off + m * size, rfl, hb, by rw [Nat.add_assoc]; exact hc⟩⟩
theorem Lst.empty {α : Type} (g : α → List Value) (w : World) (B : Nat) (x : Option Addr) (cap : Nat) (h : cap ≤ maxLen) : Lst g w B x 0 cap [] := ⟨rfl, Nat.zero_le _, h, Rds.nil _ _ _⟩
/-! ### two rows -/
/-- Rows of two types lie in two blocks. -/
theorem own_ne {w : World} {b1 b2 : Nat} {e1 e2 : TypeId} {s1 s2 n1 n2 : Nat} {v1 v2 : Value} {xs1 xs2 : List Value} (h1 : w.ownsRow b1 e1 s1 v1 n1 xs1) (h2 : w.ownsRow b2 e2 s2 v2 n2 xs2) (he : e1 ≠ e2) : v1.ownBlock = none ∨ v1.ownBlock ≠ v2.ownBlock := by
  rcases h1.2 with ⟨rfl, _⟩ | ⟨g, cap, cur, rfl, _, hg, _⟩
  · exact .inl rfl
  · refine .inr fun e => ?_
    rcases h2.2 with ⟨rfl, _⟩ | ⟨g', cap', cur', rfl, _, hg', _⟩
    · simp [Value.ownBlock] at e
    · simp [Value.ownBlock] at e
      subst e
      rw [hg] at hg'
      simp at hg'
      exact he hg'.2
theorem OwnI.ints' {w : World} {base : Nat} {x : Option Addr} {n c : Nat} {l : List Int} (h : OwnI w base (.slice x n c) l) : Ints w w.heap.size x n c l := by
  obtain ⟨x', n', c', e, hi⟩ := h.ints
  simp only [Value.slice.injEq] at e
  obtain ⟨rfl, rfl, rfl⟩ := e
  exact hi
theorem OwnL.lst' {α : Type} {g : α → List Value} {e : TypeId} {size : Nat} {w : World} {base : Nat} {x : Option Addr} {n c : Nat} {l : List α} (h : OwnL g e size w base (.slice x n c) l) : Lst g w w.heap.size x n c l := by
  obtain ⟨x', n', c', e, hi⟩ := h.lst
  simp only [Value.slice.injEq] at e
  obtain ⟨rfl, rfl, rfl⟩ := e
  exact hi
/-! ### texts -/
def strG (s : ByteArray) : List Value := [.string s]
theorem encStr : Enc strG 1 := ⟨fun _ => rfl, fun s u hu => by simp only [strG, List.mem_singleton] at hu; subst hu; rfl, by decide⟩
theorem strG_map (l : List ByteArray) : l.flatMap strG = l.map Value.string := by induction l with | nil => rfl | cons a l ih => rw [List.flatMap_cons, ih]; rfl
abbrev Strs (w : World) (B : Nat) (x : Option Addr) (n cap : Nat) (l : List ByteArray) : Prop := Lst strG w B x n cap l
abbrev OwnS (w : World) (base : Nat) (v : Value) (l : List ByteArray) : Prop := OwnL strG 9 1 w base v l
theorem Try.infoStr : (Try.prog.info? 9).map (fun i => (i.zero, i.size, i.bytes)) = some (some (.string ByteArray.empty), 1, 16) := by kernel_rfl
theorem eltStr : Elt 86 9 1 (.string ByteArray.empty) := elt_of Try.underlying86 Try.infoStr (by decide) rfl (by decide)
/-- The text at a place. -/
def nthS (l : List ByteArray) (k : Nat) : ByteArray := l.getD k ByteArray.empty
theorem nthS_get {l : List ByteArray} {k : Nat} (h : k < l.length) : nthS l k = l[k] := by unfold nthS; rw [List.getD_eq_getElem?_getD, List.getElem?_eq_getElem h]; rfl
theorem nthS_some {l : List ByteArray} {k : Nat} (h : k < l.length) : l[k]? = some (nthS l k) := by rw [nthS_get h, List.getElem?_eq_getElem h]
theorem Lst.atS {w : World} {B : Nat} {x : Option Addr} {n cap : Nat} {l : List ByteArray} (h : Strs w B x n cap l) {k : Nat} (hk : k < n) :
    ∃ b off, x = some ⟨b, off, none⟩ ∧ b < B ∧ w.cell? ⟨b, off + k, none⟩ = some (.string (nthS l k)) := by
  have := Lst.at encStr h (k := k) (j := 0) (v := .string (nthS l k)) ByteArray.empty hk (by decide) rfl
  rwa [Nat.mul_one, Nat.add_zero] at this
theorem take_snocS {l : List ByteArray} {k : Nat} (h : k < l.length) : l.take (k + 1) = l.take k ++ [nthS l k] := by
  rw [List.take_succ_eq_append_getElem h, nthS_get h]
theorem zerosS (n : Nat) : (madeCells (Value.string ByteArray.empty).cells (n * 1)).toList = (List.replicate n ByteArray.empty).map Value.string := by
  rw [Nat.mul_one]; show (madeCells #[.string ByteArray.empty] n).toList = _; rw [toList_madeCells_one, List.map_replicate]
theorem own_mkS (w : World) (n : Nat) (hn : n ≤ 2000000) {base : Nat} (hb : base ≤ w.heap.size) :
    (w.alloc (.cells (madeCells #[.string ByteArray.empty] n) 9)).ownsRow base 9 1 (.slice (some ⟨w.heap.size, 0, none⟩) n n) n ((List.replicate n ByteArray.empty).map Value.string) := by
  have h := own_mk eltStr w n hn hb
  rw [zerosS, Nat.mul_one] at h
  exact h
/-- A new row of texts is handed back. -/
def NewS (l : List ByteArray) (w : World) (e : Ending) (w' : World) : Prop := ∃ v, e = .returned v ∧ OwnS w' w.heap.size v l ∧ Below w.heap.size w w'
end Go.Proofs.Ytlbebbkkpjgboaa
