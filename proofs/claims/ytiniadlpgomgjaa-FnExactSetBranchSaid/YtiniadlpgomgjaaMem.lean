/-
  Lists in memory: what a slice that is handed on reads as; rows of a call's own.
-/
import Derived.Test.YtiniadlpgomgjaaRows
import Derived.WalkKit
import Derived.Lib.Hide
import Derived.Laws.OwnMore
import Derived.Deep.AppendLies
import Derived.Deep.Onto
import Derived.Maps.AppendAt
import Derived.OwnWalk
import Derived.Deep.QuietTactic
import Derived.BigQuiet
import Derived.WalkSpells
import Derived.Shelf.Abstract
import Derived.Deep.RegionLaw
import Derived.RegionTactic
import Derived.StillTail
import Derived.Laws.CopyRow
import Derived.Lib.AppendZerosOnto
import Derived.Lib.Overlaps
import Derived.Laws.NewBlocks
namespace Go.Proofs.Ytiniadlpgomgjaa
open Go.RowKit
set_option linter.unusedVariables false
/-- From x on the cells xs can be read, in a block below B. -/
def Rds (w : World) (B : Nat) (x : Option Addr) (xs : List Value) : Prop :=
  ∀ j u, xs[j]? = some u → ∃ b off, x = some ⟨b, off, none⟩ ∧ b < B ∧ w.cell? ⟨b, off + j, none⟩ = some u
theorem Rds.keep {w w' : World} {B : Nat} {x : Option Addr} {xs : List Value} (h : Rds w B x xs) (hk : ∀ k, k < B → w'.heap[k]? = w.heap[k]?) : Rds w' B x xs := by
  intro j u hu
  obtain ⟨b, off, h1, h2, h3⟩ := h j u hu
  exact ⟨b, off, h1, h2, (World.cell?_of_block (w := w) (w' := w') (a := ⟨b, off + j, none⟩) (hk b h2)).trans h3⟩
theorem Rds.below {w w' : World} {B B' : Nat} {x : Option Addr} {xs : List Value} (h : Rds w B x xs) (hb : Below B' w w') (hB : B ≤ B') : Rds w' B x xs := h.keep fun k hk => hb.block k (by omega)
theorem Rds.more {w : World} {B B' : Nat} {x : Option Addr} {xs : List Value} (h : Rds w B x xs) (hB : B ≤ B') : Rds w B' x xs := fun j u hu => by
  obtain ⟨b, off, h1, h2, h3⟩ := h j u hu
  exact ⟨b, off, h1, by omega, h3⟩
theorem Rds.nil (w : World) (B : Nat) (x : Option Addr) : Rds w B x [] := fun j u hu => by simp at hu
theorem Rds.take {w : World} {B : Nat} {x : Option Addr} {xs : List Value} (h : Rds w B x xs) (n : Nat) : Rds w B x (xs.take n) := fun j u hu => by
  rw [List.getElem?_take] at hu
  split at hu
  · exact h j u hu
  · cases hu
theorem Rds.grown {w w' : World} {B : Nat} {x : Option Addr} {xs : List Value} {row : Option Nat} (h : Rds w B x xs) (hg : w.grownBy w' row) (hB : B ≤ w.heap.size) (hr : ∀ k, row = some k → B ≤ k) : Rds w' B x xs :=
  h.keep fun k hk => hg.block k (by omega) (fun e => by have := hr k e.symm; omega)
theorem Rds.alloc {w : World} {B : Nat} {x : Option Addr} {xs : List Value} (h : Rds w B x xs) (hB : B ≤ w.heap.size) (o : Obj) : Rds (w.alloc o) B x xs := h.keep fun k hk => Below.heap_alloc _ _ _ (by omega)
theorem Rds.drew {w : World} {B : Nat} {x : Option Addr} {xs : List Value} (h : Rds w B x xs) : Rds w.drew B x xs := h
/-- A row of a call's own reads as what it holds. -/
theorem own_reads {w : World} {base : Nat} {e : TypeId} {size : Nat} {v : Value} {n : Nat} {xs : List Value} (h : w.ownsRow base e size v n xs) :
    ∃ x cap, v = .slice x n cap ∧ n ≤ cap ∧ cap ≤ maxLen ∧ Rds w w.heap.size x xs := by
  obtain ⟨hl, h2⟩ := h
  rcases h2 with ⟨rfl, rfl⟩ | ⟨g, cap, cur, rfl, hb, hg, hn, hm, hs, rfl⟩
  · have : xs = [] := List.eq_nil_of_length_eq_zero (by omega)
    subst this
    exact ⟨none, 0, rfl, Nat.le_refl _, by unfold maxLen; omega, Rds.nil _ _ _⟩
  · refine ⟨_, cap, rfl, hn, hm, fun j u hu => ⟨g, 0, rfl, (Array.getElem?_eq_some_iff.1 hg).1, ?_⟩⟩
    rw [cell_of_row w g _ cur e (0, 0) hg]
    rw [List.getElem?_take] at hu
    split at hu
    · simpa using hu
    · cases hu
/-- The slice (x, n, cap) reads as the numbers l. -/
structure Ints (w : World) (B : Nat) (x : Option Addr) (n cap : Nat) (l : List Int) : Prop where
  len : l.length = n
  le : n ≤ cap
  max : cap ≤ maxLen
  rds : Rds w B x (l.map (Value.int .i64))
/-- The number at a place. -/
def nthI (l : List Int) (k : Nat) : Int := l.getD k 0
theorem nthI_get {l : List Int} {k : Nat} (h : k < l.length) : nthI l k = l[k] := by unfold nthI; rw [List.getD_eq_getElem?_getD, List.getElem?_eq_getElem h]; rfl
theorem nthI_some {l : List Int} {k : Nat} (h : k < l.length) : l[k]? = some (nthI l k) := by rw [nthI_get h, List.getElem?_eq_getElem h]
theorem Ints.at {w : World} {B : Nat} {x : Option Addr} {n cap : Nat} {l : List Int} (h : Ints w B x n cap l) {k : Nat} (hk : k < n) :
    ∃ b off, x = some ⟨b, off, none⟩ ∧ b < B ∧ w.cell? ⟨b, off + k, none⟩ = some (.int .i64 (nthI l k)) := by
  refine h.rds k _ ?_
  have := h.len
  rw [List.getElem?_map, nthI_some (by omega)]; rfl
theorem Ints.below {w w' : World} {B B' : Nat} {x : Option Addr} {n cap : Nat} {l : List Int} (h : Ints w B x n cap l) (hb : Below B' w w') (hB : B ≤ B') : Ints w' B x n cap l := ⟨h.len, h.le, h.max, h.rds.below hb hB⟩
theorem Ints.keep {w w' : World} {B : Nat} {x : Option Addr} {n cap : Nat} {l : List Int} (h : Ints w B x n cap l) (hk : ∀ k, k < B → w'.heap[k]? = w.heap[k]?) : Ints w' B x n cap l := ⟨h.len, h.le, h.max, h.rds.keep hk⟩
theorem Ints.more {w : World} {B B' : Nat} {x : Option Addr} {n cap : Nat} {l : List Int} (h : Ints w B x n cap l) (hB : B ≤ B') : Ints w B' x n cap l := ⟨h.len, h.le, h.max, h.rds.more hB⟩
/-- A row of numbers of a call's own. -/
def OwnI (w : World) (base : Nat) (v : Value) (l : List Int) : Prop := w.ownsRow base 3 1 v l.length (l.map (Value.int .i64))
theorem OwnI.ints {w : World} {base : Nat} {v : Value} {l : List Int} (h : OwnI w base v l) : ∃ x n cap, v = .slice x n cap ∧ Ints w w.heap.size x n cap l := by
  obtain ⟨x, cap, h1, h2, h3, h4⟩ := own_reads h
  exact ⟨x, _, cap, h1, rfl, h2, h3, h4⟩
theorem OwnI.below {w w' : World} {base : Nat} {v : Value} {l : List Int} (h : OwnI w base v l) (hb : Below w.heap.size w w') : OwnI w' base v l :=
  World.ownsRow.kept (row := none) h ⟨hb.os, hb.tape, hb.output, hb.size, fun k hk _ => hb.block k hk⟩ (by cases hv : v.ownBlock <;> simp)
theorem OwnI.mono {w : World} {base base' : Nat} {v : Value} {l : List Int} (h : OwnI w base v l) (hb : base' ≤ base) : OwnI w base' v l := World.ownsRow.mono h hb
/-! ### element types; append; make -/
/-- t is the type of slices of e, whose elements take 'size' cells. -/
structure Elt (t e : TypeId) (size : Nat) (z : Value) : Prop where
  und : Try.prog.underlying t = some (.slice e)
  info : ∃ i, Try.prog.info? e = some i ∧ i.zero = some z ∧ i.size = size ∧ i.bytes ≤ 1000
  cells : z.cells.size = size
  pos : 0 < size
theorem elt_of {t e : TypeId} {size by' : Nat} {z : Value} (h : Try.prog.underlying t = some (.slice e)) (hi : (Try.prog.info? e).map (fun i => (i.zero, i.size, i.bytes)) = some (some z, size, by')) (hb : by' ≤ 1000) (hc : z.cells.size = size) (hp : 0 < size) : Elt t e size z := by
  refine ⟨h, ?_, hc, hp⟩
  obtain ⟨i, h1, h2⟩ := Option.map_eq_some_iff.1 hi
  simp only [Prod.mk.injEq] at h2
  exact ⟨i, h1, h2.1, h2.2.1, by omega⟩
section
variable {ops : Array Oper} {rest : List Oper} {o : Oper} {a : Act} {Q : Exit → Act → World → Prop} {t e : TypeId} {size : Nat} {z : Value} {w : World}
theorem addr_add (b off j : Nat) : (⟨b, off, none⟩ : Addr).add j = ⟨b, off + j, none⟩ := by unfold Addr.add; split <;> simp_all
/-- append of one element to a row of the call's own: the element lies in a block that was just made. -/
theorem wpList_app1 (E : Elt t e size z) {base n : Nat} {v : Value} {xs : List Value} (cs : Array Value) (hown : w.ownsRow base e size v n xs) (hcs : cs.size = size) (h1 : ∀ u ∈ cs.toList, u.oneCell' = true) (hn : n ≤ 2000000) (hbase : base ≤ w.heap.size)
    (hgd : o.guard = none) (s x : Operand) (ho : o.op = .call { callee := .builtin .append, args := #[s, x], argTypes := #[t, t] }) (hs : a.eval s = v) (hx : a.eval x = .slice (some ⟨w.heap.size, 0, none⟩) 1 1)
    (h : ∀ v' w', w'.ownsRow base e size v' (n + 1) (xs ++ cs.toList) → w.grownBy w' v.ownBlock → wpList Try.prog ops Q rest (a.put o.dst v') w') : wpList Try.prog ops Q (o :: rest) a (w.alloc (.cells cs e)) := by
  obtain ⟨i, hi, hz, hsz, hby⟩ := E.info
  refine wpList_append_own_at _ hgd s x t ho base e i z size i.bytes E.und hi hz hsz rfl E.cells E.pos v n xs hs (hown.alloc _) ⟨w.heap.size, 0, none⟩ 1 1 cs.toList hx (by simpa using hcs) ?_ h1 (by unfold maxLen; omega) ?_ (by simp; omega) ?_
  · intro j u hu
    rw [addr_add, Nat.zero_add]
    unfold World.cell?
    rw [heap_alloc_new]
    simpa using hu
  · have : (n + 1) * i.bytes ≤ 2000001 * 1000 := Nat.mul_le_mul (by omega) hby
    omega
  · intro v' w' h1 h2 _ _
    exact h v' w' h1 ⟨h2.os, h2.tape, h2.output, Nat.le_trans (by simp) h2.size, fun k hk hne => (h2.block k (by simp; omega) hne).trans (Below.heap_alloc _ _ _ hk)⟩
end
/-- What 'make' lays. -/
theorem run_mk {t e : TypeId} {size : Nat} {z : Value} (E : Elt t e size z) (n : Nat) (hn : n ≤ 2000000) (w : World) :
    (Instr.makeSlice t (.int .i64 (n : Int)) (.int .i64 (n : Int))).run Try.prog w = .ok (.slice (some ⟨w.heap.size, 0, none⟩) n n) (w.alloc (.cells (madeCells z.cells (n * size)) e)) := by
  obtain ⟨i, hi, hz, hsz, hby⟩ := E.info
  have hb : (i.bytes : Int) * (n : Int) ≤ 281474976710656 := by
    have h1 : i.bytes * n ≤ 1000 * 2000000 := Nat.mul_le_mul hby hn
    have h2 : ((i.bytes * n : Nat) : Int) = (i.bytes : Int) * (n : Int) := Int.natCast_mul _ _
    omega
  have hr := run_make (P := Try.prog) w t e i z E.und hi hz .i64 .i64 n n (by omega) (Int.le_refl _) hb (by omega)
  simp only [Int.toNat_natCast, hsz] at hr
  exact hr
theorem own_mk {t e : TypeId} {size : Nat} {z : Value} (E : Elt t e size z) (w : World) (n : Nat) (hn : n ≤ 2000000) {base : Nat} (hb : base ≤ w.heap.size) :
    (w.alloc (.cells (madeCells z.cells (n * size)) e)).ownsRow base e size (.slice (some ⟨w.heap.size, 0, none⟩) n n) n (madeCells z.cells (n * size)).toList :=
  World.ownsRow_lit w _ n hb (by unfold maxLen; omega) (size_madeCells _ _)
theorem grownBy_into {a w w' : World} {r : Option Nat} {v : Value} (h : a.grownBy w r) (hg : w.grownBy w' v.ownBlock) (hv : ∀ k, v.ownBlock = some k → a.heap.size ≤ k) : a.grownBy w' r :=
  ⟨hg.os.trans h.os, hg.tape.trans h.tape, hg.output.trans h.output, Nat.le_trans h.size hg.size, fun k hk hne => (hg.block k (Nat.lt_of_lt_of_le hk h.size) (fun e => by have := hv k e.symm; omega)).trans (h.block k hk hne)⟩
theorem grownBy_below {a b : World} (h : Below a.heap.size a b) (r : Option Nat) : a.grownBy b r := ⟨h.os, h.tape, h.output, h.size, fun k hk _ => h.block k hk⟩
theorem below_own {B : Nat} {a w w' : World} {v : Value} (h : Below B a w) (hg : w.grownBy w' v.ownBlock) (hB : B ≤ w.heap.size) (hv : ∀ k, v.ownBlock = some k → B ≤ k) : Below B a w' := h.grown hg hB hv
theorem own_at {w : World} {base : Nat} {e : TypeId} {size n : Nat} {v : Value} {xs : List Value} (h : w.ownsRow base e size v n xs) {k : Nat} (hk : v.ownBlock = some k) : base ≤ k := (h.lt k hk).1
theorem below_drewN {B : Nat} {a w : World} (h : Below B a w) (n : Nat) : Below B a (w.drewN n) := ⟨h.os, h.tape, h.output, h.size, h.block⟩
section
variable {ops : Array Oper} {rest : List Oper} {o : Oper} {a : Act} {Q : Exit → Act → World → Prop} {w : World}
end
theorem Ints.alloc {w : World} {B : Nat} {x : Option Addr} {n cap : Nat} {l : List Int} (h : Ints w B x n cap l) (hB : B ≤ w.heap.size) (o : Obj) : Ints (w.alloc o) B x n cap l := ⟨h.len, h.le, h.max, h.rds.alloc hB o⟩
theorem OwnI.at {w : World} {base : Nat} {v : Value} {l : List Int} (h : OwnI w base v l) : ∀ k, v.ownBlock = some k → base ≤ k := fun k hk => own_at h hk
end Go.Proofs.Ytiniadlpgomgjaa
/-
  Lists in memory whose elements take one or more cells: what a slice reads as; rows of a call's own; append; make.
-/
namespace Go.Proofs.Ytiniadlpgomgjaa
open Go.RowKit
set_option linter.unusedVariables false
/-- An element's cells: 'size' many. -/
structure Enc {α : Type} (g : α → List Value) (size : Nat) : Prop where
  len : ∀ a, (g a).length = size
  one : ∀ a, ∀ u ∈ g a, u.oneCell' = true
  pos : 0 < size
theorem Enc.length {α : Type} {g : α → List Value} {size : Nat} (E : Enc g size) (l : List α) : (l.flatMap g).length = l.length * size := by
  induction l with
  | nil => simp
  | cons a l ih => rw [List.flatMap_cons, List.length_append, ih, E.len, List.length_cons, Nat.succ_mul, Nat.add_comm]
theorem Enc.get {α : Type} {g : α → List Value} {size : Nat} (E : Enc g size) : ∀ (l : List α) (k j : Nat) (d : α), k < l.length → j < size → (l.flatMap g)[k * size + j]? = (g (l.getD k d))[j]?
  | [], k, j, d, hk, hj => by simp at hk
  | a :: l, 0, j, d, hk, hj => by rw [List.flatMap_cons, Nat.zero_mul, Nat.zero_add, List.getElem?_append_left (by rw [E.len]; exact hj)]; rfl
  | a :: l, k + 1, j, d, hk, hj => by
    rw [List.flatMap_cons, List.getElem?_append_right (by rw [E.len, Nat.succ_mul]; omega), E.len, show (k + 1) * size + j - size = k * size + j by rw [Nat.succ_mul]; omega, Enc.get E l k j d (by simpa using hk) hj]
    rfl
theorem Enc.oneAll {α : Type} {g : α → List Value} {size : Nat} (E : Enc g size) (l : List α) : ∀ u ∈ l.flatMap g, u.oneCell' = true := by
  intro u hu; obtain ⟨a, _, h⟩ := List.mem_flatMap.1 hu; exact E.one a u h
/-- The slice (x, n, cap) reads as the list l. -/
structure Lst {α : Type} (g : α → List Value) (w : World) (B : Nat) (x : Option Addr) (n cap : Nat) (l : List α) : Prop where
  len : l.length = n
  le : n ≤ cap
  max : cap ≤ maxLen
  rds : Rds w B x (l.flatMap g)
section
variable {α : Type} {g : α → List Value} {size : Nat} {w w' : World} {B B' : Nat} {x : Option Addr} {n cap : Nat} {l : List α}
theorem Lst.below (h : Lst g w B x n cap l) (hb : Below B' w w') (hB : B ≤ B') : Lst g w' B x n cap l := ⟨h.len, h.le, h.max, h.rds.below hb hB⟩
theorem Lst.keep (h : Lst g w B x n cap l) (hk : ∀ k, k < B → w'.heap[k]? = w.heap[k]?) : Lst g w' B x n cap l := ⟨h.len, h.le, h.max, h.rds.keep hk⟩
theorem Lst.more (h : Lst g w B x n cap l) (hB : B ≤ B') : Lst g w B' x n cap l := ⟨h.len, h.le, h.max, h.rds.more hB⟩
theorem Lst.alloc (h : Lst g w B x n cap l) (hB : B ≤ w.heap.size) (o : Obj) : Lst g (w.alloc o) B x n cap l := ⟨h.len, h.le, h.max, h.rds.alloc hB o⟩
theorem Lst.grown {row : Option Nat} (h : Lst g w B x n cap l) (hg : w.grownBy w' row) (hB : B ≤ w.heap.size) (hr : ∀ k, row = some k → B ≤ k) : Lst g w' B x n cap l := ⟨h.len, h.le, h.max, h.rds.grown hg hB hr⟩
theorem Lst.drewN (h : Lst g w B x n cap l) (m : Nat) : Lst g (w.drewN m) B x n cap l := ⟨h.len, h.le, h.max, h.rds⟩
theorem Lst.at (E : Enc g size) (h : Lst g w B x n cap l) {k j : Nat} {v : Value} (d : α) (hk : k < n) (hj : j < size) (hv : (g (l.getD k d))[j]? = some v) :
    ∃ b off, x = some ⟨b, off, none⟩ ∧ b < B ∧ w.cell? ⟨b, off + (k * size + j), none⟩ = some v := by
  refine h.rds (k * size + j) v ?_
  rw [E.get l k j d (by have := h.len; omega) hj]; exact hv
end
/-- A row of a call's own. -/
def OwnL {α : Type} (g : α → List Value) (e : TypeId) (size : Nat) (w : World) (base : Nat) (v : Value) (l : List α) : Prop := w.ownsRow base e size v l.length (l.flatMap g)
section
variable {α : Type} {g : α → List Value} {e t : TypeId} {size : Nat} {z : Value} {w w' : World} {base base' : Nat} {v : Value} {l : List α}
theorem OwnL.lst (h : OwnL g e size w base v l) : ∃ x n cap, v = .slice x n cap ∧ Lst g w w.heap.size x n cap l := by
  obtain ⟨x, cap, h1, h2, h3, h4⟩ := own_reads h
  exact ⟨x, _, cap, h1, rfl, h2, h3, h4⟩
theorem OwnL.below (h : OwnL g e size w base v l) (hb : Below w.heap.size w w') : OwnL g e size w' base v l :=
  World.ownsRow.kept (row := none) h ⟨hb.os, hb.tape, hb.output, hb.size, fun k hk _ => hb.block k hk⟩ (by cases hv : v.ownBlock <;> simp)
theorem OwnL.mono (h : OwnL g e size w base v l) (hb : base' ≤ base) : OwnL g e size w base' v l := World.ownsRow.mono h hb
theorem OwnL.at (h : OwnL g e size w base v l) : ∀ k, v.ownBlock = some k → base ≤ k := fun k hk => own_at h hk
theorem OwnL.drewN (h : OwnL g e size w base v l) (m : Nat) : OwnL g e size (w.drewN m) base v l := h
theorem OwnL.nil (g : α → List Value) (e : TypeId) (size : Nat) (w : World) (base : Nat) : OwnL g e size w base (.slice none 0 0) [] := World.ownsRow_nil w base e size
theorem OwnL.new (g : α → List Value) (e : TypeId) {size : Nat} (w : World) : OwnL g e size (w.alloc (.cells #[] e)) w.heap.size (.slice (some ⟨w.heap.size, 0, none⟩) 0 0) [] := World.ownsRow_lit w #[] 0 (Nat.le_refl _) (by decide) (by simp)
theorem OwnI.nil (w : World) (base : Nat) : OwnI w base (.slice none 0 0) [] := World.ownsRow_nil w base _ 1
theorem OwnI.drewN {w : World} {base : Nat} {v : Value} {l : List Int} (h : OwnI w base v l) (m : Nat) : OwnI (w.drewN m) base v l := h
variable {ops : Array Oper} {rest : List Oper} {o : Oper} {a : Act} {Q : Exit → Act → World → Prop}
theorem wpList_app1L (T : Elt t e size z) (E : Enc g size) (u : α) (cs : Array Value) (hcs : cs.toList = g u) (hown : OwnL g e size w base v l) (hn : l.length ≤ 2000000) (hbase : base ≤ w.heap.size)
    (hgd : o.guard = none) (s x : Operand) (ho : o.op = .call { callee := .builtin .append, args := #[s, x], argTypes := #[t, t] }) (hs : a.eval s = v) (hx : a.eval x = .slice (some ⟨w.heap.size, 0, none⟩) 1 1)
    (h : ∀ v' w', OwnL g e size w' base v' (l ++ [u]) → w.grownBy w' v.ownBlock → wpList Try.prog ops Q rest (a.put o.dst v') w') : wpList Try.prog ops Q (o :: rest) a (w.alloc (.cells cs e)) := by
  refine wpList_app1 T cs hown (by have := E.len u; rw [← hcs] at this; simpa using this) (by rw [hcs]; exact E.one u) hn hbase hgd s x ho hs hx fun v' w' h1 h2 => h v' w' ?_ h2
  unfold OwnL
  rw [List.length_append, List.flatMap_append, List.flatMap_singleton, ← hcs]
  exact h1
end
theorem le_drew {a : Nat} {w : World} (h : a ≤ w.heap.size) : a ≤ w.drew.heap.size := h
theorem le_alloc {a : Nat} {w : World} (h : a ≤ w.heap.size) (o : Obj) : a ≤ (w.alloc o).heap.size := by simp; omega
theorem eq_drew {a : Nat} {w : World} (h : a = w.heap.size) : a = w.drew.heap.size := h
theorem eq_alloc {a : Nat} {w : World} (h : a = w.heap.size + 1) (o : Obj) : a = (w.alloc o).heap.size := by simp; omega
theorem eq_allocS {a : Nat} {w : World} (h : a = w.heap.size) (o : Obj) : a + 1 = (w.alloc o).heap.size := by simp; omega
/-! ### a list appended to a list -/
section
variable {ops : Array Oper} {rest : List Oper} {o : Oper} {a : Act} {Q : Exit → Act → World → Prop} {K : Act → World → Prop} {P0 : Prop} {t e : TypeId} {size : Nat} {z : Value} {w : World}
/-- append of a slice, nil or not, to a row of the call's own. -/
theorem run_appN2 (E : Elt t e size z) {base n m c B : Nat} {v : Value} {x : Option Addr} {xs news : List Value} (ty : TypeId) (hown : w.ownsRow base e size v n xs) (hr : Rds w B x news) (hl : news.length = m * size) (h1 : ∀ u ∈ news, u.oneCell' = true) (hn : n ≤ 2000000) (hm : m ≤ 2000000) (hbase : base ≤ w.heap.size) :
    ∃ v' w', (Builtin.append_ #[t, t] ty #[v, .slice x m c]).run Try.prog w = .ok v' w' ∧ w'.ownsRow base e size v' (n + m) (xs ++ news) ∧ w.grownBy w' v.ownBlock ∧ (v'.ownBlock = v.ownBlock ∨ v'.ownBlock = some w.heap.size) := by
  obtain ⟨i, hi, hz, hsz, hby⟩ := E.info
  by_cases h0 : news = []
  · subst h0
    have hm0 : m = 0 := by
      have := hl
      simp only [List.length_nil] at this
      rcases Nat.eq_zero_or_pos m with h | h
      · exact h
      · have := Nat.mul_pos h E.pos; omega
    subst hm0
    cases x with
    | none =>
      refine ⟨v, w, ?_, by simpa using hown, ⟨rfl, rfl, rfl, Nat.le_refl _, fun _ _ _ => rfl⟩, .inl rfl⟩
      rcases hown.2 with ⟨rfl, rfl⟩ | ⟨g, cap, cur, rfl, _, _, hnc, _⟩
      · simp [Builtin.append_, run_underlying E.und, sizeOf, typeInfo, hi, Builtin.lenOf, Builtin.firstCells]
      · simp [Builtin.append_, run_underlying E.und, sizeOf, typeInfo, hi, Builtin.lenOf, Builtin.firstCells, hnc, storeCells]
    | some ad =>
      obtain ⟨v', w', h2, h3, h4, _, h5⟩ := run_append_own_at (P := Try.prog) w base t ty e i z size i.bytes E.und hi hz hsz rfl E.cells E.pos v n xs hown ad 0 c [] (by simp) (by intro j u hu; simp at hu) (by intro u hu; simp at hu) (by unfold maxLen; omega) (by have : (n + 0) * i.bytes ≤ 2000000 * 1000 := Nat.mul_le_mul (by omega) hby; omega) hbase
      exact ⟨v', w', h2, h3, h4, h5⟩
  · have hpos : 0 < news.length := List.length_pos_iff.2 h0
    obtain ⟨b, off, rfl, _, _⟩ := hr 0 _ (List.getElem?_eq_getElem hpos)
    obtain ⟨v', w', h2, h3, h4, _, h5⟩ := run_append_own_at (P := Try.prog) w base t ty e i z size i.bytes E.und hi hz hsz rfl E.cells E.pos v n xs hown ⟨b, off, none⟩ m c news hl (by
        intro j u hu
        obtain ⟨b', off', he, _, hc⟩ := hr j u hu
        simp only [Option.some.injEq, Addr.mk.injEq, and_true] at he
        obtain ⟨rfl, rfl⟩ := he
        rw [addr_add]; exact hc) h1 (by unfold maxLen; omega) (by have : (n + m) * i.bytes ≤ 4000000 * 1000 := Nat.mul_le_mul (by omega) hby; omega) hbase
    exact ⟨v', w', h2, h3, h4, h5⟩
theorem run_appL {α : Type} {g : α → List Value} (T : Elt t e size z) (E : Enc g size) {base m c B : Nat} {v : Value} {x : Option Addr} {l l' : List α} (ty : TypeId) (hown : OwnL g e size w base v l) (hr : Lst g w B x m c l') (hn : l.length ≤ 2000000) (hm : m ≤ 2000000) (hbase : base ≤ w.heap.size) :
    ∃ v' w', (Builtin.append_ #[t, t] ty #[v, .slice x m c]).run Try.prog w = .ok v' w' ∧ OwnL g e size w' base v' (l ++ l') ∧ w.grownBy w' v.ownBlock ∧ (v'.ownBlock = v.ownBlock ∨ v'.ownBlock = some w.heap.size) := by
  obtain ⟨v', w', h1, h2, h3, h4⟩ := run_appN2 (w := w) T (c := c) ty hown hr.rds (by rw [E.length, hr.len]) (E.oneAll l') hn hm hbase
  refine ⟨v', w', h1, ?_, h3, h4⟩
  unfold OwnL
  rw [List.length_append, List.flatMap_append, hr.len]
  exact h2
theorem wp_appL {α : Type} {g : α → List Value} (T : Elt t e size z) (E : Enc g size) {base m c B : Nat} {v : Value} {x : Option Addr} {l l' : List α} (hown : OwnL g e size w base v l) (hr : Lst g w B x m c l') (hn : l.length ≤ 2000000) (hm : m ≤ 2000000) (hbase : base ≤ w.heap.size)
    (s y : Operand) (ho : o.op = .call { callee := .builtin .append, args := #[s, y], argTypes := #[t, t] }) (hs : a.eval s = v) (hy : a.eval y = .slice x m c)
    (h : ∀ v' w', OwnL g e size w' base v' (l ++ l') → w.grownBy w' v.ownBlock → (v'.ownBlock = v.ownBlock ∨ v'.ownBlock = some w.heap.size) → K (a.put o.dst v') w') : o.wp Try.prog a w K Q := by
  obtain ⟨v', w', hrun, h2, h3, h4⟩ := run_appL (w := w) T E (c := c) o.type hown hr hn hm hbase
  unfold Oper.wp execOp
  simp only [ho, resolve, invoke, builtin, Sem.run_bind, Sem.run_pure, Result.andThen_ok, List.map_toArray, List.map_cons, List.map_nil, hs, hy, hrun]
  exact h v' w' h2 h3 h4
theorem wpList_appL {α : Type} {g : α → List Value} (T : Elt t e size z) (E : Enc g size) {base m c B : Nat} {v : Value} {x : Option Addr} {l l' : List α} (hown : OwnL g e size w base v l) (hr : Lst g w B x m c l') (hn : l.length ≤ 2000000) (hm : m ≤ 2000000) (hbase : base ≤ w.heap.size)
    (hgd : o.guard = none) (s y : Operand) (ho : o.op = .call { callee := .builtin .append, args := #[s, y], argTypes := #[t, t] }) (hs : a.eval s = v) (hy : a.eval y = .slice x m c)
    (h : ∀ v' w', OwnL g e size w' base v' (l ++ l') → w.grownBy w' v.ownBlock → (v'.ownBlock = v.ownBlock ∨ v'.ownBlock = some w.heap.size) → wpList Try.prog ops Q rest (a.put o.dst v') w') : wpList Try.prog ops Q (o :: rest) a w :=
  wpList_plain hgd fun _ hK => wp_appL T E hown hr hn hm hbase s y ho hs hy fun v' w' h1 h2 h3 => hK _ _ (h v' w' h1 h2 h3)
/-- .. as a step of a region that draws its order. -/
theorem step_appL {α : Type} {g : α → List Value} (T : Elt t e size z) (E : Enc g size) {base m c B : Nat} {v : Value} {x : Option Addr} {l l' : List α} (hown : OwnL g e size w base v l) (hr : Lst g w B x m c l') (hn : l.length ≤ 2000000) (hm : m ≤ 2000000) (hbase : base ≤ w.heap.size)
    (hgd : o.guard = none) (s y : Operand) (ho : o.op = .call { callee := .builtin .append, args := #[s, y], argTypes := #[t, t] }) (hs : a.eval s = v) (hy : a.eval y = .slice x m c)
    (h : ∀ v' w', OwnL g e size w' base v' (l ++ l') → w.grownBy w' v.ownBlock → (v'.ownBlock = v.ownBlock ∨ v'.ownBlock = some w.heap.size) → K (a.put o.dst v') w') :
    if Region.wanted o (yielded ops a.tmps) = true then Oper.wp Try.prog o a w K Q else P0 := by
  have hw : Region.wanted o (yielded ops a.tmps) = true := by simp [Region.wanted, hgd]
  rw [if_pos hw]
  exact wp_appL T E hown hr hn hm hbase s y ho hs hy h
end
/-- A row that is empty, in whatever block. -/
theorem OwnL.newAt {α : Type} (g : α → List Value) (e : TypeId) {size : Nat} {w : World} {k base : Nat} (h : k = w.heap.size) (hb : base ≤ k) : OwnL g e size (w.alloc (.cells #[] e)) base (.slice (some ⟨k, 0, none⟩) 0 0) [] := by
  subst h; exact (OwnL.new g e w).mono hb
theorem OwnL.alloc {α : Type} {g : α → List Value} {e : TypeId} {size : Nat} {w : World} {base : Nat} {v : Value} {l : List α} (h : OwnL g e size w base v l) (o : Obj) : OwnL g e size (w.alloc o) base v l := World.ownsRow.alloc h o
theorem OwnL.drew {α : Type} {g : α → List Value} {e : TypeId} {size : Nat} {w : World} {base : Nat} {v : Value} {l : List α} (h : OwnL g e size w base v l) : OwnL g e size w.drew base v l := h
theorem Lst.drew {α : Type} {g : α → List Value} {w : World} {B : Nat} {x : Option Addr} {n cap : Nat} {l : List α} (h : Lst g w B x n cap l) : Lst g w.drew B x n cap l := ⟨h.len, h.le, h.max, h.rds⟩
/-- The block of one element. -/
def OneAt {α : Type} (g : α → List Value) (e : TypeId) (w : World) (k : Nat) (u : α) : Prop := ∃ cs, cs.toList = g u ∧ w.heap[k]? = some (.cells cs e (0, 0))
theorem OneAt.new {α : Type} (g : α → List Value) (e : TypeId) {w : World} {k : Nat} (h : k = w.heap.size) (cs : Array Value) (u : α) (hc : cs.toList = g u) : OneAt g e (w.alloc (.cells cs e)) k u := by
  subst h; exact ⟨cs, hc, heap_alloc_new w _⟩
theorem OneAt.alloc {α : Type} {g : α → List Value} {e : TypeId} {w : World} {k : Nat} {u : α} (h : OneAt g e w k u) (o : Obj) : OneAt g e (w.alloc o) k u := by
  obtain ⟨cs, h1, h2⟩ := h
  exact ⟨cs, h1, (Below.heap_alloc w o k (Array.getElem?_eq_some_iff.1 h2).1).trans h2⟩
theorem OneAt.drew {α : Type} {g : α → List Value} {e : TypeId} {w : World} {k : Nat} {u : α} (h : OneAt g e w k u) : OneAt g e w.drew k u := h
theorem OneAt.lt {α : Type} {g : α → List Value} {e : TypeId} {w : World} {k : Nat} {u : α} (h : OneAt g e w k u) : k < w.heap.size := by obtain ⟨cs, h1, h2⟩ := h; exact (Array.getElem?_eq_some_iff.1 h2).1
theorem OneAt.grown {α : Type} {g : α → List Value} {e : TypeId} {w w' : World} {k : Nat} {u : α} {r : Option Nat} (h : OneAt g e w k u) (hg : w.grownBy w' r) (hr : some k ≠ r) : OneAt g e w' k u := by
  have hl := h.lt
  obtain ⟨cs, h1, h2⟩ := h
  exact ⟨cs, h1, (hg.block k hl hr).trans h2⟩
theorem OneAt.lst {α : Type} {g : α → List Value} {e : TypeId} {w : World} {k : Nat} {u : α} (h : OneAt g e w k u) : Lst g w w.heap.size (some ⟨k, 0, none⟩) 1 1 [u] := by
  have hl := h.lt
  obtain ⟨cs, h1, h2⟩ := h
  refine ⟨rfl, Nat.le_refl _, by decide, fun j v hv => ⟨k, 0, rfl, hl, ?_⟩⟩
  rw [List.flatMap_singleton, ← h1] at hv
  rw [cell_of_row w k _ cs e (0, 0) h2]
  simpa using hv
theorem Lst.cut {α : Type} {g : α → List Value} {w : World} {B : Nat} {x : Option Addr} {n cap m : Nat} {l : List α} (h : Lst g w B x n cap l) (hm : m ≤ n) : Lst g w B x m cap (l.take m) :=
  ⟨by rw [List.length_take]; have := h.len; omega, Nat.le_trans hm h.le, h.max, fun j u hu => h.rds j u (by
    have e : l.flatMap g = (l.take m).flatMap g ++ (l.drop m).flatMap g := by rw [← List.flatMap_append, List.take_append_drop]
    rw [e, List.getElem?_append_left (List.getElem?_eq_some_iff.1 hu).1]; exact hu)⟩
/-- The rest of a list. -/
theorem Lst.rest {α : Type} {g : α → List Value} {size : Nat} (E : Enc g size) {w : World} {B : Nat} {b off n cap m : Nat} {l : List α} (h : Lst g w B (some ⟨b, off, none⟩) n cap l) (hm : m ≤ n) : Lst g w B (some ⟨b, off + m * size, none⟩) (n - m) (cap - m) (l.drop m) :=
  ⟨by rw [List.length_drop]; have := h.len; omega, by have := h.le; omega, by have := h.max; omega, fun j u hu => by
    have e : l.flatMap g = (l.take m).flatMap g ++ (l.drop m).flatMap g := by rw [← List.flatMap_append, List.take_append_drop]
    have hl : ((l.take m).flatMap g).length = m * size := by rw [E.length, List.length_take]; have := h.len; rw [Nat.min_eq_left (by omega)]
    obtain ⟨b', off', e', hb, hc⟩ := h.rds (m * size + j) u (by rw [e, List.getElem?_append_right (by omega), hl, Nat.add_sub_cancel_left]; exact hu)
    simp only [Option.some.injEq, Addr.mk.injEq, and_true] at e'
    obtain ⟨rfl, rfl⟩ := e'
    exact ⟨b, off + m * size, rfl, hb, by rw [Nat.add_assoc]; exact hc⟩⟩
theorem Lst.empty {α : Type} (g : α → List Value) (w : World) (B : Nat) (x : Option Addr) (cap : Nat) (h : cap ≤ maxLen) : Lst g w B x 0 cap [] := ⟨rfl, Nat.zero_le _, h, Rds.nil _ _ _⟩
/-! ### two rows -/
/-- Rows of two types lie in two blocks. -/
theorem own_ne {w : World} {b1 b2 : Nat} {e1 e2 : TypeId} {s1 s2 n1 n2 : Nat} {v1 v2 : Value} {xs1 xs2 : List Value} (h1 : w.ownsRow b1 e1 s1 v1 n1 xs1) (h2 : w.ownsRow b2 e2 s2 v2 n2 xs2) (he : e1 ≠ e2) : v1.ownBlock = none ∨ v1.ownBlock ≠ v2.ownBlock := by
  rcases h1.2 with ⟨rfl, _⟩ | ⟨g, cap, cur, rfl, _, hg, _⟩
  · exact .inl rfl
  · refine .inr fun e => ?_
    rcases h2.2 with ⟨rfl, _⟩ | ⟨g', cap', cur', rfl, _, hg', _⟩
    · simp [Value.ownBlock] at e
    · simp [Value.ownBlock] at e
      subst e
      rw [hg] at hg'
      simp at hg'
      exact he hg'.2
theorem OwnL.lst' {α : Type} {g : α → List Value} {e : TypeId} {size : Nat} {w : World} {base : Nat} {x : Option Addr} {n c : Nat} {l : List α} (h : OwnL g e size w base (.slice x n c) l) : Lst g w w.heap.size x n c l := by
  obtain ⟨x', n', c', e, hi⟩ := h.lst
  simp only [Value.slice.injEq] at e
  obtain ⟨rfl, rfl, rfl⟩ := e
  exact hi
/-! ### texts -/
end Go.Proofs.Ytiniadlpgomgjaa
/-
  append in regions that draw their order.
-/
namespace Go.Proofs.Ytiniadlpgomgjaa
open Go.RowKit
set_option linter.unusedVariables false
section
variable {ops : Array Oper} {o : Oper} {a : Act} {Q : Exit → Act → World → Prop} {K : Act → World → Prop} {P0 : Prop} {t e : TypeId} {size : Nat} {z : Value} {w w0 : World}
/-- append in a region that draws: what lay below 'base' stays. -/
theorem step_appB {α : Type} {g : α → List Value} (T : Elt t e size z) (E : Enc g size) {base m c : Nat} {v : Value} {x : Option Addr} {l l' : List α} (hown : OwnL g e size w base v l) (hr : ∃ B1, Lst g w B1 x m c l') (hbel : Below base w0 w) (hbase : base ≤ w.heap.size) (hn : l.length ≤ 2000000) (hm : m ≤ 2000000)
    (hgd : o.guard = none) (s y : Operand) (ho : o.op = .call { callee := .builtin .append, args := #[s, y], argTypes := #[t, t] }) (hs : a.eval s = v) (hy : a.eval y = .slice x m c)
    (h : ∀ v' w', OwnL g e size w' base v' (l ++ l') → Below base w0 w' → base ≤ w'.heap.size → K (a.put o.dst v') w') :
    if Region.wanted o (yielded ops a.tmps) = true then Oper.wp Try.prog o a w K Q else P0 := by
  obtain ⟨B1, hr⟩ := hr
  exact step_appL T E hown hr hn hm hbase hgd s y ho hs hy fun v' w' h1 h2 _ => h v' w' h1 (hbel.grown h2 hbase fun k e => hown.at k e) (Nat.le_trans hbase h2.size)
/-- .. and an element's block reads on. -/
theorem step_appBE {α : Type} {g : α → List Value} (T : Elt t e size z) (E : Enc g size) {base m c kE gv nv cv : Nat} {x : Option Addr} {l l' : List α} {u : α} (hown : OwnL g e size w base (.slice (some ⟨gv, 0, none⟩) nv cv) l) (hr : ∃ B1, Lst g w B1 x m c l') (hbel : Below base w0 w) (hE : OneAt g e w kE u) (hbase : base ≤ w.heap.size) (hne : kE ≠ gv) (hn : l.length ≤ 2000000) (hm : m ≤ 2000000)
    (hgd : o.guard = none) (s y q : Operand) (ho : o.op = .call { callee := .builtin .append, args := #[s, y], argTypes := #[t, t] }) (hs : a.eval s = .slice (some ⟨gv, 0, none⟩) nv cv) (hy : a.eval y = .slice x m c) (hq : a.eval q = .slice (some ⟨kE, 0, none⟩) 1 1)
    (h : ∀ v' w', OwnL g e size w' base v' (l ++ l') → Below base w0 w' → base ≤ w'.heap.size → OneAt g e w' kE u → K (a.put o.dst v') w') :
    if Region.wanted o (yielded ops a.tmps) = true then Oper.wp Try.prog o a w K Q else P0 := by
  obtain ⟨B1, hr⟩ := hr
  exact step_appL T E hown hr hn hm hbase hgd s y ho hs hy fun v' w' h1 h2 _ => h v' w' h1 (hbel.grown h2 hbase fun k e => hown.at k e) (Nat.le_trans hbase h2.size) (hE.grown h2 (by simp [Value.ownBlock]; exact hne))
end
theorem le_drewN {a n : Nat} {w : World} (h : a ≤ w.heap.size) : a ≤ (w.drewN n).heap.size := h
theorem eq_drewN {a n : Nat} {w : World} (h : a = w.heap.size) : a = (w.drewN n).heap.size := h
theorem OneAt.drewN {α : Type} {g : α → List Value} {e : TypeId} {w : World} {k : Nat} {u : α} (h : OneAt g e w k u) (n : Nat) : OneAt g e (w.drewN n) k u := h
end Go.Proofs.Ytiniadlpgomgjaa
/-
  A call of a function as a step of a region that draws, by its contract.
-/
namespace Go.Proofs.Ytiniadlpgomgjaa
open Go.RowKit
set_option linter.unusedVariables false
end Go.Proofs.Ytiniadlpgomgjaa
/-
  A region that draws its order, by an invariant: each operation is looked at once, in whatever order it comes up.
-/
namespace Go.Proofs.Ytiniadlpgomgjaa
open Go.RowKit
set_option linter.unusedVariables false
def AllOps (R : Nat → Oper → Prop) : Nat → List Oper → Prop
  | _, [] => True
  | k, o :: t => R k o ∧ AllOps R (k + 1) t
theorem AllOps.get {R : Nat → Oper → Prop} : ∀ {l : List Oper} {k : Nat}, AllOps R k l → ∀ j o, l[j]? = some o → R (k + j) o
  | [], k, h, j, o, e => by simp at e
  | a :: l, k, h, 0, o, e => by
    simp only [List.getElem?_cons_zero, Option.some.injEq] at e
    subst e; exact h.1
  | a :: l, k, h, j + 1, o, e => by
    have := AllOps.get h.2 j o (by simpa using e)
    rw [show k + (j + 1) = k + 1 + j by omega]; exact this
/-- Every operation waits for earlier ones alone. -/
def backB (md : Region.Mode) (ops : Array Oper) : Bool := (List.range ops.size).all fun i => match ops[i]? with
  | some o => o.after.all fun e => !Region.binds md e || decide (e.on < i)
  | none => true
theorem all_listed {md : Region.Mode} {ops : Array Oper} {listed : Array Bool} (hb : backB md ops = true) (hs : listed.size = ops.size) (h : Region.ready md ops listed = []) : ∀ n j, j < n → j < ops.size → listed.getD j false = true := by
  intro n
  induction n with
  | zero => intro j h1; omega
  | succ n ih =>
    intro j h1 h2
    cases hl : listed.getD j false with
    | true => rfl
    | false =>
      exfalso
      have hm : j ∈ Region.ready md ops listed := by
        refine mem_ready.2 ⟨getD_in (by omega) hl, ops[j], Array.getElem?_eq_getElem h2, fun e he hbd => ?_⟩
        have h3 := List.all_eq_true.1 hb j (List.mem_range.2 h2)
        rw [Array.getElem?_eq_getElem h2] at h3
        simp only [Array.all_eq_true'] at h3
        have h4 := h3 e he
        rw [hbd] at h4
        simp only [Bool.not_true, Bool.false_or, decide_eq_true_eq] at h4
        exact ih e.on (by omega) (by omega)
      rw [h] at hm
      cases hm
theorem wpAny_inv {P : Program} {md : Region.Mode} {ops : Array Oper} {Q : Exit → Act → World → Prop} (I : (Nat → Bool) → Act → World → Prop) (hb : backB md ops = true)
    (hs : AllOps (fun k o => ∀ L a w, I L a w → L k = false → (o.after.all fun e => !Region.binds md e || L e.on) = true → ∀ K : Act → World → Prop, (∀ a w, I (fun j => j == k || L j) a w → K a w) →
      if Region.wanted o (yielded ops a.tmps) = true then Oper.wp P o a w K Q else K (a.put o.dst undef) w) 0 ops.toList)
    (he : ∀ L a w, (∀ j, j < ops.size → L j = true) → I L a w → Q .normal a w) :
    ∀ (fuel : Nat) (listed : Array Bool) (a : Act) (w : World), listed.size = ops.size → listed.toList.count false ≤ fuel → I (fun j => listed.getD j false) a w → wpAny P md ops Q fuel listed a w := by
  intro fuel
  induction fuel with
  | zero =>
    intro listed a w hsz hc hI
    have hall : ∀ j, j < ops.size → listed.getD j false = true := fun j hj => by
      have hj' : j < listed.size := by omega
      cases hl : listed.getD j false with
      | true => rfl
      | false =>
        have : false ∈ listed.toList := by
          rw [List.mem_iff_getElem]
          refine ⟨j, by simpa using hj', ?_⟩
          simpa [hj'] using hl
        have := List.count_pos_iff.2 this
        omega
    refine ⟨?_, he _ a w hall hI⟩
    rw [List.eq_nil_iff_forall_not_mem]
    intro i hi
    obtain ⟨h1, o, ho, _⟩ := mem_ready.1 hi
    have h2 := (Array.getElem?_eq_some_iff.1 ho).1
    have h3 := hall i h2
    have h4 := getD_both h1
    rw [h3] at h4; cases h4
  | succ fuel ih =>
    intro listed a w hsz hc hI
    refine ⟨fun h0 => he _ a w (fun j hj => all_listed hb hsz h0 (j + 1) j (by omega) hj) hI, fun i hi => ?_⟩
    obtain ⟨h1, o, ho, hd⟩ := mem_ready.1 hi
    have hlt := (Array.getElem?_eq_some_iff.1 ho).1
    have hf := getD_both h1
    have h2 := hs.get i o (by simpa using ho)
    rw [Nat.zero_add] at h2
    refine wpOp_step ho fun K hK => h2 _ a w hI hf ?_ K fun a' w' hI' => hK a' w' (ih _ a' w' (by simpa using hsz) ?_ ?_)
    · rw [Array.all_eq_true']
      intro e hem
      cases hbd : Region.binds md e with
      | false => rfl
      | true => simpa using hd e hem hbd
    · have hi' : i < listed.toList.length := by simp; omega
      have h3 : listed.toList[i] = false := by
        have : i < listed.size := by omega
        simpa [this] using hf
      have h5 : (listed.setIfInBounds i true).toList = listed.toList.set i true := by simp
      rw [h5, List.count_set hi', h3]
      have : 0 < listed.toList.count false := List.count_pos_iff.2 (by rw [← h3]; exact List.getElem_mem hi')
      rw [if_pos (by rfl), if_neg (by decide)]
      omega
    · have : (fun j => (listed.setIfInBounds i true).getD j false) = (fun j => j == i || listed.getD j false) := by
        funext j
        by_cases e : j = i
        · subst e
          have : j < listed.size := by omega
          simp [this]
        · rw [getD_set_ne false (fun h => e h.symm)]
          simp [e]
      rw [this]; exact hI'
/-- A region that draws its order, by an invariant. -/
theorem region_inv {P : Program} {ops : Array Oper} {Q : Exit → Act → World → Prop} {id : Nat} {a : Act} {w : World} (I : (Nat → Bool) → Act → World → Prop) (hm : P.follows .mixedOrders = true) (hb : backB .any ops = true)
    (h0 : I (fun _ => false) a w.drew)
    (hs : AllOps (fun k o => ∀ L a w, I L a w → L k = false → (o.after.all fun e => !Region.binds .any e || L e.on) = true → ∀ K : Act → World → Prop, (∀ a w, I (fun j => j == k || L j) a w → K a w) →
      if Region.wanted o (yielded ops a.tmps) = true then Oper.wp P o a w K Q else K (a.put o.dst undef) w) 0 ops.toList)
    (he : ∀ L a w, (∀ j, j < ops.size → L j = true) → I L a w → Q .normal a w) : (Code.region id ops true).wp P Q a w := by
  refine wp_region_any hm (wpAny_inv I hb hs he ops.size _ a _ (by simp) ?_ ?_)
  · have h1 : (Array.replicate ops.size false).toList.length = ops.size := by simp
    exact Nat.le_trans List.count_le_length (by rw [h1]; exact Nat.le_refl _)
  · have : (fun j => (Array.replicate ops.size false).getD j false) = fun _ => false := by funext j; exact getD_replicate_false _ _
    rw [this]; exact h0
/-! ### values and facts -/
/-- The frame in which operation k has yielded u k. -/
def frameOf : List Oper → Nat → (Nat → Value) → Act → Act
  | [], _, _, a => a
  | o :: t, k, u, a => frameOf t (k + 1) u (a.put o.dst (u k))
def distB : List Oper → Bool
  | [] => true
  | o :: t => t.all (fun p => o.dst.isNone || p.dst != o.dst) && distB t
theorem put_same (a : Act) (d : Option Tmp) (x v : Value) : (a.put d x).put d v = a.put d v := by
  cases d with
  | none => rfl
  | some d => simp [Act.put, Array.setIfInBounds_setIfInBounds]
theorem put_frame : ∀ (t : List Oper) (k : Nat) (u : Nat → Value) (b : Act) (d : Option Tmp) (v : Value), (t.all fun p => d.isNone || p.dst != d) = true → (frameOf t k u b).put d v = frameOf t k u (b.put d v)
  | [], k, u, b, d, v, h => rfl
  | o :: t, k, u, b, d, v, h => by
    simp only [List.all_cons, Bool.and_eq_true] at h
    rw [frameOf, frameOf, put_frame t (k + 1) u _ d v h.2]
    congr 1
    refine Act.put_comm b _ _ fun e he hd => ?_
    have h1 := h.1
    rw [hd, he] at h1
    simp at h1
theorem frame_ext : ∀ (t : List Oper) (k : Nat) (u u' : Nat → Value) (b : Act), (∀ j, k ≤ j → u j = u' j) → frameOf t k u b = frameOf t k u' b
  | [], k, u, u', b, h => rfl
  | o :: t, k, u, u', b, h => by rw [frameOf, frameOf, h k (Nat.le_refl _)]; exact frame_ext t (k + 1) u u' _ fun j hj => h j (by omega)
def upd (u : Nat → Value) (k : Nat) (v : Value) : Nat → Value := fun j => if j = k then v else u j
theorem frame_put : ∀ (l : List Oper) (k : Nat) (u : Nat → Value) (b : Act) (j : Nat) (o : Oper) (v : Value), distB l = true → l[j]? = some o → (frameOf l k u b).put o.dst v = frameOf l k (upd u (k + j) v) b
  | [], k, u, b, j, o, v, h, ho => by simp at ho
  | p :: t, k, u, b, 0, o, v, h, ho => by
    simp only [List.getElem?_cons_zero, Option.some.injEq] at ho
    subst ho
    simp only [distB, Bool.and_eq_true] at h
    rw [frameOf, frameOf, put_frame t (k + 1) u _ _ v h.1, put_same]
    have e : upd u (k + 0) v k = v := by unfold upd; rw [if_pos (by omega)]
    rw [e]
    exact frame_ext t (k + 1) u _ _ fun j hj => by unfold upd; rw [if_neg (by omega)]
  | p :: t, k, u, b, j + 1, o, v, h, ho => by
    simp only [distB, Bool.and_eq_true] at h
    have e : upd u (k + (j + 1)) v k = u k := by unfold upd; rw [if_neg (by omega)]
    rw [frameOf, frameOf, e, show k + (j + 1) = k + 1 + j by omega]
    exact frame_put t (k + 1) u _ j o v h.2 (by simpa using ho)
theorem put_get_ne {a : Act} {dst : Option Tmp} {v : Value} {d : Nat} (h : dst ≠ some d) : (a.put dst v).tmps.getD d undef = a.tmps.getD d undef := by
  cases dst with
  | none => rfl
  | some e =>
    have hne : e ≠ d := fun h1 => h (by rw [h1])
    simp [Act.put, Array.getElem?_setIfInBounds_ne hne]
theorem put_size (a : Act) (dst : Option Tmp) (v : Value) : (a.put dst v).tmps.size = a.tmps.size := by cases dst <;> simp [Act.put]
theorem frame_size : ∀ (l : List Oper) (k : Nat) (u : Nat → Value) (a : Act), (frameOf l k u a).tmps.size = a.tmps.size
  | [], k, u, a => rfl
  | o :: t, k, u, a => by rw [frameOf, frame_size t, put_size]
theorem frame_keep : ∀ (l : List Oper) (k : Nat) (u : Nat → Value) (a : Act) (d : Nat), (l.all fun o => o.dst != some d) = true → (frameOf l k u a).tmps.getD d undef = a.tmps.getD d undef
  | [], k, u, a, d, h => rfl
  | o :: t, k, u, a, d, h => by
    simp only [List.all_cons, Bool.and_eq_true] at h
    rw [frameOf, frame_keep t (k + 1) u _ d h.2]
    exact put_get_ne (by simpa using h.1)
theorem frame_at : ∀ (l : List Oper) (k : Nat) (u : Nat → Value) (a : Act) (j : Nat) (o : Oper) (d : Nat), distB l = true → l[j]? = some o → o.dst = some d → d < a.tmps.size → (frameOf l k u a).tmps.getD d undef = u (k + j)
  | [], k, u, a, j, o, d, h, ho, hd, hs => by simp at ho
  | p :: t, k, u, a, 0, o, d, h, ho, hd, hs => by
    simp only [List.getElem?_cons_zero, Option.some.injEq] at ho
    subst ho
    simp only [distB, Bool.and_eq_true, hd] at h
    rw [frameOf, frame_keep t (k + 1) u _ d (by
      rw [List.all_eq_true]
      intro q hq
      simpa using List.all_eq_true.1 h.1 q hq), hd]
    simp [Act.put, hs]
  | p :: t, k, u, a, j + 1, o, d, h, ho, hd, hs => by
    simp only [distB, Bool.and_eq_true] at h
    rw [frameOf, frame_at t (k + 1) u _ j o d h.2 (by simpa using ho) hd (by rw [put_size]; exact hs), show k + 1 + j = k + (j + 1) by omega]
/-- What a region's step knows of its frame: what the operations have yielded (u), what lay in the other slots (a0). -/
structure FrameIs (ops : Array Oper) (a0 : Act) (u : Nat → Value) (a : Act) : Prop where
  at' : ∀ (j : Nat) (o : Oper) (d : Nat), ops.toList[j]? = some o → o.dst = some d → decide (d < a0.tmps.size) = true → a.tmps[d]? = some (u j)
  keep : ∀ (d : Nat) (x : Value), (ops.toList.all fun o => o.dst != some d) = true → a0.tmps[d]? = some x → a.tmps[d]? = some x
def dstVal (a : Act) (o : Oper) : Value := match o.dst with
  | some d => a.tmps.getD d undef
  | none => undef
theorem put_own (a : Act) (o : Oper) : a.put o.dst (dstVal a o) = a := by
  unfold dstVal
  cases o.dst with
  | none => rfl
  | some d =>
    obtain ⟨tmps, defers⟩ := a
    simp only [Act.put, Act.mk.injEq, and_true]
    apply Array.ext
    · simp
    · intro i h1 h2
      rw [Array.getElem_setIfInBounds]
      · by_cases e : d = i
        · subst e; simp [h2]
        · simp [e]
      · exact h2
theorem frame_id : ∀ (l : List Oper) (k : Nat) (u : Nat → Value) (a : Act), (∀ j o, l[j]? = some o → u (k + j) = dstVal a o) → frameOf l k u a = a
  | [], k, u, a, h => rfl
  | o :: t, k, u, a, h => by
    have h1 := h 0 o rfl
    rw [Nat.add_zero] at h1
    rw [frameOf, h1, put_own]
    exact frame_id t (k + 1) u a fun j p hp => by rw [show k + 1 + j = k + (j + 1) by omega]; exact h (j + 1) p (by simpa using hp)
theorem frameIs (ops : Array Oper) (hd : distB ops.toList = true) (a0 : Act) (u : Nat → Value) : FrameIs ops a0 u (frameOf ops.toList 0 u a0) :=
  ⟨fun j o d ho hod hs => by
    have h1 := frame_at ops.toList 0 u a0 j o d hd ho hod (by simpa using hs)
    have h2 : d < (frameOf ops.toList 0 u a0).tmps.size := by rw [frame_size]; simpa using hs
    rw [Nat.zero_add] at h1
    rw [Array.getElem?_eq_getElem h2, ← h1]
    simp [h2], fun d x h hx => by
    have h1 := frame_keep ops.toList 0 u a0 d h
    have h3 := (Array.getElem?_eq_some_iff.1 hx).1
    have h2 : d < (frameOf ops.toList 0 u a0).tmps.size := by rw [frame_size]; exact h3
    rw [← hx, Array.getElem?_eq_getElem h2, Array.getElem?_eq_getElem h3]
    simpa [h2, h3] using h1⟩
/-- A region that draws its order: of each operation what holds of what it yields (F), whatever comes behind; of the world what holds by what has run (G). -/
theorem region_facts {P : Program} {ops : Array Oper} {Q : Exit → Act → World → Prop} {id : Nat} {a0 : Act} {w0 : World} (Ext : World → World → Prop) (G : (Nat → Bool) → World → Prop) (F : Nat → Value → World → Prop)
    (hm : P.follows .mixedOrders = true) (hb : backB .any ops = true) (hd : distB ops.toList = true) (hmono : ∀ k v w w', Ext w w' → F k v w → F k v w')
    (hG : G (fun _ => false) w0.drew)
    (hs : AllOps (fun k o => ∀ L u a w, FrameIs ops a0 u a → G L w → (∀ j, L j = true → F j (u j) w) → L k = false → (o.after.all fun e => !Region.binds .any e || L e.on) = true →
      ∀ K : Act → World → Prop, (∀ a' w', (∃ v, a' = a.put o.dst v ∧ Ext w w' ∧ G (fun j => j == k || L j) w' ∧ F k v w') → K a' w') →
      if Region.wanted o (yielded ops a.tmps) = true then Oper.wp P o a w K Q else K (a.put o.dst undef) w) 0 ops.toList)
    (he : ∀ L u w, (∀ j, j < ops.size → F j (u j) w) → (∀ j, j < ops.size → L j = true) → G L w → Q .normal (frameOf ops.toList 0 u a0) w) : (Code.region id ops true).wp P Q a0 w0 := by
  refine region_inv (fun L a w => G L w ∧ ∃ u, a = frameOf ops.toList 0 u a0 ∧ ∀ j, L j = true → F j (u j) w) hm hb ⟨hG, fun j => match ops.toList[j]? with | some o => dstVal a0 o | none => undef, (frame_id _ _ _ _ fun j o h => by rw [Nat.zero_add, h]).symm, fun j h => by cases h⟩ ?_ ?_
  · have hget := fun j o (h : ops.toList[j]? = some o) => AllOps.get hs j o h
    have key : ∀ (l : List Oper) (k : Nat), (∀ j o, l[j]? = some o → ops.toList[k + j]? = some o) → AllOps (fun k o => ∀ L a w, (G L w ∧ ∃ u, a = frameOf ops.toList 0 u a0 ∧ ∀ j, L j = true → F j (u j) w) → L k = false → (o.after.all fun e => !Region.binds .any e || L e.on) = true → ∀ K : Act → World → Prop, (∀ a w, (G (fun j => j == k || L j) w ∧ ∃ u, a = frameOf ops.toList 0 u a0 ∧ ∀ j, (j == k || L j) = true → F j (u j) w) → K a w) →
      if Region.wanted o (yielded ops a.tmps) = true then Oper.wp P o a w K Q else K (a.put o.dst undef) w) k l := by
      intro l
      induction l with
      | nil => intro k _; trivial
      | cons o t ih =>
        intro k hk
        refine ⟨?_, ih (k + 1) fun j p hp => by rw [show k + 1 + j = k + (j + 1) by omega]; exact hk (j + 1) p (by simpa using hp)⟩
        have ho := hk 0 o rfl
        rw [Nat.add_zero] at ho
        rintro L a w ⟨hg, u, rfl, hf⟩ hl hdep K hK
        have h1 := hget k o ho
        rw [Nat.zero_add] at h1
        refine h1 L u _ w (frameIs ops hd a0 u) hg hf hl hdep K ?_
        rintro a' w' ⟨v, rfl, hx, hg', hv⟩
        refine hK _ _ ⟨hg', upd u k v, ?_, ?_⟩
        · have := frame_put ops.toList 0 u a0 k o v hd ho
          rw [Nat.zero_add] at this
          exact this
        · intro j hj
          by_cases e : j = k
          · subst e; unfold upd; rw [if_pos rfl]; exact hv
          · have : L j = true := by simpa [e] using hj
            unfold upd; rw [if_neg e]; exact hmono _ _ _ _ hx (hf j this)
    exact key ops.toList 0 fun j o h => by rw [Nat.zero_add]; exact h
  · rintro L a w hall ⟨hg, u, rfl, hf⟩
    exact he L u w (fun j hj => hf j (hall j hj)) hall hg
/-- A region that draws its order, each of whose operations yields one value in whatever order. -/
theorem region_vals {P : Program} {ops : Array Oper} {Q : Exit → Act → World → Prop} {id : Nat} {a0 : Act} {w0 : World} (G : (Nat → Bool) → World → Prop) (val : Nat → Value)
    (hm : P.follows .mixedOrders = true) (hb : backB .any ops = true) (hd : distB ops.toList = true) (hG : G (fun _ => false) w0.drew)
    (hs : AllOps (fun k o => ∀ L a w, (∀ (j : Nat) (o : Oper) (d : Nat), ops.toList[j]? = some o → o.dst = some d → decide (d < a0.tmps.size) = true → L j = true → a.tmps[d]? = some (val j)) →
      (∀ (d : Nat) (x : Value), (ops.toList.all fun o => o.dst != some d) = true → a0.tmps[d]? = some x → a.tmps[d]? = some x) → G L w → L k = false → (o.after.all fun e => !Region.binds .any e || L e.on) = true →
      ∀ K : Act → World → Prop, (∀ a' w', a' = a.put o.dst (val k) ∧ G (fun j => j == k || L j) w' → K a' w') →
      if Region.wanted o (yielded ops a.tmps) = true then Oper.wp P o a w K Q else K (a.put o.dst undef) w) 0 ops.toList)
    (he : ∀ w, G (fun _ => true) w → Q .normal (frameOf ops.toList 0 val a0) w) (hGe : ∀ L L' w, (∀ j, j < ops.size → L j = L' j) → G L w → G L' w) : (Code.region id ops true).wp P Q a0 w0 := by
  refine region_facts (fun _ _ => True) G (fun k v _ => v = val k) hm hb hd (fun _ _ _ _ _ h => h) hG ?_ ?_
  · have key : ∀ (l : List Oper) (k : Nat), AllOps (fun k o => ∀ L a w, (∀ (j : Nat) (o : Oper) (d : Nat), ops.toList[j]? = some o → o.dst = some d → decide (d < a0.tmps.size) = true → L j = true → a.tmps[d]? = some (val j)) →
      (∀ (d : Nat) (x : Value), (ops.toList.all fun o => o.dst != some d) = true → a0.tmps[d]? = some x → a.tmps[d]? = some x) → G L w → L k = false → (o.after.all fun e => !Region.binds .any e || L e.on) = true →
      ∀ K : Act → World → Prop, (∀ a' w', a' = a.put o.dst (val k) ∧ G (fun j => j == k || L j) w' → K a' w') →
      if Region.wanted o (yielded ops a.tmps) = true then Oper.wp P o a w K Q else K (a.put o.dst undef) w) k l → AllOps (fun k o => ∀ L u a w, FrameIs ops a0 u a → G L w → (∀ j, L j = true → u j = val j) → L k = false → (o.after.all fun e => !Region.binds .any e || L e.on) = true →
      ∀ K : Act → World → Prop, (∀ a' w', (∃ v, a' = a.put o.dst v ∧ True ∧ G (fun j => j == k || L j) w' ∧ v = val k) → K a' w') →
      if Region.wanted o (yielded ops a.tmps) = true then Oper.wp P o a w K Q else K (a.put o.dst undef) w) k l := by
      intro l
      induction l with
      | nil => intro k _; trivial
      | cons o t ih =>
        rintro k ⟨h1, h2⟩
        refine ⟨?_, ih _ h2⟩
        intro L u a w hA hg hf hl hdep K hK
        refine h1 L a w (fun j o d ho hod hs hj => ?_) hA.keep hg hl hdep K ?_
        · rw [← hf j hj]; exact hA.at' j o d ho hod hs
        · rintro a' w' ⟨rfl, hg'⟩
          exact hK _ _ ⟨_, rfl, trivial, hg', rfl⟩
    exact key _ _ hs
  · intro L u w hf hL hg
    have e : frameOf ops.toList 0 u a0 = frameOf ops.toList 0 val a0 := by
      have key : ∀ (l : List Oper) (k : Nat) (b : Act), k + l.length = ops.size → frameOf l k u b = frameOf l k val b := by
        intro l
        induction l with
        | nil => intro k b _; rfl
        | cons o t ih =>
          intro k b hk
          simp only [List.length_cons] at hk
          rw [frameOf, frameOf, hf k (by omega)]
          exact ih (k + 1) _ (by omega)
      exact key ops.toList 0 a0 (by simp)
    rw [e]
    exact he w (hGe L _ w (fun j hj => by rw [hL j hj]) hg)
end Go.Proofs.Ytiniadlpgomgjaa
/-
  copy, append of a make, and slices that are cut, at elements of more than one cell: for rows of a call's own.
-/
namespace Go.Proofs.Ytiniadlpgomgjaa
open Go.RowKit
set_option linter.unusedVariables false
/-- What a copy leaves in a row. -/
def laid (cur : List Value) (o : Nat) (cs : List Value) : List Value := cur.take o ++ cs ++ cur.drop (o + cs.length)
theorem laid_len {cur cs : List Value} {o : Nat} (h : o + cs.length ≤ cur.length) : (laid cur o cs).length = cur.length := by unfold laid; simp; omega
/-- The row of a block. -/
def RowIs (w : World) (g : Nat) (t : TypeId) (cur : List Value) : Prop := w.heap[g]? = some (.cells cur.toArray t (0, 0))
theorem RowIs.grown {w w' : World} {g : Nat} {t : TypeId} {cur : List Value} {r : Option Nat} (h : RowIs w g t cur) (hg : w.grownBy w' r) (hr : some g ≠ r) : RowIs w' g t cur :=
  (hg.block g (Array.getElem?_eq_some_iff.1 h).1 hr).trans h
theorem RowIs.cell {w : World} {g : Nat} {t : TypeId} {cur : List Value} (h : RowIs w g t cur) {j : Nat} {u : Value} (hj : cur[j]? = some u) : w.cell? ⟨g, j, none⟩ = some u := by
  rw [cell_of_row w g j _ t (0, 0) h]; simpa using hj
section
variable {ops : Array Oper} {rest rest' : List Oper} {o : Oper} {a : Act} {Q : Exit → Act → World → Prop} {K : Act → World → Prop} {P0 : Prop} {t e : TypeId} {size : Nat} {z : Value} {w : World}
theorem run_copyK (T : Elt t e size z) (sT ty : TypeId) {g off dLen dCap : Nat} {ad : Addr} {sLen sCap : Nat} {cur cs : List Value} {te : TypeId} (hg : RowIs w g te cur) (hn : cs.length = Nat.min sLen dLen * size)
    (hsrc : ∀ j v, cs[j]? = some v → w.cell? (ad.add j) = some v) (hfit : off + cs.length ≤ cur.length) (h1 : ∀ v ∈ cs, v.oneCell' = true) :
    ∃ w', (Builtin.copy_ #[t, sT] ty #[.slice (some ⟨g, off, none⟩) dLen dCap, .slice (some ad) sLen sCap]).run Try.prog w = .ok (goInt (Nat.min sLen dLen)) w' ∧ RowIs w' g te (laid cur off cs) ∧ w.grownBy w' (some g) := by
  obtain ⟨i, hi, hz, hsz, hby⟩ := T.info
  have hl := run_loadCells_list (P := Try.prog) w ad cs hsrc
  rw [hn] at hl
  have hst := run_storeCells_at Try.prog g off te cs 0 cur.toArray w hg (by simpa using hfit) h1
  refine ⟨w.setRow g (cur.toArray.toList.take (off + 0) ++ cs ++ cur.toArray.toList.drop (off + 0 + cs.length)).toArray, ?_, ?_, ?_⟩
  · simp [Builtin.copy_, run_underlying T.und, Builtin.lenOf, Builtin.firstCells, sizeOf, typeInfo, hi, hsz, hl, hst]
  · exact setRow_heap w g _ _ te (0, 0) hg
  · exact ⟨rfl, rfl, rfl, by simp [World.setRow], fun k hk hr => setRow_other w g k _ (fun h => hr (by rw [h]))⟩
theorem wp_copyK (T : Elt t e size z) {g off dLen dCap : Nat} {ad : Addr} {sLen sCap : Nat} {cur cs : List Value} {te sT : TypeId} (hg : RowIs w g te cur) (hn : cs.length = Nat.min sLen dLen * size)
    (hsrc : ∀ j v, cs[j]? = some v → w.cell? (ad.add j) = some v) (hfit : off + cs.length ≤ cur.length) (h1 : ∀ v ∈ cs, v.oneCell' = true)
    (d s : Operand) (ho : o.op = .call { callee := .builtin .copy, args := #[d, s], argTypes := #[t, sT] }) (hd : a.eval d = .slice (some ⟨g, off, none⟩) dLen dCap) (hs : a.eval s = .slice (some ad) sLen sCap)
    (h : ∀ w' n, RowIs w' g te (laid cur off cs) → w.grownBy w' (some g) → K (a.put o.dst (goInt n)) w') : o.wp Try.prog a w K Q := by
  obtain ⟨w', hr, h2, h3⟩ := run_copyK T sT o.type (dCap := dCap) (sCap := sCap) hg hn hsrc hfit h1
  unfold Oper.wp execOp
  simp only [ho, resolve, invoke, builtin, Sem.run_bind, Sem.run_pure, Result.andThen_ok, List.map_toArray, List.map_cons, List.map_nil, hd, hs, hr]
  exact h w' _ h2 h3
theorem wpList_copyK (T : Elt t e size z) {g off dLen dCap : Nat} {ad : Addr} {sLen sCap : Nat} {cur cs : List Value} {te sT : TypeId} (hg : RowIs w g te cur) (hn : cs.length = Nat.min sLen dLen * size)
    (hsrc : ∀ j v, cs[j]? = some v → w.cell? (ad.add j) = some v) (hfit : off + cs.length ≤ cur.length) (h1 : ∀ v ∈ cs, v.oneCell' = true)
    (hgd : o.guard = none) (d s : Operand) (ho : o.op = .call { callee := .builtin .copy, args := #[d, s], argTypes := #[t, sT] }) (hd : a.eval d = .slice (some ⟨g, off, none⟩) dLen dCap) (hs : a.eval s = .slice (some ad) sLen sCap)
    (h : ∀ w' n, RowIs w' g te (laid cur off cs) → w.grownBy w' (some g) → wpList Try.prog ops Q rest (a.put o.dst (goInt n)) w') : wpList Try.prog ops Q (o :: rest) a w :=
  wpList_plain hgd fun _ hK => wp_copyK T hg hn hsrc hfit h1 d s ho hd hs fun w' n h2 h3 => hK _ _ (h w' n h2 h3)
theorem step_copyK (T : Elt t e size z) {g off dLen dCap : Nat} {ad : Addr} {sLen sCap : Nat} {cur cs : List Value} {te sT : TypeId} (hg : RowIs w g te cur) (hn : cs.length = Nat.min sLen dLen * size)
    (hsrc : ∀ j v, cs[j]? = some v → w.cell? (ad.add j) = some v) (hfit : off + cs.length ≤ cur.length) (h1 : ∀ v ∈ cs, v.oneCell' = true)
    (hgd : o.guard = none) (d s : Operand) (ho : o.op = .call { callee := .builtin .copy, args := #[d, s], argTypes := #[t, sT] }) (hd : a.eval d = .slice (some ⟨g, off, none⟩) dLen dCap) (hs : a.eval s = .slice (some ad) sLen sCap)
    (h : ∀ w' n, RowIs w' g te (laid cur off cs) → w.grownBy w' (some g) → K (a.put o.dst (goInt n)) w') :
    if Region.wanted o (yielded ops a.tmps) = true then Oper.wp Try.prog o a w K Q else P0 := by
  have hw : Region.wanted o (yielded ops a.tmps) = true := by simp [Region.wanted, hgd]
  rw [if_pos hw]
  exact wp_copyK T hg hn hsrc hfit h1 d s ho hd hs h
/-- append of k zero values to the first m elements of a row in which there is no room for them: a new row. -/
theorem run_appZ (T : Elt t e size z) (tn ty : TypeId) (htn : Try.prog.underlying tn = some (.int .i64)) {x : Addr} {m c k : Nat} {olds : List Value} (hl : olds.length = m * size) (hr : ∀ j v, olds[j]? = some v → w.cell? (x.add j) = some v) (hk : 0 < k) (hroom : c < m + k) (hm : m + k ≤ 2000000) :
    ∃ w' G rest, (Builtin.append_ #[t, tn] ty #[.slice (some x) m c, .int .i64 (k : Int)]).run Try.prog w = .ok (.slice (some ⟨w.heap.size, 0, none⟩) (m + k) G) w' ∧ RowIs w' w.heap.size e (olds ++ rest) ∧ rest.length = (G - m) * size ∧ m + k ≤ G ∧ G ≤ maxLen ∧ w.grownBy w' none := by
  obtain ⟨i, hi, hz, hsz, hby⟩ := T.info
  have hb : (m + k) * i.bytes ≤ 2000000 * 1000 := Nat.mul_le_mul (by omega) hby
  have hb2 : k * i.bytes ≤ 2000000 * 1000 := Nat.mul_le_mul (by omega) hby
  have hold : (Builtin.firstCells i.size m (.slice (some x) m c)).run Try.prog w.drew = .ok olds.toArray w.drew := by
    rw [hsz]
    show (loadCells x (m * size)).run Try.prog w.drew = _
    rw [← hl]
    exact run_loadCells_list w.drew x olds hr
  have h := Lib.run_append_grow_zeros w t tn ty e i z .i64 .i64 T.und htn hi hz (some x) m c olds hold k hk (by rw [hsz]; exact T.pos) hroom (by omega) (by omega) (growslice_fits hroom (by omega))
  have hge := grownCap_ge w (m + k) c e
  have hG := grownCap_le_maxLen w (m + k) c e (by unfold maxLen; omega)
  refine ⟨_, _, (Builtin.zeroCells z.cells k ++ Builtin.zeroCells z.cells (grownCap w (m + k) c e - (m + k))).toList, h, ?_, ?_, hge, hG, rfl, rfl, rfl, by simp, fun j hj _ => Below.heap_alloc w.drew _ j hj⟩
  · refine (heap_alloc_new w.drew _).trans ?_
    rw [Array.append_assoc, ← List.append_toArray, Array.toArray_toList]
  · rw [Array.length_toList, Array.size_append, size_zeroCells, size_zeroCells, T.cells, ← Nat.add_mul, show k + (grownCap w (m + k) c e - (m + k)) = grownCap w (m + k) c e - m by omega]
theorem wpList_appZ (T : Elt t e size z) {tn : TypeId} (htn : Try.prog.underlying tn = some (.int .i64)) {x : Addr} {m c k : Nat} {olds : List Value} (hl : olds.length = m * size) (hr : ∀ j v, olds[j]? = some v → w.cell? (x.add j) = some v) (hk : 0 < k) (hroom : c < m + k) (hm : m + k ≤ 2000000) {kI : Int} (hkI : kI = (k : Int))
    (hgd : o.guard = none) (s y : Operand) (ho : o.op = .call { callee := .builtin .append, args := #[s, y], argTypes := #[t, tn] }) (hs : a.eval s = .slice (some x) m c) (hy : a.eval y = .int .i64 kI)
    (h : ∀ w' G rest, RowIs w' w.heap.size e (olds ++ rest) → rest.length = (G - m) * size → m + k ≤ G → G ≤ maxLen → w.grownBy w' none → wpList Try.prog ops Q rest' (a.put o.dst (.slice (some ⟨w.heap.size, 0, none⟩) (m + k) G)) w') : wpList Try.prog ops Q (o :: rest') a w := by
  subst hkI
  obtain ⟨w', G, rest, hrun, h2, h3, h4, h5, h6⟩ := run_appZ T tn o.type htn hl hr hk hroom hm
  refine wpList_plain hgd fun _ hK => ?_
  unfold Oper.wp execOp
  simp only [ho, resolve, invoke, builtin, Sem.run_bind, Sem.run_pure, Result.andThen_ok, List.map_toArray, List.map_cons, List.map_nil, hs, hy, hrun]
  exact hK _ _ (h w' G rest h2 h3 h4 h5 h6)
end
/-! ### what stands in the row at the end -/
theorem laid_split {A X R cs : List Value} {o : Nat} (hA : A.length = o) (hX : X.length = cs.length) : laid (A ++ X ++ R) o cs = A ++ cs ++ R := by
  unfold laid
  subst hA
  rw [List.append_assoc A X R, List.take_left', List.drop_append, List.drop_of_length_le (by omega), List.nil_append, Nat.add_sub_cancel_left, List.drop_append, List.drop_of_length_le (by omega), List.nil_append, hX, Nat.sub_self, List.drop_zero]
  rfl
/-- The tail first, then the piece. -/
theorem laid_tail {A X Y Z q r : List Value} {i j : Nat} (hA : A.length = i) (hX : i + X.length = j) (hq : q.length = X.length) (hr : r.length = Y.length) : laid (laid (A ++ X ++ Y ++ Z) j r) i q = A ++ q ++ r ++ Z := by
  rw [laid_split (A := A ++ X) (X := Y) (by simp; omega) hr.symm, List.append_assoc (A ++ X) r Z, laid_split hA hq.symm, List.append_assoc (A ++ q)]
/-- The piece first, then the tail. -/
theorem laid_head {A X Y Z q r : List Value} {i j : Nat} (hA : A.length = i) (hX : i + X.length = j) (hq : q.length = X.length) (hr : r.length = Y.length) : laid (laid (A ++ X ++ Y ++ Z) i q) j r = A ++ q ++ r ++ Z := by
  rw [List.append_assoc (A ++ X), laid_split hA hq.symm, ← List.append_assoc (A ++ q), laid_split (A := A ++ q) (X := Y) (by simp; omega) hr.symm]
/-- A list in four parts. -/
theorem parts4 (L : List Value) (i m k : Nat) (h : i + m + k ≤ L.length) : ∃ A X Y Z, L = A ++ X ++ Y ++ Z ∧ A = L.take i ∧ A.length = i ∧ X.length = m ∧ Y.length = k :=
  ⟨L.take i, (L.drop i).take m, ((L.drop i).drop m).take k, ((L.drop i).drop m).drop k, by
    rw [List.append_assoc (L.take i ++ _), List.take_append_drop, List.append_assoc, List.take_append_drop, List.take_append_drop], rfl, by rw [List.length_take]; omega, by rw [List.length_take, List.length_drop]; omega, by rw [List.length_take, List.length_drop, List.length_drop]; omega⟩
end Go.Proofs.Ytiniadlpgomgjaa
