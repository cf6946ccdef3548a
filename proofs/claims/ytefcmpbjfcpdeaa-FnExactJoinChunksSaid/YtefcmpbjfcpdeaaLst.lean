/-
  Lists in memory whose elements take one or more cells: what a slice reads as; rows of a call's own; append; make.
-/
import Derived.Test.YtefcmpbjfcpdeaaMem
namespace Go.Proofs.Ytefcmpbjfcpdeaa
open Go.RowKit
set_option linter.unusedVariables false
/-- An element's cells: 'size' many. -/
structure Enc {α : Type} (g : α → List Value) (size : Nat) : Prop where
  len : ∀ a, (g a).length = size
  one : ∀ a, ∀ u ∈ g a, u.oneCell' = true
  pos : 0 < size
theorem Enc.length {α : Type} {g : α → List Value} {size : Nat} (E : Enc g size) (l : List α) : (l.flatMap g).length = l.length * size := by
  induction l with
  | nil => simp
  | cons a l ih => rw [List.flatMap_cons, List.length_append, ih, E.len, List.length_cons, Nat.succ_mul, Nat.add_comm]
theorem Enc.get {α : Type} {g : α → List Value} {size : Nat} (E : Enc g size) : ∀ (l : List α) (k j : Nat) (d : α), k < l.length → j < size → (l.flatMap g)[k * size + j]? = (g (l.getD k d))[j]?
  | [], k, j, d, hk, hj => by simp at hk
  | a :: l, 0, j, d, hk, hj => by rw [List.flatMap_cons, Nat.zero_mul, Nat.zero_add, List.getElem?_append_left (by rw [E.len]; exact hj)]; rfl
  | a :: l, k + 1, j, d, hk, hj => by
    rw [List.flatMap_cons, List.getElem?_append_right (by rw [E.len, Nat.succ_mul]; omega), E.len, show (k + 1) * size + j - size = k * size + j by rw [Nat.succ_mul]; omega, Enc.get E l k j d (by simpa using hk) hj]
    rfl
theorem Enc.oneAll {α : Type} {g : α → List Value} {size : Nat} (E : Enc g size) (l : List α) : ∀ u ∈ l.flatMap g, u.oneCell' = true := by
  intro u hu; obtain ⟨a, _, h⟩ := List.mem_flatMap.1 hu; exact E.one a u h
/-- The slice (x, n, cap) reads as the list l. -/
structure Lst {α : Type} (g : α → List Value) (w : World) (B : Nat) (x : Option Addr) (n cap : Nat) (l : List α) : Prop where
  len : l.length = n
  le : n ≤ cap
  max : cap ≤ maxLen
  rds : Rds w B x (l.flatMap g)
section
variable {α : Type} {g : α → List Value} {size : Nat} {w w' : World} {B B' : Nat} {x : Option Addr} {n cap : Nat} {l : List α}
theorem Lst.below (h : Lst g w B x n cap l) (hb : Below B' w w') (hB : B ≤ B') : Lst g w' B x n cap l := ⟨h.len, h.le, h.max, h.rds.below hb hB⟩
theorem Lst.keep (h : Lst g w B x n cap l) (hk : ∀ k, k < B → w'.heap[k]? = w.heap[k]?) : Lst g w' B x n cap l := ⟨h.len, h.le, h.max, h.rds.keep hk⟩
theorem Lst.more (h : Lst g w B x n cap l) (hB : B ≤ B') : Lst g w B' x n cap l := ⟨h.len, h.le, h.max, h.rds.more hB⟩
theorem Lst.alloc (h : Lst g w B x n cap l) (hB : B ≤ w.heap.size) (o : Obj) : Lst g (w.alloc o) B x n cap l := ⟨h.len, h.le, h.max, h.rds.alloc hB o⟩
theorem Lst.grown {row : Option Nat} (h : Lst g w B x n cap l) (hg : w.grownBy w' row) (hB : B ≤ w.heap.size) (hr : ∀ k, row = some k → B ≤ k) : Lst g w' B x n cap l := ⟨h.len, h.le, h.max, h.rds.grown hg hB hr⟩
theorem Lst.drewN (h : Lst g w B x n cap l) (m : Nat) : Lst g (w.drewN m) B x n cap l := ⟨h.len, h.le, h.max, h.rds⟩
theorem Lst.at (E : Enc g size) (h : Lst g w B x n cap l) {k j : Nat} {v : Value} (d : α) (hk : k < n) (hj : j < size) (hv : (g (l.getD k d))[j]? = some v) :
    ∃ b off, x = some ⟨b, off, none⟩ ∧ b < B ∧ w.cell? ⟨b, off + (k * size + j), none⟩ = some v := by
  refine h.rds (k * size + j) v ?_
  rw [E.get l k j d (by have := h.len; omega) hj]; exact hv
end
/-- A row of a call's own. -/
def OwnL {α : Type} (g : α → List Value) (e : TypeId) (size : Nat) (w : World) (base : Nat) (v : Value) (l : List α) : Prop := w.ownsRow base e size v l.length (l.flatMap g)
section
variable {α : Type} {g : α → List Value} {e t : TypeId} {size : Nat} {z : Value} {w w' : World} {base base' : Nat} {v : Value} {l : List α}
theorem OwnL.lst (h : OwnL g e size w base v l) : ∃ x n cap, v = .slice x n cap ∧ Lst g w w.heap.size x n cap l := by
  obtain ⟨x, cap, h1, h2, h3, h4⟩ := own_reads h
  exact ⟨x, _, cap, h1, rfl, h2, h3, h4⟩
theorem OwnL.below (h : OwnL g e size w base v l) (hb : Below w.heap.size w w') : OwnL g e size w' base v l :=
  World.ownsRow.kept (row := none) h ⟨hb.os, hb.tape, hb.output, hb.size, fun k hk _ => hb.block k hk⟩ (by cases hv : v.ownBlock <;> simp)
theorem OwnL.mono (h : OwnL g e size w base v l) (hb : base' ≤ base) : OwnL g e size w base' v l := World.ownsRow.mono h hb
theorem OwnL.at (h : OwnL g e size w base v l) : ∀ k, v.ownBlock = some k → base ≤ k := fun k hk => own_at h hk
theorem OwnL.drewN (h : OwnL g e size w base v l) (m : Nat) : OwnL g e size (w.drewN m) base v l := h
theorem OwnL.nil (g : α → List Value) (e : TypeId) (size : Nat) (w : World) (base : Nat) : OwnL g e size w base (.slice none 0 0) [] := World.ownsRow_nil w base e size
theorem OwnL.new (g : α → List Value) (e : TypeId) {size : Nat} (w : World) : OwnL g e size (w.alloc (.cells #[] e)) w.heap.size (.slice (some ⟨w.heap.size, 0, none⟩) 0 0) [] := World.ownsRow_lit w #[] 0 (Nat.le_refl _) (by decide) (by simp)
theorem OwnI.nil (w : World) (base : Nat) : OwnI w base (.slice none 0 0) [] := World.ownsRow_nil w base _ 1
theorem OwnI.drewN {w : World} {base : Nat} {v : Value} {l : List Int} (h : OwnI w base v l) (m : Nat) : OwnI (w.drewN m) base v l := h
variable {ops : Array Oper} {rest : List Oper} {o : Oper} {a : Act} {Q : Exit → Act → World → Prop}
theorem wpList_app1L (T : Elt t e size z) (E : Enc g size) (u : α) (cs : Array Value) (hcs : cs.toList = g u) (hown : OwnL g e size w base v l) (hn : l.length ≤ 2000000) (hbase : base ≤ w.heap.size)
    (hgd : o.guard = none) (s x : Operand) (ho : o.op = .call { callee := .builtin .append, args := #[s, x], argTypes := #[t, t] }) (hs : a.eval s = v) (hx : a.eval x = .slice (some ⟨w.heap.size, 0, none⟩) 1 1)
    (h : ∀ v' w', OwnL g e size w' base v' (l ++ [u]) → w.grownBy w' v.ownBlock → wpList Try.prog ops Q rest (a.put o.dst v') w') : wpList Try.prog ops Q (o :: rest) a (w.alloc (.cells cs e)) := by
  refine wpList_app1 T cs hown (by have := E.len u; rw [← hcs] at this; simpa using this) (by rw [hcs]; exact E.one u) hn hbase hgd s x ho hs hx fun v' w' h1 h2 => h v' w' ?_ h2
  unfold OwnL
  rw [List.length_append, List.flatMap_append, List.flatMap_singleton, ← hcs]
  exact h1
end
/-! ### two rows -/
/-- Rows of two types lie in two blocks. -/
theorem own_ne {w : World} {b1 b2 : Nat} {e1 e2 : TypeId} {s1 s2 n1 n2 : Nat} {v1 v2 : Value} {xs1 xs2 : List Value} (h1 : w.ownsRow b1 e1 s1 v1 n1 xs1) (h2 : w.ownsRow b2 e2 s2 v2 n2 xs2) (he : e1 ≠ e2) : v1.ownBlock = none ∨ v1.ownBlock ≠ v2.ownBlock := by
  rcases h1.2 with ⟨rfl, _⟩ | ⟨g, cap, cur, rfl, _, hg, _⟩
  · exact .inl rfl
  · refine .inr fun e => ?_
    rcases h2.2 with ⟨rfl, _⟩ | ⟨g', cap', cur', rfl, _, hg', _⟩
    · simp [Value.ownBlock] at e
    · simp [Value.ownBlock] at e
      subst e
      rw [hg] at hg'
      simp at hg'
      exact he hg'.2
theorem OwnI.ints' {w : World} {base : Nat} {x : Option Addr} {n c : Nat} {l : List Int} (h : OwnI w base (.slice x n c) l) : Ints w w.heap.size x n c l := by
  obtain ⟨x', n', c', e, hi⟩ := h.ints
  simp only [Value.slice.injEq] at e
  obtain ⟨rfl, rfl, rfl⟩ := e
  exact hi
theorem OwnL.lst' {α : Type} {g : α → List Value} {e : TypeId} {size : Nat} {w : World} {base : Nat} {x : Option Addr} {n c : Nat} {l : List α} (h : OwnL g e size w base (.slice x n c) l) : Lst g w w.heap.size x n c l := by
  obtain ⟨x', n', c', e, hi⟩ := h.lst
  simp only [Value.slice.injEq] at e
  obtain ⟨rfl, rfl, rfl⟩ := e
  exact hi
/-! ### texts -/
def strG (s : ByteArray) : List Value := [.string s]
theorem encStr : Enc strG 1 := ⟨fun _ => rfl, fun s u hu => by simp only [strG, List.mem_singleton] at hu; subst hu; rfl, by decide⟩
theorem strG_map (l : List ByteArray) : l.flatMap strG = l.map Value.string := by induction l with | nil => rfl | cons a l ih => rw [List.flatMap_cons, ih]; rfl
abbrev Strs (w : World) (B : Nat) (x : Option Addr) (n cap : Nat) (l : List ByteArray) : Prop := Lst strG w B x n cap l
abbrev OwnS (w : World) (base : Nat) (v : Value) (l : List ByteArray) : Prop := OwnL strG 9 1 w base v l
theorem Try.infoStr : (Try.prog.info? 9).map (fun i => (i.zero, i.size, i.bytes)) = some (some (.string ByteArray.empty), 1, 16) := by kernel_rfl
theorem eltStr : Elt 29 9 1 (.string ByteArray.empty) := elt_of Try.underlying29 Try.infoStr (by decide) rfl (by decide)
/-- The text at a place. -/
def nthS (l : List ByteArray) (k : Nat) : ByteArray := l.getD k ByteArray.empty
theorem nthS_get {l : List ByteArray} {k : Nat} (h : k < l.length) : nthS l k = l[k] := by unfold nthS; rw [List.getD_eq_getElem?_getD, List.getElem?_eq_getElem h]; rfl
theorem nthS_some {l : List ByteArray} {k : Nat} (h : k < l.length) : l[k]? = some (nthS l k) := by rw [nthS_get h, List.getElem?_eq_getElem h]
theorem Lst.atS {w : World} {B : Nat} {x : Option Addr} {n cap : Nat} {l : List ByteArray} (h : Strs w B x n cap l) {k : Nat} (hk : k < n) :
    ∃ b off, x = some ⟨b, off, none⟩ ∧ b < B ∧ w.cell? ⟨b, off + k, none⟩ = some (.string (nthS l k)) := by
  have := Lst.at encStr h (k := k) (j := 0) (v := .string (nthS l k)) ByteArray.empty hk (by decide) rfl
  rwa [Nat.mul_one, Nat.add_zero] at this
theorem take_snocS {l : List ByteArray} {k : Nat} (h : k < l.length) : l.take (k + 1) = l.take k ++ [nthS l k] := by
  rw [List.take_succ_eq_append_getElem h, nthS_get h]
theorem zerosS (n : Nat) : (madeCells (Value.string ByteArray.empty).cells (n * 1)).toList = (List.replicate n ByteArray.empty).map Value.string := by
  rw [Nat.mul_one]; show (madeCells #[.string ByteArray.empty] n).toList = _; rw [toList_madeCells_one, List.map_replicate]
theorem own_mkS (w : World) (n : Nat) (hn : n ≤ 2000000) {base : Nat} (hb : base ≤ w.heap.size) :
    (w.alloc (.cells (madeCells #[.string ByteArray.empty] n) 9)).ownsRow base 9 1 (.slice (some ⟨w.heap.size, 0, none⟩) n n) n ((List.replicate n ByteArray.empty).map Value.string) := by
  have h := own_mk eltStr w n hn hb
  rw [zerosS, Nat.mul_one] at h
  exact h
/-- A new row of texts is handed back. -/
def NewS (l : List ByteArray) (w : World) (e : Ending) (w' : World) : Prop := ∃ v, e = .returned v ∧ OwnS w' w.heap.size v l ∧ Below w.heap.size w w'
end Go.Proofs.Ytefcmpbjfcpdeaa
