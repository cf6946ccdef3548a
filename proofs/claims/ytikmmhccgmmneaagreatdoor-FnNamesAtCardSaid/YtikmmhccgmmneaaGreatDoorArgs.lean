/-
  What an argument that came in reads as, for the laws' walks.
-/
import Derived.Test.YtikmmhccgmmneaaGreatDoorMem
import Derived.Test.YtikmmhccgmmneaaGreatDoorDraw0
import Derived.ProofKit
import Derived.OpenShut
import Derived.ChangeOld
import Derived.Deep.Strs
import Derived.Test.YtikmmhccgmmneaaGreatDoorHelp
import Derived.Deep.SlicePairs
namespace Go.Proofs.YtikmmhccgmmneaaGreatDoor
open Go.RowKit Go.ChangeShapes Go.WideShapes Go.ChangeAt
set_option linter.unusedVariables false
theorem nodes_bd {W : World} {a : Addr} {i : Nat} {v v0 : Value} (h : W.cell? (a.add i) = some v) (h0 : W.cell? (a.add 0) = some v0) : ∃ b off, a = ⟨b, off, none⟩ ∧ b < W.heap.size ∧ W.cell? ⟨b, off + i, none⟩ = some v := by
  obtain ⟨b, off, spot⟩ := a
  have hspot : spot = none := by simpa [Addr.add] using World.cell?_spot h0
  subst hspot
  rw [addr_add] at h
  exact ⟨b, off, rfl, World.block_lt_of_cell? W ⟨b, off + i, none⟩ h, h⟩
/-- A slice of texts that came in. -/
def ArgS (w : World) (a : Option Addr) (len cap : Nat) (l : List ByteArray) : Prop := Strs w w.heap.size a len cap l ∧ ∀ k, (nthS l k).size ≤ maxLen
theorem argS_of {H : Type} {enc : TypeId × Value → H} {W : World} {a : Option Addr} {len cap : Nat} {d : DataW H} {p : List MemPlace} (h : DataW.Trod enc Tryz.prog W 0 (fun _ => true) true 34 (.slice a len cap) d p) : ∃ l, ArgS W a len cap l := by
  obtain ⟨fuel, hf⟩ := h
  rcases Deep.open_strs Tryz.underlying34 Tryz.underlying9 (by kernel_rfl) hf with ⟨hcs, _⟩ | ⟨x, l, c, m, Sx, hcs, _, hl, hm, hmm, _, hc⟩
  · simp [Value.cells] at hcs
    obtain ⟨rfl, rfl, rfl⟩ := hcs
    exact ⟨[], ⟨rfl, Nat.le_refl _, by unfold maxLen; omega, Rds.nil _ _ _⟩, fun k => by simp [nthS]⟩
  · simp [Value.cells] at hcs
    obtain ⟨rfl, rfl, rfl⟩ := hcs
    simp at hmm
    subst hmm
    refine ⟨(List.range len).map Sx, ⟨by simp, hl, hm, fun j u hu => ?_⟩, fun k => ?_⟩
    · rw [strG_map, List.map_map, List.getElem?_map] at hu
      obtain ⟨i, hi, rfl⟩ := Option.map_eq_some_iff.1 hu
      obtain ⟨hj, hi⟩ := List.getElem?_eq_some_iff.1 hi
      simp at hi hj
      subst hi
      obtain ⟨b, off, rfl, h1, h2⟩ := nodes_bd (hc j (by omega)).1 (hc 0 (by omega)).1
      exact ⟨b, off, rfl, h1, h2⟩
    · unfold nthS
      rw [List.getD_eq_getElem?_getD]
      cases hk : ((List.range len).map Sx)[k]? with
      | none => simp
      | some t =>
        obtain ⟨i, hi, rfl⟩ := List.mem_map.1 (List.mem_of_getElem? hk)
        have := List.mem_range.1 hi
        exact (hc i (by omega)).2
/-- A slice of numbers that came in. -/
def ArgI (w : World) (a : Option Addr) (len cap : Nat) (l : List Int) : Prop := Ints w w.heap.size a len cap l
theorem argI_of {H : Type} {enc : TypeId × Value → H} {W : World} {a : Option Addr} {len cap : Nat} {d : DataW H} {p : List MemPlace} (h : DataW.Trod enc Tryz.prog W 0 (fun _ => true) true 60 (.slice a len cap) d p) : ∃ l, ArgI W a len cap l := by
  obtain ⟨fuel, hf⟩ := h
  rcases open_ints Tryz.underlying60 Tryz.underlying3 (by kernel_rfl) hf with ⟨hcs, _⟩ | ⟨x, l, c, zs, hcs, _, hl, hm, hz, _, hcell, hwz⟩
  · simp [Value.cells] at hcs
    obtain ⟨rfl, rfl, rfl⟩ := hcs
    exact ⟨[], rfl, Nat.le_refl _, by unfold maxLen; omega, Rds.nil _ _ _⟩
  · simp [Value.cells] at hcs
    obtain ⟨rfl, rfl, rfl⟩ := hcs
    have hz' : zs.length = cap := by simpa using hz
    refine ⟨zs.take len, by rw [List.length_take]; omega, hl, hm, fun j u hu => ?_⟩
    have hj : j < len := by
      have := (List.getElem?_eq_some_iff.1 hu).1
      simp only [List.length_map, List.length_take] at this; omega
    obtain ⟨b, off, rfl, h1, h2⟩ := nodes_bd (hcell j (by omega)) (hcell 0 (by omega))
    rw [List.getElem?_map, List.getElem?_take, if_pos hj, List.getElem?_eq_getElem (by omega)] at hu
    simp only [Option.map_some, Option.some.injEq] at hu
    subst hu
    rw [List.getD_eq_getElem?_getD, List.getElem?_eq_getElem (by omega)] at h2
    exact ⟨b, off, rfl, h1, h2⟩
/-- A slice of bytes that came in. -/
def ArgB (w : World) (a : Option Addr) (len cap : Nat) (_ : List Int) : Prop := Bytes w.heap.size w a len ∧ len ≤ cap ∧ cap ≤ maxLen
theorem argB_of {H : Type} {enc : TypeId × Value → H} {W : World} {a : Option Addr} {len cap : Nat} {d : DataW H} {p : List MemPlace} (h : DataW.Trod enc Tryz.prog W 0 (fun _ => true) true 22 (.slice a len cap) d p) : ∃ l, ArgB W a len cap l := by
  obtain ⟨fuel, hf⟩ := h
  rcases open_ints Tryz.underlying22 Tryz.underlying5 (by kernel_rfl) hf with ⟨hcs, _⟩ | ⟨x, l, c, zs, hcs, _, hl, hm, hz, _, hcell, hwz⟩
  · simp [Value.cells] at hcs
    obtain ⟨rfl, rfl, rfl⟩ := hcs
    exact ⟨[], fun i hi => by omega, Nat.le_refl _, by unfold maxLen; omega⟩
  · simp [Value.cells] at hcs
    obtain ⟨rfl, rfl, rfl⟩ := hcs
    have hz' : zs.length = cap := by simpa using hz
    refine ⟨[], fun i hi => ?_, hl, hm⟩
    obtain ⟨b, off, rfl, h1, h2⟩ := nodes_bd (hcell i (by omega)) (hcell 0 (by omega))
    have hmem : zs.getD i 0 ∈ zs := by rw [List.getD_eq_getElem?_getD, List.getElem?_eq_getElem (by omega)]; simp
    have hw := hwz _ hmem
    have hb : 0 ≤ zs.getD i 0 ∧ zs.getD i 0 ≤ 255 := by simpa [Lit.wf, IntKind.min, IntKind.max, IntKind.signed, IntKind.bits] using hw
    exact ⟨b, off, _, rfl, h1, h2, hb.1, hb.2⟩
end Go.Proofs.YtikmmhccgmmneaaGreatDoor
/-
  Pieces in memory, and the contracts of the laws' helpers on lists of pieces.
-/
namespace Go.Proofs.YtikmmhccgmmneaaGreatDoor
open Go.RowKit
set_option linter.unusedVariables false
/-- A print and a text. -/
abbrev Pc := Int × ByteArray
def pcG (p : Pc) : List Value := [.int .i64 p.1, .string p.2]
theorem encPc : Enc pcG 2 := ⟨fun _ => rfl, fun p u hu => by
  simp only [pcG, List.mem_cons, List.not_mem_nil, or_false] at hu
  rcases hu with rfl | rfl <;> rfl, by decide⟩
def nthP (l : List Pc) (k : Nat) : Pc := l.getD k (0, ByteArray.empty)
theorem nthP_get {l : List Pc} {k : Nat} (h : k < l.length) : nthP l k = l[k] := by unfold nthP; rw [List.getD_eq_getElem?_getD, List.getElem?_eq_getElem h]; rfl
theorem take_snocP {l : List Pc} {k : Nat} (h : k < l.length) : l.take (k + 1) = l.take k ++ [nthP l k] := by
  rw [List.take_succ_eq_append_getElem h, nthP_get h]
abbrev Pcs (w : World) (B : Nat) (x : Option Addr) (n cap : Nat) (l : List Pc) : Prop := Lst pcG w B x n cap l
theorem Lst.atP {w : World} {B : Nat} {x : Option Addr} {n cap : Nat} {l : List Pc} (h : Pcs w B x n cap l) {k : Nat} (hk : k < n) :
    ∃ b off, x = some ⟨b, off, none⟩ ∧ b < B ∧ w.cell? ⟨b, off + k * 2, none⟩ = some (.int .i64 (nthP l k).1) ∧ w.cell? ⟨b, off + k * 2 + 1, none⟩ = some (.string (nthP l k).2) := by
  obtain ⟨b, off, rfl, hb, h0⟩ := Lst.at encPc h (k := k) (j := 0) (v := .int .i64 (nthP l k).1) (0, ByteArray.empty) hk (by decide) rfl
  obtain ⟨b', off', e, _, h1⟩ := Lst.at encPc h (k := k) (j := 1) (v := .string (nthP l k).2) (0, ByteArray.empty) hk (by decide) rfl
  simp only [Option.some.injEq, Addr.mk.injEq, and_true] at e
  obtain ⟨rfl, rfl⟩ := e
  exact ⟨b, off, rfl, hb, h0, h1⟩
def sumP (l : List Pc) : Nat := (l.map fun p => p.2.size).sum
theorem sumP_snoc (l : List Pc) (t : Pc) : sumP (l ++ [t]) = sumP l + t.2.size := by unfold sumP; simp
theorem sumP_split (l : List Pc) (k : Nat) : sumP l = sumP (l.take k) + sumP (l.drop k) := by
  have h : sumP l = sumP (l.take k ++ l.drop k) := by rw [List.take_append_drop]
  rw [h]; unfold sumP; rw [List.map_append, List.sum_append]
/-- What is left behind a list; -1 if it is too much. -/
def leftP (l : List Pc) (left : Int) : Int := if (l.length + sumP l : Int) ≤ left then left - l.length - sumP l else -1
/-! ### copies -/
abbrev OwnP (w : World) (base : Nat) (v : Value) (l : List Pc) : Prop := OwnL pcG 44 2 w base v l
theorem Tryz.infoPc : (Tryz.prog.info? 44).map (fun i => (i.zero, i.size, i.bytes)) = some (some (.agg #[.int .i64 0, .string ByteArray.empty]), 2, 24) := by kernel_rfl
theorem eltPc : Elt 23 44 2 (.agg #[.int .i64 0, .string ByteArray.empty]) := elt_of Tryz.underlying23 Tryz.infoPc (by decide) rfl (by decide)
/-- A new row of pieces is handed back. -/
def NewP (l : List Pc) (w : World) (e : Ending) (w' : World) : Prop := ∃ v, e = .returned v ∧ OwnP w' w.heap.size v l ∧ Below w.heap.size w w'
/-- Two lists of pieces are compared. -/
theorem take_eq_stepP {l l' : List Pc} {k : Nat} (h : k < l.length) (h' : k < l'.length) (he : l.take k = l'.take k) (hx : nthP l k = nthP l' k) : l.take (k + 1) = l'.take (k + 1) := by
  rw [take_snocP h, take_snocP h', he, hx]
theorem ne_atP {l l' : List Pc} {k : Nat} (hx : nthP l k ≠ nthP l' k) : l ≠ l' := fun h => hx (by rw [h])
theorem ne_pc {p q : Pc} (h : p ≠ q) : p.1 ≠ q.1 ∨ (p.1 = q.1 ∧ p.2 ≠ q.2) := by
  by_cases h1 : p.1 = q.1
  · exact .inr ⟨h1, fun h2 => h (Prod.ext h1 h2)⟩
  · exact .inl h1
end Go.Proofs.YtikmmhccgmmneaaGreatDoor
/-
  Contracts of the laws' helpers on lists of pieces: copies and marks.
-/
namespace Go.Proofs.YtikmmhccgmmneaaGreatDoor
open Go.RowKit
set_option linter.unusedVariables false
theorem grownBy_then {a b c : World} {r : Option Nat} (h : a.grownBy b r) (k : b.grownBy c r) : a.grownBy c r :=
  ⟨k.os.trans h.os, k.tape.trans h.tape, k.output.trans h.output, Nat.le_trans h.size k.size, fun i hi hr => (k.block i (Nat.lt_of_lt_of_le hi h.size) hr).trans (h.block i hi hr)⟩
theorem set2 {α : Type} {A R : List α} {m : Nat} (x y : α) (hA : A.length = m) (hR : 2 ≤ R.length) : ((A ++ R).set m x).set (m + 1) y = A ++ [x, y] ++ R.drop 2 := by
  subst hA
  match R, hR with
  | a :: b :: R, _ => simp
theorem flat_drop {α : Type} {g : α → List Value} {size : Nat} (E : Enc g size) : ∀ (l : List α) (k : Nat), (l.flatMap g).drop (k * size) = (l.drop k).flatMap g
  | l, 0 => by simp
  | [], k + 1 => by simp
  | a :: l, k + 1 => by
    rw [List.flatMap_cons, List.drop_append, E.len, List.drop_of_length_le (by rw [E.len, Nat.succ_mul]; omega), List.nil_append, show (k + 1) * size - size = k * size by rw [Nat.succ_mul]; omega, flat_drop E l k]
    rfl
def marksP (k : Int) (n : Nat) : List Pc := (List.range n).map fun i : Nat => (k + 2 * (i : Int), markB (k + 2 * (i : Int) + 1))
theorem marksP_len (k : Int) (n : Nat) : (marksP k n).length = n := by unfold marksP; simp
theorem marksP_at {k : Int} {n i : Nat} (h : i < n) : nthP (marksP k n) i = (k + 2 * i, markB (k + 2 * i + 1)) := by unfold nthP marksP; rw [List.getD_eq_getElem?_getD, List.getElem?_map, List.getElem?_range h]; rfl
theorem marksP_snoc (k : Int) (n : Nat) : marksP k (n + 1) = marksP k n ++ [(k + 2 * (n : Int), markB (k + 2 * (n : Int) + 1))] := by unfold marksP; rw [List.range_succ, List.map_append]; rfl
theorem marks_step {k : Int} {l : List Pc} {j : Nat} (h : j < l.length) :
    (((marksP k j).flatMap pcG ++ (l.drop j).flatMap pcG).set (j * 2) (.int .i64 (k + 2 * j))).set (j * 2 + 1) (.string (markB (k + 2 * j + 1))) = (marksP k (j + 1)).flatMap pcG ++ (l.drop (j + 1)).flatMap pcG := by
  rw [set2 _ _ (by rw [encPc.length, marksP_len]) (by rw [encPc.length, List.length_drop]; omega), marksP_snoc, List.flatMap_append]
  have e : ((l.drop j).flatMap pcG).drop 2 = (l.drop (j + 1)).flatMap pcG := by
    have := flat_drop encPc (l.drop j) 1
    rw [Nat.one_mul, List.drop_drop] at this
    rw [this]
  rw [e]; rfl
theorem run_mkPc (n : Nat) (hn : n ≤ 2000000) (w : World) : (Instr.makeSlice 23 (.int .i64 (n : Int)) (.int .i64 (n : Int))).run Tryz.prog w = .ok (.slice (some ⟨w.heap.size, 0, none⟩) n n) (w.alloc (.cells (madeCells #[.int .i64 0, .string ByteArray.empty] (n * 2)) 44)) := run_mk eltPc n hn w
theorem own_mkPc (w : World) (n : Nat) (hn : n ≤ 2000000) {base : Nat} (hb : base ≤ w.heap.size) :
    (w.alloc (.cells (madeCells #[.int .i64 0, .string ByteArray.empty] (n * 2)) 44)).ownsRow base 44 2 (.slice (some ⟨w.heap.size, 0, none⟩) n n) n (madeCells #[.int .i64 0, .string ByteArray.empty] (n * 2)).toList := own_mk eltPc w n hn hb
end Go.Proofs.YtikmmhccgmmneaaGreatDoor
/-
  A slice of pieces that came in.
-/
namespace Go.Proofs.YtikmmhccgmmneaaGreatDoor
open Go.RowKit Go.ChangeShapes Go.WideShapes Go.ChangeAt
set_option linter.unusedVariables false
def ArgP (w : World) (a : Option Addr) (len cap : Nat) (l : List Pc) : Prop := Pcs w w.heap.size a len cap l ∧ ∀ k, (nthP l k).2.size ≤ maxLen
theorem pcG_nth {f : Nat → Pc} {n j : Nat} {u : Value} (h : (((List.range n).map f).flatMap pcG)[j]? = some u) : j / 2 < n ∧ (pcG (f (j / 2)))[j % 2]? = some u := by
  have hl := (List.getElem?_eq_some_iff.1 h).1
  rw [encPc.length, List.length_map, List.length_range] at hl
  have hj : j = j / 2 * 2 + j % 2 := by omega
  have hlt : j / 2 < n := by omega
  rw [hj, encPc.get _ _ _ (0, ByteArray.empty) (by simpa using hlt) (by omega)] at h
  refine ⟨hlt, ?_⟩
  rw [List.getD_eq_getElem?_getD, List.getElem?_map, List.getElem?_range hlt] at h
  exact h
/-! ### for the exact laws -/
theorem leftP_no {l : List Pc} {left : Int} (h : ¬ (l.length + sumP l : Int) ≤ left) : leftP l left = -1 := by unfold leftP; rw [if_neg h]
theorem leftP_yes {l : List Pc} {left : Int} (h : (l.length + sumP l : Int) ≤ left) : 0 ≤ leftP l left ∧ leftP l left ≤ left ∧ (l.length : Int) ≤ left := by unfold leftP; rw [if_pos h]; omega
theorem OwnL.keptLt {α : Type} {g : α → List Value} {e : TypeId} {size : Nat} {w w' : World} {base : Nat} {v : Value} {l : List α} {r : Option Nat} (h : OwnL g e size w base v l) (hg : w.grownBy w' r) (hr : ∀ k, r = some k → k < base) : OwnL g e size w' base v l :=
  World.ownsRow.kept h hg (by
    cases hv : v.ownBlock with
    | none => exact .inl rfl
    | some k => exact .inr fun e => by have h1 := own_at h hv; have h2 := hr k e.symm; omega)
theorem OwnL.ltSize {α : Type} {g : α → List Value} {e : TypeId} {size : Nat} {w : World} {base : Nat} {v : Value} {l : List α} (h : OwnL g e size w base v l) {k : Nat} (hk : v.ownBlock = some k) : k < w.heap.size := (World.ownsRow.lt h k hk).2
end Go.Proofs.YtikmmhccgmmneaaGreatDoor
