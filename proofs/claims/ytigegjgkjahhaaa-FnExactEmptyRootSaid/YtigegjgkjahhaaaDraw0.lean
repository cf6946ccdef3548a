/-
  The reader of drawn codes: what is known of it, and the contracts of its opening and of its picks.
-/
import Derived.Test.YtigegjgkjahhaaaWords
import Derived.Test.YtigegjgkjahhaaaMem
import Derived.WalkSpells
import Derived.Deep.QuietTactic
import Derived.BigQuiet
import Derived.Laws.Bits64
import Derived.Deep.RegionWith
namespace Go.Proofs.Ytigegjgkjahhaaa
open Go.RowKit
set_option linter.unusedVariables false
/-- The bytes of a slice that came in can be read. -/
def Bytes (B : Nat) (w : World) (x : Option Addr) (n : Nat) : Prop :=
  ∀ i, i < n → ∃ b off z, x = some ⟨b, off, none⟩ ∧ b < B ∧ w.cell? ⟨b, off + i, none⟩ = some (.int .u8 z) ∧ 0 ≤ z ∧ z ≤ 255
theorem Bytes.keep {B : Nat} {w w' : World} {x : Option Addr} {n : Nat} (h : Bytes B w x n) (hk : ∀ k, k < B → w'.heap[k]? = w.heap[k]?) : Bytes B w' x n := by
  intro i hi
  obtain ⟨b, off, z, h1, h2, h3, h4⟩ := h i hi
  exact ⟨b, off, z, h1, h2, (World.cell?_of_block (w := w) (w' := w') (a := ⟨b, off + i, none⟩) (hk b h2)).trans h3, h4⟩
theorem grownBy_trans {a b c : World} {r : Option Nat} (h : a.grownBy b r) (k : b.grownBy c r) : a.grownBy c r :=
  ⟨k.os.trans h.os, k.tape.trans h.tape, k.output.trans h.output, Nat.le_trans h.size k.size, fun i hi hr => (k.block i (Nat.lt_of_lt_of_le hi h.size) hr).trans (h.block i hi hr)⟩
theorem grownBy_refl (a : World) (r : Option Nat) : a.grownBy a r := ⟨rfl, rfl, rfl, Nat.le_refl _, fun _ _ _ => rfl⟩
theorem below_grownBy {B r : Nat} {a b : World} (h : a.grownBy b (some r)) (hB : B ≤ a.heap.size) (hr : B ≤ r) : Below B a b :=
  ⟨h.os, h.tape, h.output, h.size, fun k hk => h.block k (by omega) (fun e => by simp at e; omega)⟩
theorem grownBy_drewN {a b : World} {r : Option Nat} (h : a.grownBy b r) (n : Nat) : a.grownBy (b.drewN n) r := ⟨h.os, h.tape, h.output, h.size, h.block⟩
theorem xor_nonneg (a b : Nat) (ha : a < 9223372036854775808) (hb : b < 9223372036854775808) : 0 ≤ bits .xor .i64 (a : Int) (b : Int) := by
  have hx : a ^^^ b < 2 ^ 63 := Nat.xor_lt_two_pow (by omega) (by omega)
  have h1 : (BitVec.ofInt 64 (a : Int)).toNat = a := by
    rw [BitVec.ofInt_natCast, BitVec.toNat_ofNat]; exact Nat.mod_eq_of_lt (by omega)
  have h2 : (BitVec.ofInt 64 (b : Int)).toNat = b := by
    rw [BitVec.ofInt_natCast, BitVec.toNat_ofNat]; exact Nat.mod_eq_of_lt (by omega)
  show 0 ≤ IntKind.i64.wrap ((BitVec.ofInt 64 (a : Int) ^^^ BitVec.ofInt 64 (b : Int)).toNat : Int)
  rw [BitVec.toNat_xor, h1, h2, IntKind.wrap_i64]
  omega
theorem two_cells {w : World} {r : Nat} {u v : Value} {t : TypeId} (h : w.heap[r]? = some (.cells #[u, v] t (0, 0))) :
    w.cell? ⟨r, 0, none⟩ = some u ∧ w.cell? ⟨r, 1, none⟩ = some v ∧ w.frozen? ⟨r, 1, none⟩ = false := by
  refine ⟨?_, ?_, ?_⟩ <;> simp [World.cell?, World.frozen?, h]
theorem mix_bd (X n : Int) (h : 0 ≤ X) (h1 : X ≤ 1000000000000) (hn : 1 ≤ n) : 0 ≤ bits .xor .i64 X (X / 64) ∧ 0 ≤ (bits .xor .i64 X (X / 64)) % n ∧ (bits .xor .i64 X (X / 64)) % n < n := by
  have h2 := xor_nonneg X.toNat (X.toNat / 64) (by omega) (by omega)
  have e1 : (X.toNat : Int) = X := by omega
  have e2 : ((X.toNat / 64 : Nat) : Int) = X / 64 := by omega
  rw [e1, e2] at h2
  exact ⟨h2, Int.emod_nonneg _ (by omega), Int.emod_lt_of_pos _ (by omega)⟩
end Go.Proofs.Ytigegjgkjahhaaa
/-
  Contracts of the draws of chapter 1.
-/
namespace Go.Proofs.Ytigegjgkjahhaaa
open Go.RowKit
set_option linter.unusedVariables false
theorem str_cell {w w2 : World} {r t : Nat} (ss : List ByteArray) (cs : Array Value) (hcs : cs = (ss.map Value.string).toArray) (hg : (w.alloc (.cells cs t)).grownBy w2 (some r)) (hr : r < w.heap.size) (j : Nat) (hj : j < ss.length) :
    w2.cell? ⟨w.heap.size, j, none⟩ = some (.string (ss.getD j ByteArray.empty)) := by
  refine hg.cell (a := ⟨w.heap.size, j, none⟩) ?_ (by simp; omega)
  subst hcs
  have e := heap_alloc_new w (Obj.cells (ss.map Value.string).toArray t)
  unfold World.cell?
  rw [e]
  simp [hj]
theorem cell_new (w : World) (cs : Array Value) (t j : Nat) (v : Value) (h : cs[j]? = some v) : (w.alloc (.cells cs t)).cell? ⟨w.heap.size, j, none⟩ = some v := by
  have e := heap_alloc_new w (Obj.cells cs t)
  unfold World.cell?
  rw [e]
  simpa using h
theorem cell_alloc (w : World) (o : Obj) {a : Addr} {v : Value} (h : w.cell? a = some v) : (w.alloc o).cell? a = some v :=
  (World.grownBy_alloc w o none).cell h (by simp)
def words1 : List ByteArray := [⟨#[]⟩, ⟨#[49, 97]⟩, ⟨#[65]⟩, ⟨#[97, 32, 98]⟩, ⟨#[97, 98, 99, 100, 101, 102, 103, 104, 105]⟩]
def words2 : List ByteArray := [⟨#[97]⟩, ⟨#[98]⟩, ⟨#[99]⟩, ⟨#[114, 101, 100]⟩, ⟨#[120, 49]⟩]
/-- A drawn text, at the law. -/
def StrOut (ss : List ByteArray) (w : World) (e : Ending) (w' : World) : Prop := ∃ s : ByteArray, e = .returned (.string s) ∧ s ∈ ss ∧ Below w.heap.size w w'
theorem mul_bd (a b : Nat) (ha : a < 256) (hb : b < 256) : (0 : Int) ≤ (a : Int) * (b : Int) ∧ (a : Int) * (b : Int) ≤ 65025 := by
  have h : a * b ≤ 255 * 255 := Nat.mul_le_mul (by omega) (by omega)
  have h2 : ((a * b : Nat) : Int) = (a : Int) * (b : Int) := Int.natCast_mul a b
  omega
/-- A drawn number. -/
def IntOut (lo hi : Int) (w : World) (e : Ending) (w' : World) : Prop := ∃ v : Int, e = .returned (.int .i64 v) ∧ lo ≤ v ∧ v ≤ hi ∧ Below w.heap.size w w'
/-- A drawn text of at most m bytes. -/
def LenOut (m : Nat) (w : World) (e : Ending) (w' : World) : Prop := ∃ s : ByteArray, e = .returned (.string s) ∧ s.size ≤ m ∧ Below w.heap.size w w'
theorem getD_size (ss : List ByteArray) (j m : Nat) (h : ∀ s ∈ ss, s.size ≤ m) : (ss.getD j ByteArray.empty).size ≤ m := by
  rw [List.getD_eq_getElem?_getD]
  cases hj : ss[j]? with
  | none => simp
  | some s => exact h s (List.mem_of_getElem? hj)
def hexes (s : ByteArray) : List ByteArray := [⟨#[]⟩, ⟨#[48, 48]⟩, ⟨#[65]⟩, ⟨#[103]⟩, ⟨#[102, 102, 102, 102, 102, 100]⟩, ⟨#[102, 102, 102, 102, 102, 102, 102]⟩, ⟨#[49, 48, 48, 48, 48, 48, 48]⟩, ⟨#[48]⟩ ++ s, s ++ ⟨#[32]⟩]
theorem hexes_size (s : ByteArray) (h : s.size ≤ 6) : ∀ t ∈ hexes s, t.size ≤ 60 := by
  intro t ht
  simp only [hexes, List.mem_cons, List.not_mem_nil, or_false] at ht
  have h1 : (ByteArray.mk #[48]).size = 1 := rfl
  have h2 : (ByteArray.mk #[32]).size = 1 := rfl
  rcases ht with rfl | rfl | rfl | rfl | rfl | rfl | rfl | rfl | rfl <;> first | decide | (rw [ByteArray.size_append]; omega)
end Go.Proofs.Ytigegjgkjahhaaa
/-
  The draw of texts.
-/
namespace Go.Proofs.Ytigegjgkjahhaaa
open Go.RowKit
set_option linter.unusedVariables false
theorem run_make61 (w : World) : (Instr.makeSlice 50 (.int .i64 61) (.int .i64 61)).run Try.prog w = .ok (.slice (some ⟨w.heap.size, 0, none⟩) 61 61) (w.alloc (.cells (Array.replicate 61 (.int .u8 0)) 5)) := by kernel_rfl
theorem grownBy_drew' {a b : World} {r : Option Nat} (h : a.grownBy b r) : a.grownBy b.drew r := ⟨h.os, h.tape, h.output, h.size, h.block⟩
theorem grownBy_alloc' {a b : World} {r : Option Nat} (h : a.grownBy b r) (o : Obj) : a.grownBy (b.alloc o) r := grownBy_trans h (World.grownBy_alloc _ _ _)
def zeros61 : ByteArray := ⟨Array.replicate 61 0⟩
def texts1 : List ByteArray := [⟨#[10]⟩, zeros61, ⟨#[97, 127]⟩]
/-- Block b holds 61 zero bytes. -/
def HasZ (w : World) (b : Nat) : Prop := w.heap[b]? = some (.cells (Array.replicate 61 (.int .u8 0)) 5 (0, 0))
theorem run_zeros (w : World) (b : Nat) (h : HasZ w b) : (convert 50 9 (.slice (some ⟨b, 0, none⟩) 61 61)).run Try.prog w = .ok (.string zeros61) w := by
  rw [run_convert_bytes_string w 50 9 5 _ _ _ Try.underlying50 Try.underlying5 Try.underlying9]
  rw [run_bytesToString w ⟨b, 0, none⟩ 61 61 (List.replicate 61 0) ?_]
  · congr 2
  · rw [run_loadCells w ⟨b, 0, none⟩ 61 (fun _ => .int .u8 0) ?_]
    · rfl
    · intro j hj
      have ha : (⟨b, 0, none⟩ : Addr).add j = ⟨b, j, none⟩ := by unfold Addr.add; split <;> simp_all
      rw [ha]
      unfold World.cell?
      rw [show w.heap[(⟨b, j, none⟩ : Addr).block]? = _ from h]
      simp [hj]
theorem hasZ_new (w : World) : HasZ (w.alloc (.cells (Array.replicate 61 (.int .u8 0)) 5)).drew w.heap.size := heap_alloc_new w _
theorem HasZ.keep {w w' : World} {b r : Nat} (h : HasZ w b) (hg : w.grownBy w' (some r)) (hne : b ≠ r) : HasZ w' b :=
  (hg.block b (Array.getElem?_eq_some_iff.1 h).1 (by simp; omega)).trans h
theorem hasZ_new' (w : World) : HasZ (w.alloc (.cells (Array.replicate 61 (.int .u8 0)) 5)) w.heap.size := heap_alloc_new w _
theorem texts1_at {j : Nat} (hj : j < 3) : #[Value.string ⟨#[10]⟩, .string zeros61, .string ⟨#[97, 127]⟩][j]? = some (.string (texts1.getD j ByteArray.empty)) := by
  obtain rfl | rfl | rfl : j = 0 ∨ j = 1 ∨ j = 2 := by omega
  all_goals rfl
theorem cellL {w1 w2 : World} {r : Nat} {o : Obj} (hg : ((w1.alloc o).alloc (.cells #[.string ⟨#[10]⟩, .string zeros61, .string ⟨#[97, 127]⟩] 9)).drew.grownBy w2 (some r)) (hr : w1.heap.size + 1 ≠ r) {j : Nat} (hj : j < 3) :
    w2.cell? ⟨w1.heap.size + 1, j, none⟩ = some (.string (texts1.getD j ByteArray.empty)) :=
    hg.cell (a := ⟨w1.heap.size + 1, j, none⟩) (by have := cell_new (w1.alloc o) _ 9 j _ (texts1_at hj); simpa using this) (by simp; omega)
theorem cellL1 (w : World) {j : Nat} (hj : j < 3) : (w.alloc (.cells #[.string ⟨#[10]⟩, .string zeros61, .string ⟨#[97, 127]⟩] 9)).cell? ⟨w.heap.size, j, none⟩ = some (.string (texts1.getD j ByteArray.empty)) := cell_new w _ 9 j _ (texts1_at hj)
theorem cellL2 (w : World) (o : Obj) {j : Nat} (hj : j < 3) : ((w.alloc o).alloc (.cells #[.string ⟨#[10]⟩, .string zeros61, .string ⟨#[97, 127]⟩] 9)).cell? ⟨w.heap.size + 1, j, none⟩ = some (.string (texts1.getD j ByteArray.empty)) := by
  have := cellL1 (w.alloc o) hj; simpa using this
/-- Whatever blocks were made ahead of the pick. -/
theorem afterW {w w1 W w2 : World} {r : Nat} (h : w.grownBy w1 (some r)) (hg : W.grownBy w2 (some r)) (hW : w1.grownBy W (some r) := by (repeat (first | exact grownBy_refl _ _ | apply grownBy_drew' | apply grownBy_alloc'))) : w.grownBy w2 (some r) :=
  grownBy_trans h (grownBy_trans hW hg)
def texts2 : List ByteArray := [⟨#[]⟩, ⟨#[97]⟩, ⟨#[104, 101, 108, 108, 111, 32, 119, 111, 114, 108, 100]⟩, ⟨#[102, 104, 105]⟩, ⟨#[100]⟩, ⟨#[114, 101, 100, 32, 103, 114, 101, 101, 110, 32, 114, 101, 100]⟩, ⟨#[100, 97, 61, 49, 54, 50, 59]⟩,
  ⟨#[48, 49, 50, 51, 52, 53, 54, 55, 56, 57, 48, 49, 50, 51, 52, 53, 54, 55, 56, 57, 48, 49, 50, 51, 52, 53, 54, 55, 56, 57, 48, 49, 50, 51, 52, 53, 54, 55, 56, 57, 48, 49, 50, 51, 52, 53, 54, 55, 56, 57, 48, 49, 50, 51, 52, 53, 54, 55, 56, 57]⟩]
theorem textFacts : ∀ s ∈ texts1 ++ texts2, s.size ≤ 61 ∧ (s ++ ⟨#[10]⟩).size ≤ 62 ∧ (s.extract 0 (s.size / 2)).size ≤ 61 ∧ textB (s ++ ⟨#[10]⟩) = false ∧ (textB s = true → textB (s.extract 0 (s.size / 2)) = true) := by decide +kernel
end Go.Proofs.Ytigegjgkjahhaaa
