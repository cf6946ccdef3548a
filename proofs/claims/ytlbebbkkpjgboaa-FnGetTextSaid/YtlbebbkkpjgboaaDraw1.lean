/-
  Contracts of the draws of chapter 1.
-/
import Derived.Test.YtlbebbkkpjgboaaDraw0
import Derived.Test.YtlbebbkkpjgboaaRead
namespace Go.Proofs.Ytlbebbkkpjgboaa
open Go.RowKit
set_option linter.unusedVariables false
theorem str_cell {w w2 : World} {r t : Nat} (ss : List ByteArray) (cs : Array Value) (hcs : cs = (ss.map Value.string).toArray) (hg : (w.alloc (.cells cs t)).grownBy w2 (some r)) (hr : r < w.heap.size) (j : Nat) (hj : j < ss.length) :
    w2.cell? ⟨w.heap.size, j, none⟩ = some (.string (ss.getD j ByteArray.empty)) := by
  refine hg.cell (a := ⟨w.heap.size, j, none⟩) ?_ (by simp; omega)
  subst hcs
  have e := heap_alloc_new w (Obj.cells (ss.map Value.string).toArray t)
  unfold World.cell?
  rw [e]
  simp [hj]
theorem cell_new (w : World) (cs : Array Value) (t j : Nat) (v : Value) (h : cs[j]? = some v) : (w.alloc (.cells cs t)).cell? ⟨w.heap.size, j, none⟩ = some v := by
  have e := heap_alloc_new w (Obj.cells cs t)
  unfold World.cell?
  rw [e]
  simpa using h
theorem cell_alloc (w : World) (o : Obj) {a : Addr} {v : Value} (h : w.cell? a = some v) : (w.alloc o).cell? a = some v :=
  (World.grownBy_alloc w o none).cell h (by simp)
def words1 : List ByteArray := [⟨#[]⟩, ⟨#[49, 97]⟩, ⟨#[65]⟩, ⟨#[97, 32, 98]⟩, ⟨#[97, 98, 99, 100, 101, 102, 103, 104, 105]⟩]
def words2 : List ByteArray := [⟨#[97]⟩, ⟨#[98]⟩, ⟨#[99]⟩, ⟨#[114, 101, 100]⟩, ⟨#[120, 49]⟩]
/-- A drawn text is one of a list. -/
def StrIn (ss : List ByteArray) (B r c : Nat) (w : World) (e : Ending) (w' : World) : Prop :=
  ∃ s : ByteArray, e = .returned (.string s) ∧ s ∈ ss ∧ Rd B w' r c ∧ w.grownBy w' (some r)
theorem strIn_get {ss ss' : List ByteArray} {B r c : Nat} {w w' : World} {j : Nat} (hj : j < ss.length) (hs : ∀ s ∈ ss, s ∈ ss') (h : Rd B w' r c) (hg : w.grownBy w' (some r)) :
    StrIn ss' B r c w (.returned (.string (ss.getD j ByteArray.empty))) w' := by
  refine ⟨_, rfl, hs _ ?_, h, hg⟩
  rw [List.getD_eq_getElem?_getD, List.getElem?_eq_getElem hj]; simp
theorem rd_alloc {B r c : Nat} {w : World} (h : Rd B w r c) (o : Obj) : Rd B (w.alloc o) r c := h.below ((Below.refl _ _).alloc (Nat.le_refl _) _)
/-- A pick among the texts of a slice that was just made. -/
def PickedStr (ss : List ByteArray) (B r c : Nat) (w : World) (e : Ending) (w2 : World) : Prop :=
  ∃ j : Nat, e = .returned (.int .i64 j) ∧ j < ss.length ∧ w2.cell? ⟨w.heap.size, j, none⟩ = some (.string (ss.getD j ByteArray.empty)) ∧ Rd B w2 r (c + 1) ∧ w.grownBy w2 (some r)
theorem pickStr_any (ss : List ByteArray) (B r c : Nat) (n : Int) (cs : Array Value) (w : World) (h : Rd B w r c) (hcs : cs = (ss.map Value.string).toArray) (hn : n = ss.length) (hl : 1 ≤ ss.length) (hl2 : ss.length ≤ 1000) (hc : c ≤ 1000000) :
    Calls Try.prog 32 #[.pointer (some ⟨r, 0, none⟩), .int .i64 n] (w.alloc (.cells cs 9)) (PickedStr ss B r c w) := by
  refine (pick_any B r c n _ (rd_alloc h _) hc (by omega)).mono ?_
  rintro e w2 ⟨k, rfl, ⟨hk0, hk1, hk2⟩, hr, hg⟩
  obtain ⟨j, rfl⟩ := Int.eq_ofNat_of_zero_le hk0
  have hj : j < ss.length := by have := hk1 (by omega); omega
  exact ⟨j, rfl, hj, str_cell ss cs hcs hg h.lt j hj, hr, grownBy_trans (World.grownBy_alloc _ _ _) hg⟩
/-- A drawn text, at the law. -/
def StrOut (ss : List ByteArray) (w : World) (e : Ending) (w' : World) : Prop := ∃ s : ByteArray, e = .returned (.string s) ∧ s ∈ ss ∧ Below w.heap.size w w'
theorem alive_any (w : World) : Calls Try.prog 13 #[] w fun e w' => e = .returned (.bool true) ∧ w = w' := by
  have e1 : wordB ⟨#[97, 49]⟩ = true := by decide +kernel
  have e2 : wordB ⟨#[49, 97]⟩ = false := by decide +kernel
  go_enter Try.func13, Try.ntmps13
  go_wp2_with (go_at_call 38; refine (wordValid_any _ _ (by decide)).mono ?_; rintro e w' ⟨rfl, rfl⟩)
  go_ret
  exact ⟨rfl, rfl⟩
/-- A number that 'pick' hands back, with what stays known of the reader. -/
theorem pickN_any (N : Nat) (B r c : Nat) (n : Int) (w w0 : World) (h : Rd B w r c) (hg : w0.grownBy w (some r)) (hn : n = N) (hl : 1 ≤ N) (hl2 : N ≤ 1000000) (hc : c ≤ 1000000) :
    Calls Try.prog 32 #[.pointer (some ⟨r, 0, none⟩), .int .i64 n] w fun e w2 => ∃ j : Nat, e = .returned (.int .i64 j) ∧ j < N ∧ Rd B w2 r (c + 1) ∧ w.grownBy w2 (some r) ∧ w0.grownBy w2 (some r) := by
  refine (pick_any B r c n _ h hc (by omega)).mono ?_
  rintro e w2 ⟨k, rfl, ⟨hk0, hk1, hk2⟩, hr, hg2⟩
  obtain ⟨j, rfl⟩ := Int.eq_ofNat_of_zero_le hk0
  exact ⟨j, rfl, by have := hk1 (by omega); omega, hr, hg2, grownBy_trans hg hg2⟩
theorem mul_bd (a b : Nat) (ha : a < 256) (hb : b < 256) : (0 : Int) ≤ (a : Int) * (b : Int) ∧ (a : Int) * (b : Int) ≤ 65025 := by
  have h : a * b ≤ 255 * 255 := Nat.mul_le_mul (by omega) (by omega)
  have h2 : ((a * b : Nat) : Int) = (a : Int) * (b : Int) := Int.natCast_mul a b
  omega
/-- A drawn number. -/
def IntOut (lo hi : Int) (w : World) (e : Ending) (w' : World) : Prop := ∃ v : Int, e = .returned (.int .i64 v) ∧ lo ≤ v ∧ v ≤ hi ∧ Below w.heap.size w w'
/-- A drawn text of at most m bytes. -/
def LenOut (m : Nat) (w : World) (e : Ending) (w' : World) : Prop := ∃ s : ByteArray, e = .returned (.string s) ∧ s.size ≤ m ∧ Below w.heap.size w w'
theorem getD_size (ss : List ByteArray) (j m : Nat) (h : ∀ s ∈ ss, s.size ≤ m) : (ss.getD j ByteArray.empty).size ≤ m := by
  rw [List.getD_eq_getElem?_getD]
  cases hj : ss[j]? with
  | none => simp
  | some s => exact h s (List.mem_of_getElem? hj)
def hexes (s : ByteArray) : List ByteArray := [⟨#[]⟩, ⟨#[48, 48]⟩, ⟨#[65]⟩, ⟨#[103]⟩, ⟨#[102, 102, 102, 102, 102, 100]⟩, ⟨#[102, 102, 102, 102, 102, 102, 102]⟩, ⟨#[49, 48, 48, 48, 48, 48, 48]⟩, ⟨#[48]⟩ ++ s, s ++ ⟨#[32]⟩]
theorem hexes_size (s : ByteArray) (h : s.size ≤ 6) : ∀ t ∈ hexes s, t.size ≤ 60 := by
  intro t ht
  simp only [hexes, List.mem_cons, List.not_mem_nil, or_false] at ht
  have h1 : (ByteArray.mk #[48]).size = 1 := rfl
  have h2 : (ByteArray.mk #[32]).size = 1 := rfl
  rcases ht with rfl | rfl | rfl | rfl | rfl | rfl | rfl | rfl | rfl <;> first | decide | (rw [ByteArray.size_append]; omega)
end Go.Proofs.Ytlbebbkkpjgboaa
