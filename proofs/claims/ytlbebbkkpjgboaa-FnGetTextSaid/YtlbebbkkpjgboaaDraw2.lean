/-
  The draw of texts.
-/
import Derived.Test.YtlbebbkkpjgboaaDraw1
import Derived.Deep.RegionWith
namespace Go.Proofs.Ytlbebbkkpjgboaa
open Go.RowKit
set_option linter.unusedVariables false
theorem run_make61 (w : World) : (Instr.makeSlice 22 (.int .i64 61) (.int .i64 61)).run Try.prog w = .ok (.slice (some ⟨w.heap.size, 0, none⟩) 61 61) (w.alloc (.cells (Array.replicate 61 (.int .u8 0)) 5)) := by kernel_rfl
theorem grownBy_drew' {a b : World} {r : Option Nat} (h : a.grownBy b r) : a.grownBy b.drew r := ⟨h.os, h.tape, h.output, h.size, h.block⟩
theorem grownBy_alloc' {a b : World} {r : Option Nat} (h : a.grownBy b r) (o : Obj) : a.grownBy (b.alloc o) r := grownBy_trans h (World.grownBy_alloc _ _ _)
def zeros61 : ByteArray := ⟨Array.replicate 61 0⟩
def texts1 : List ByteArray := [⟨#[10]⟩, zeros61, ⟨#[97, 127]⟩]
/-- Block b holds 61 zero bytes. -/
def HasZ (w : World) (b : Nat) : Prop := w.heap[b]? = some (.cells (Array.replicate 61 (.int .u8 0)) 5 (0, 0))
theorem run_zeros (w : World) (b : Nat) (h : HasZ w b) : (convert 22 9 (.slice (some ⟨b, 0, none⟩) 61 61)).run Try.prog w = .ok (.string zeros61) w := by
  rw [run_convert_bytes_string w 22 9 5 _ _ _ Try.underlying22 Try.underlying5 Try.underlying9]
  rw [run_bytesToString w ⟨b, 0, none⟩ 61 61 (List.replicate 61 0) ?_]
  · congr 2
  · rw [run_loadCells w ⟨b, 0, none⟩ 61 (fun _ => .int .u8 0) ?_]
    · rfl
    · intro j hj
      have ha : (⟨b, 0, none⟩ : Addr).add j = ⟨b, j, none⟩ := by unfold Addr.add; split <;> simp_all
      rw [ha]
      unfold World.cell?
      rw [show w.heap[(⟨b, j, none⟩ : Addr).block]? = _ from h]
      simp [hj]
theorem hasZ_new (w : World) : HasZ (w.alloc (.cells (Array.replicate 61 (.int .u8 0)) 5)).drew w.heap.size := heap_alloc_new w _
theorem HasZ.keep {w w' : World} {b r : Nat} (h : HasZ w b) (hg : w.grownBy w' (some r)) (hne : b ≠ r) : HasZ w' b :=
  (hg.block b (Array.getElem?_eq_some_iff.1 h).1 (by simp; omega)).trans h
theorem hasZ_new' (w : World) : HasZ (w.alloc (.cells (Array.replicate 61 (.int .u8 0)) 5)) w.heap.size := heap_alloc_new w _
theorem texts1_at {j : Nat} (hj : j < 3) : #[Value.string ⟨#[10]⟩, .string zeros61, .string ⟨#[97, 127]⟩][j]? = some (.string (texts1.getD j ByteArray.empty)) := by
  obtain rfl | rfl | rfl : j = 0 ∨ j = 1 ∨ j = 2 := by omega
  all_goals rfl
theorem cellL {w1 w2 : World} {r : Nat} {o : Obj} (hg : ((w1.alloc o).alloc (.cells #[.string ⟨#[10]⟩, .string zeros61, .string ⟨#[97, 127]⟩] 9)).drew.grownBy w2 (some r)) (hr : w1.heap.size + 1 ≠ r) {j : Nat} (hj : j < 3) :
    w2.cell? ⟨w1.heap.size + 1, j, none⟩ = some (.string (texts1.getD j ByteArray.empty)) :=
    hg.cell (a := ⟨w1.heap.size + 1, j, none⟩) (by have := cell_new (w1.alloc o) _ 9 j _ (texts1_at hj); simpa using this) (by simp; omega)
theorem cellL1 (w : World) {j : Nat} (hj : j < 3) : (w.alloc (.cells #[.string ⟨#[10]⟩, .string zeros61, .string ⟨#[97, 127]⟩] 9)).cell? ⟨w.heap.size, j, none⟩ = some (.string (texts1.getD j ByteArray.empty)) := cell_new w _ 9 j _ (texts1_at hj)
theorem cellL2 (w : World) (o : Obj) {j : Nat} (hj : j < 3) : ((w.alloc o).alloc (.cells #[.string ⟨#[10]⟩, .string zeros61, .string ⟨#[97, 127]⟩] 9)).cell? ⟨w.heap.size + 1, j, none⟩ = some (.string (texts1.getD j ByteArray.empty)) := by
  have := cellL1 (w.alloc o) hj; simpa using this
/-- Whatever blocks were made ahead of the pick. -/
theorem afterW {w w1 W w2 : World} {r : Nat} (h : w.grownBy w1 (some r)) (hg : W.grownBy w2 (some r)) (hW : w1.grownBy W (some r) := by (repeat (first | exact grownBy_refl _ _ | apply grownBy_drew' | apply grownBy_alloc'))) : w.grownBy w2 (some r) :=
  grownBy_trans h (grownBy_trans hW hg)
def texts2 : List ByteArray := [⟨#[]⟩, ⟨#[97]⟩, ⟨#[104, 101, 108, 108, 111, 32, 119, 111, 114, 108, 100]⟩, ⟨#[102, 104, 105]⟩, ⟨#[100]⟩, ⟨#[114, 101, 100, 32, 103, 114, 101, 101, 110, 32, 114, 101, 100]⟩, ⟨#[100, 97, 61, 49, 54, 50, 59]⟩,
  ⟨#[48, 49, 50, 51, 52, 53, 54, 55, 56, 57, 48, 49, 50, 51, 52, 53, 54, 55, 56, 57, 48, 49, 50, 51, 52, 53, 54, 55, 56, 57, 48, 49, 50, 51, 52, 53, 54, 55, 56, 57, 48, 49, 50, 51, 52, 53, 54, 55, 56, 57, 48, 49, 50, 51, 52, 53, 54, 55, 56, 57]⟩]
theorem rd_drew {B r c : Nat} {w : World} (h : Rd B w r c) : Rd B w.drew r c := h.keep (fun _ _ => rfl) rfl
theorem textFacts : ∀ s ∈ texts1 ++ texts2, s.size ≤ 61 ∧ (s ++ ⟨#[10]⟩).size ≤ 62 ∧ (s.extract 0 (s.size / 2)).size ≤ 61 ∧ textB (s ++ ⟨#[10]⟩) = false ∧ (textB s = true → textB (s.extract 0 (s.size / 2)) = true) := by decide +kernel
end Go.Proofs.Ytlbebbkkpjgboaa
