/-
  Chapter 2: prints. Plain functions and the contracts.
-/
import Derived.Test.YtminmakiahjfbaaMem
import Derived.Test.YtminmakiahjfbaaWords
import Derived.Test.YtminmakiahjfbaaDraw0
import Derived.Maps.AppendAt
namespace Go.Proofs.Ytminmakiahjfbaa
open Go.RowKit
set_option linter.unusedVariables false
def isPr (n : Int) : Bool := decide (0 ≤ n ∧ n ≤ 16777212)
def stepB (n : Int) (c : UInt8) : Int := (257 * n + (c.toNat : Int)) % 16777213
def sumB (l : List UInt8) : Int := l.foldl stepB 1
/-- The print of a text. -/
def printB (s : ByteArray) : Int := if textB s = true then sumB s.data.toList else -1
theorem isPr_yes {n : Int} (h : 0 ≤ n) (h' : n ≤ 16777212) : isPr n = true := by unfold isPr; simp [h, h']
theorem isPr_no {n : Int} (h : n < 0 ∨ 16777212 < n) : isPr n = false := by unfold isPr; simp; omega
/-! ### contracts -/
theorem isPrint_any (n : Int) (w : World) : Calls Try.prog 44 #[.int .i64 n] w fun e w' => e = .returned (.bool (isPr n)) ∧ w = w' := by
  by_cases h1 : 0 ≤ n
  · by_cases h2 : n ≤ 16777212
    · have HF := Lib.hid (isPr_yes h1 h2)
      go_enter Try.func44, Try.ntmps44
      go_wp2
      go_ret
      exact ⟨ret_bool HF.out.symm, rfl⟩
    · have HF := Lib.hid (isPr_no (n := n) (by omega))
      go_enter Try.func44, Try.ntmps44
      go_wp2
      go_ret
      exact ⟨ret_bool HF.out.symm, rfl⟩
  · have HF := Lib.hid (isPr_no (n := n) (by omega))
    go_enter Try.func44, Try.ntmps44
    go_wp2
    go_ret
    exact ⟨ret_bool HF.out.symm, rfl⟩
end Go.Proofs.Ytminmakiahjfbaa
/-
  Draws of chapter 2.
-/
namespace Go.Proofs.Ytminmakiahjfbaa
open Go.RowKit
set_option linter.unusedVariables false
/-- A drawn number, the reader behind it. -/
def IntR (lo hi : Int) (B r c : Nat) (w : World) (e : Ending) (w' : World) : Prop := ∃ v : Int, e = .returned (.int .i64 v) ∧ lo ≤ v ∧ v ≤ hi ∧ Rd B w' r c ∧ w.grownBy w' (some r)
theorem l20Print_any (B r c : Nat) (n : Int) (w : World) (h : Rd B w r c) (hc : c ≤ 100000) (hn : n ≤ 1000000) :
    Calls Try.prog 49 #[.pointer (some ⟨r, 0, none⟩), .int .i64 n] w (IntR (-1) 16777213 B r (c + 4) w) := by
  have H := Lib.hid h; clear h
  have hrB := H.out.le
  go_enter Try.func49, Try.ntmps49
  go_wp2_with fail
  refine (odd_any B r c _ _ H.out (by omega) hn).mono ?_
  rintro e w1 ⟨b, rfl, hb0, hb1, hr, hg⟩
  have HR := Lib.hid hr; have HG := Lib.hid hg; clear hr hg hb0 hb1
  cases b
  · go_wp2_with fail
    refine (pickN_any 100 B r (c + 1) _ _ w HR.out HG.out rfl (by decide) (by decide) (by omega)).mono ?_
    rintro e w2 ⟨k0, rfl, j0, hr, _, hg⟩
    have HR2 := Lib.hid hr; have HG2 := Lib.hid hg; clear hr hg
    go_wp2_with fail
    refine (pickN_any 256 B r (c + 2) _ _ w HR2.out HG2.out rfl (by decide) (by decide) (by omega)).mono ?_
    rintro e w3 ⟨k1, rfl, j1, hr, _, hg⟩
    have HR3 := Lib.hid hr; have HG3 := Lib.hid hg; clear hr hg
    have hsz := HR3.out.lt
    go_wp2_with fail
    refine (pickN_any 7 B r (c + 3) _ _ w (rd_alloc (rd_alloc HR3.out _) _) (grownBy_trans HG3.out (grownBy_trans (World.grownBy_alloc _ _ _) (World.grownBy_alloc _ _ _))) rfl (by decide) (by decide) (by omega)).mono ?_
    rintro e w5 ⟨k3, rfl, j3, hr, hg, hg1⟩
    have HR5 := Lib.hid hr; have HG5 := Lib.hid hg1
    have hA : ∀ j v, #[Value.int .i64 k0, .int .i64 ((k1 : Int) * 65000), .int .i64 16777212][j]? = some v → w5.cell? ⟨w3.heap.size, j, none⟩ = some v := fun j v hv =>
      hg.cell (a := ⟨w3.heap.size, j, none⟩) (cell_alloc _ _ (cell_new _ _ _ _ _ hv)) (by simp; omega)
    have hC : ∀ j v, #[Value.int .i64 0, .int .i64 0, .int .i64 0, .int .i64 1, .int .i64 1, .int .i64 1, .int .i64 2][j]? = some v → w5.cell? ⟨w3.heap.size + 1, j, none⟩ = some v := fun j v hv =>
      hg.cell (a := ⟨w3.heap.size + 1, j, none⟩) (by have := cell_new (w3.alloc (.cells #[Value.int .i64 k0, .int .i64 ((k1 : Int) * 65000), .int .i64 16777212] 3)) _ 3 j v hv; simpa using this) (by simp; omega)
    have a0 := hA 0 _ rfl
    have a1 := hA 1 _ rfl
    have a2 := hA 2 _ rfl
    have hk3 : k3 = 0 ∨ k3 = 1 ∨ k3 = 2 ∨ k3 = 3 ∨ k3 = 4 ∨ k3 = 5 ∨ k3 = 6 := by omega
    clear hA hr hg hg1
    rcases hk3 with rfl | rfl | rfl | rfl | rfl | rfl | rfl
    · have c0 := hC 0 _ rfl
      clear hC
      go_wp2
      go_ret
      exact ⟨_, rfl, by omega, by omega, HR5.out, HG5.out⟩
    · have c0 := hC 1 _ rfl
      clear hC
      go_wp2
      go_ret
      exact ⟨_, rfl, by omega, by omega, HR5.out, HG5.out⟩
    · have c0 := hC 2 _ rfl
      clear hC
      go_wp2
      go_ret
      exact ⟨_, rfl, by omega, by omega, HR5.out, HG5.out⟩
    · have c0 := hC 3 _ rfl
      clear hC
      go_wp2
      go_ret
      exact ⟨_, rfl, by omega, by omega, HR5.out, HG5.out⟩
    · have c0 := hC 4 _ rfl
      clear hC
      go_wp2
      go_ret
      exact ⟨_, rfl, by omega, by omega, HR5.out, HG5.out⟩
    · have c0 := hC 5 _ rfl
      clear hC
      go_wp2
      go_ret
      exact ⟨_, rfl, by omega, by omega, HR5.out, HG5.out⟩
    · have c0 := hC 6 _ rfl
      clear hC
      go_wp2
      go_ret
      exact ⟨_, rfl, by omega, by omega, HR5.out, HG5.out⟩
  · have hsz := HR.out.lt
    go_wp2_with fail
    refine (pickN_any 2 B r (c + 1) _ _ w (rd_alloc HR.out _) (grownBy_trans HG.out (World.grownBy_alloc _ _ _)) rfl (by decide) (by decide) (by omega)).mono ?_
    rintro e w2 ⟨k0, rfl, j0, hr, hg, hg1⟩
    have HR2 := Lib.hid (hr.more (show c + 1 + 1 ≤ c + 4 by omega)); have HG2 := Lib.hid hg1
    have hA : ∀ j v, #[Value.int .i64 (-1), .int .i64 16777213][j]? = some v → w2.cell? ⟨w1.heap.size, j, none⟩ = some v := fun j v hv =>
      hg.cell (a := ⟨w1.heap.size, j, none⟩) (cell_new _ _ _ _ _ hv) (by simp; omega)
    have hk0 : k0 = 0 ∨ k0 = 1 := by omega
    clear hr hg hg1
    rcases hk0 with rfl | rfl
    · have c0 := hA 0 _ rfl
      clear hA
      go_wp2
      go_ret
      exact ⟨_, rfl, by omega, by omega, HR2.out, HG2.out⟩
    · have c0 := hA 1 _ rfl
      clear hA
      go_wp2
      go_ret
      exact ⟨_, rfl, by omega, by omega, HR2.out, HG2.out⟩
end Go.Proofs.Ytminmakiahjfbaa
