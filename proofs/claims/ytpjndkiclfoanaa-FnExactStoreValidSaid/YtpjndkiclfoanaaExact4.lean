/-
  The walks of chapter 4's exact laws: StoreValid, GetText.
-/
import Derived.Test.YtpjndkiclfoanaaImpl4f
import Derived.Test.YtpjndkiclfoanaaArgsP
namespace Go.Proofs.Ytpjndkiclfoanaa
open Go.RowKit
set_option linter.unusedVariables false
theorem fnExactStoreValid_any (x : Option Addr) (n cap : Nat) (l : List Pc) (w : World) (h : Pcs w w.heap.size x n cap l) (hz : ∀ k, (nthP l k).2.size ≤ maxLen) : Calls Try.prog 7 #[.slice x n cap] w fun e w' => e = .returned (.bool true) ∧ Below w.heap.size w w' := by
  have HLEN := Lib.hid h.len
  have hmx := h.max
  have hle := h.le
  unfold maxLen at hmx
  by_cases hlong : (l.length + sumP l : Int) ≤ 1048576
  · obtain ⟨hr0, hr1, hl⟩ := leftP_yes hlong
    obtain ⟨r, hr⟩ : ∃ r, leftP l 1048576 = r := ⟨_, rfl⟩
    rw [hr] at hr0 hr1
    have hn : n ≤ 1048576 := by have := HLEN.out; omega
    go_enter Try.func7, Try.ntmps7
    go_wp2_with fail
    refine (szPieceS_any x n cap l 1048576 _ w h (Nat.le_refl _) hz (by omega) (by omega)).mono ?_
    rintro e w1 ⟨rfl, hb⟩
    rw [hr]
    have A1 := h.below hb (Nat.le_refl _)
    have HB1 := Lib.hid hb; clear hb
    go_wp2_with fail
    refine (toPieceS_any _ _ _ _ _ (A1.more HB1.out.size) hn).mono ?_
    rintro e w2 ⟨v, rfl, ho, hb⟩
    obtain ⟨y, m, c, rfl, hi⟩ := ho.lst
    have A2 := A1.below (hb.mono HB1.out.size) (Nat.le_refl _)
    have HB2 := Lib.hid (HB1.out.trans (hb.mono HB1.out.size)); clear hb
    go_wp2_with fail
    refine (specStoreValid_any _ _ _ _ _ _ hi hz).mono ?_
    rintro e w3 ⟨rfl, q3, rfl⟩
    have A3 := A2.drewN q3
    have HB3 := Lib.hid (below_drewN HB2.out q3)
    go_wp2_with fail
    refine (toPieceS_any _ _ _ _ _ (A3.more HB3.out.size) hn).mono ?_
    rintro e w4 ⟨v, rfl, ho4, hb⟩
    obtain ⟨y4, m4, c4, rfl, hi4⟩ := ho4.lst
    have A4 := A3.below (hb.mono HB3.out.size) (Nat.le_refl _)
    have HB4 := Lib.hid (HB3.out.trans (hb.mono HB3.out.size)); clear hb
    go_wp2_with fail
    refine (implStoreValid_any _ _ _ _ _ _ hi4 (Nat.le_refl _) hz).mono ?_
    rintro e w5 ⟨rfl, hb⟩
    have A5 := A4.below (hb.mono HB4.out.size) (Nat.le_refl _)
    have X5 := hi4.below hb (Nat.le_refl _)
    have HB5 := Lib.hid (HB4.out.trans (hb.mono HB4.out.size))
    have HS5 := Lib.hid hb.size; clear hb
    go_wp2_with fail
    refine (toPieceS_any _ _ _ _ _ (A5.more HB5.out.size) hn).mono ?_
    rintro e w6 ⟨v, rfl, ho6, hb⟩
    obtain ⟨y6, m6, c6, rfl, hi6⟩ := ho6.lst
    have X6 := X5.below (hb.mono HS5.out) (Nat.le_refl _)
    have HB6 := Lib.hid (HB5.out.trans (hb.mono HB5.out.size))
    have HS6 := Lib.hid (Nat.le_trans HS5.out hb.size); clear hb
    go_wp2_with fail
    refine (eqPieceS_any _ _ _ _ _ _ _ _ w6.heap.size _ (X6.more HS6.out) hi6 (Nat.le_refl _)).mono ?_
    rintro e w7 ⟨rfl, hb⟩
    have HB7 := Lib.hid (HB6.out.trans (hb.mono HB6.out.size)); clear hb
    go_wp2_with fail
    go_ret
    exact ⟨ret_bool (by simp), HB7.out⟩
  · have hr := leftP_no hlong
    go_enter Try.func7, Try.ntmps7
    go_wp2_with fail
    refine (szPieceS_any x n cap l 1048576 _ w h (Nat.le_refl _) hz (by omega) (by omega)).mono ?_
    rintro e w1 ⟨rfl, hb⟩
    rw [hr]
    have HB1 := Lib.hid hb; clear hb
    go_wp2_with fail
    go_ret
    exact ⟨rfl, HB1.out⟩
theorem fnExactGetText_any (x : Option Addr) (n cap : Nat) (l : List Pc) (p : Int) (w : World) (h : Pcs w w.heap.size x n cap l) (hz : ∀ k, (nthP l k).2.size ≤ maxLen) : Calls Try.prog 9 #[.slice x n cap, .int .i64 p] w fun e w' => e = .returned (.bool true) ∧ Below w.heap.size w w' := by
  have HLEN := Lib.hid h.len
  have hmx := h.max
  have hle := h.le
  unfold maxLen at hmx
  by_cases hlong : (l.length + sumP l : Int) ≤ 1048576
  · obtain ⟨hr0, hr1, hl⟩ := leftP_yes hlong
    obtain ⟨r, hr⟩ : ∃ r, leftP l 1048576 = r := ⟨_, rfl⟩
    rw [hr] at hr0 hr1
    have hn : n ≤ 1048576 := by have := HLEN.out; omega
    go_enter Try.func9, Try.ntmps9
    go_wp2_with fail
    refine (szPieceS_any x n cap l 1048576 _ w h (Nat.le_refl _) hz (by omega) (by omega)).mono ?_
    rintro e w1 ⟨rfl, hb⟩
    rw [hr]
    have A1 := h.below hb (Nat.le_refl _)
    have HB1 := Lib.hid hb; clear hb
    go_wp2_with fail
    refine (toPieceS_any _ _ _ _ _ (A1.more HB1.out.size) hn).mono ?_
    rintro e w2 ⟨v, rfl, ho, hb⟩
    obtain ⟨y, m, c, rfl, hi⟩ := ho.lst
    have A2 := A1.below (hb.mono HB1.out.size) (Nat.le_refl _)
    have HB2 := Lib.hid (HB1.out.trans (hb.mono HB1.out.size)); clear hb
    go_wp2_with fail
    refine (specGetText_any _ _ _ _ p _ _ hi hz).mono ?_
    rintro e w3 ⟨rfl, q3, rfl⟩
    have A3 := A2.drewN q3
    have HB3 := Lib.hid (below_drewN HB2.out q3)
    go_wp2_with fail
    refine (toPieceS_any _ _ _ _ _ (A3.more HB3.out.size) hn).mono ?_
    rintro e w4 ⟨v, rfl, ho4, hb⟩
    obtain ⟨y4, m4, c4, rfl, hi4⟩ := ho4.lst
    have A4 := A3.below (hb.mono HB3.out.size) (Nat.le_refl _)
    have HB4 := Lib.hid (HB3.out.trans (hb.mono HB3.out.size)); clear hb
    go_wp2_with fail
    refine (implGetText_any _ _ _ _ p _ _ hi4 (Nat.le_refl _) hz).mono ?_
    rintro e w5 ⟨rfl, hb⟩
    have A5 := A4.below (hb.mono HB4.out.size) (Nat.le_refl _)
    have X5 := hi4.below hb (Nat.le_refl _)
    have HB5 := Lib.hid (HB4.out.trans (hb.mono HB4.out.size))
    have HS5 := Lib.hid hb.size; clear hb
    go_wp2_with fail
    refine (toPieceS_any _ _ _ _ _ (A5.more HB5.out.size) hn).mono ?_
    rintro e w6 ⟨v, rfl, ho6, hb⟩
    obtain ⟨y6, m6, c6, rfl, hi6⟩ := ho6.lst
    have X6 := X5.below (hb.mono HS5.out) (Nat.le_refl _)
    have HB6 := Lib.hid (HB5.out.trans (hb.mono HB5.out.size))
    have HS6 := Lib.hid (Nat.le_trans HS5.out hb.size); clear hb
    go_wp2_with fail
    refine (eqPieceS_any _ _ _ _ _ _ _ _ w6.heap.size _ (X6.more HS6.out) hi6 (Nat.le_refl _)).mono ?_
    rintro e w7 ⟨rfl, hb⟩
    have HB7 := Lib.hid (HB6.out.trans (hb.mono HB6.out.size)); clear hb
    go_wp2_with fail
    go_ret
    exact ⟨ret_bool (by simp), HB7.out⟩
  · have hr := leftP_no hlong
    go_enter Try.func9, Try.ntmps9
    go_wp2_with fail
    refine (szPieceS_any x n cap l 1048576 _ w h (Nat.le_refl _) hz (by omega) (by omega)).mono ?_
    rintro e w1 ⟨rfl, hb⟩
    rw [hr]
    have HB1 := Lib.hid hb; clear hb
    go_wp2_with fail
    go_ret
    exact ⟨rfl, HB1.out⟩
end Go.Proofs.Ytpjndkiclfoanaa
