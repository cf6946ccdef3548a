/-
  The walks of chapter 11's exact laws.
-/
import Derived.Test.YtglajbmopiolhaaDoorImpl11
import Derived.Test.YtglajbmopiolhaaDoorExact9
namespace Go.Proofs.YtglajbmopiolhaaDoor
open Go.RowKit
set_option linter.unusedVariables false
set_option maxHeartbeats 1000000 in
theorem fnExactSameFiles_any (x0 : Option Addr) (n0 cap0 : Nat) (l0 : List Pc) (a1 : Int) (a2 : Int) (w : World) (h0 : Pcs w w.heap.size x0 n0 cap0 l0) (hz0 : ∀ k, (nthP l0 k).2.size ≤ maxLen) : Calls Tryd.prog 3 #[.slice x0 n0 cap0, .int .i64 a1, .int .i64 a2] w fun e w' => e = .returned (.bool true) ∧ Below w.heap.size w w' := by
  have HLEN0 := Lib.hid h0.len
  have hmx0 := h0.max
  have hle0 := h0.le
  unfold maxLen at hmx0
  by_cases hfit0 : (l0.length + sumP l0 : Int) ≤ 1048576
  rotate_left
  · have hr0 := leftP_no hfit0
    have B0 := Lib.hid (Below.refl w.heap.size w)
    go_enter Tryd.func3, Tryd.ntmps3
    go_wp2_with fail
    refine (szPieceS_any x0 n0 cap0 l0 1048576 w.heap.size _ (Lst.more (Lst.below h0 B0.out (Nat.le_refl _)) B0.out.size) (Nat.le_refl _) hz0 (by omega) (by omega)).mono ?_
    rintro e w1 ⟨rfl, hb⟩
    rw [hr0]
    have B0_1 := Lib.hid (B0.out.trans (hb.mono B0.out.size))
    clear hb
    go_wp2_with fail
    go_ret
    exact ⟨rfl, B0_1.out⟩
  obtain ⟨hra0, hrb0, hl0⟩ := leftP_yes hfit0
  obtain ⟨r0, hr0⟩ : ∃ r, leftP l0 1048576 = r := ⟨_, rfl⟩
  rw [hr0] at hra0 hrb0
  have hn0 : n0 ≤ 1048576 := by have := HLEN0.out; omega
  have hzm0 := sumP_mil (show (l0.length + sumP l0 : Int) ≤ 1048576 by omega)
  have B0 := Lib.hid (Below.refl w.heap.size w)
  go_enter Tryd.func3, Tryd.ntmps3
  go_wp2_with fail
  refine (szPieceS_any x0 n0 cap0 l0 1048576 w.heap.size _ (Lst.more (Lst.below h0 B0.out (Nat.le_refl _)) B0.out.size) (Nat.le_refl _) hz0 (by omega) (by omega)).mono ?_
  rintro e w2 ⟨rfl, hb⟩
  rw [hr0]
  have B0_2 := Lib.hid (B0.out.trans (hb.mono B0.out.size))
  clear hb
  go_wp2_with fail
  refine (toPieceS_any _ _ _ _ _ (Lst.more (Lst.below h0 B0_2.out (Nat.le_refl _)) B0_2.out.size) hn0).mono ?_
  rintro e w3 ⟨v, rfl, ho, hb⟩
  obtain ⟨yT0, mT0, cT0, rfl, hi⟩ := ho.lst
  have OT0 := Lib.hid ho; have IT0 := Lib.hid hi; clear ho hi
  have B0_3 := Lib.hid (B0_2.out.trans (hb.mono B0_2.out.size))
  clear hb
  have BT0 := Lib.hid (Below.refl w3.heap.size w3)
  go_wp2_with fail
  refine (specSameFiles_any _ _ _ l0 a1 a2 _ _ (Lst.more (Lst.below IT0.out BT0.out (Nat.le_refl _)) BT0.out.size) (Nat.le_refl _) hzm0).mono ?_
  rintro e w4 ⟨rfl, hb⟩
  have B0_4 := Lib.hid (B0_3.out.trans (hb.mono B0_3.out.size))
  have BT0_4 := Lib.hid (BT0.out.trans (hb.mono BT0.out.size))
  clear hb
  go_wp2_with fail
  refine (toPieceS_any _ _ _ _ _ (Lst.more (Lst.below h0 B0_4.out (Nat.le_refl _)) B0_4.out.size) hn0).mono ?_
  rintro e w5 ⟨v, rfl, ho, hb⟩
  obtain ⟨yX0, mX0, cX0, rfl, hi⟩ := ho.lst
  have OX0 := Lib.hid ho; have IX0 := Lib.hid hi; clear ho hi
  have B0_5 := Lib.hid (B0_4.out.trans (hb.mono B0_4.out.size))
  clear hb
  have BX0 := Lib.hid (Below.refl w5.heap.size w5)
  go_wp2_with fail
  refine (implSameFiles_any _ _ _ l0 a1 a2 _ _ (Lst.more (Lst.below IX0.out BX0.out (Nat.le_refl _)) BX0.out.size) (Nat.le_refl _) hzm0).mono ?_
  rintro e w6 ⟨rfl, hb⟩
  have B0_6 := Lib.hid (B0_5.out.trans (hb.mono B0_5.out.size))
  have BX0_6 := Lib.hid (BX0.out.trans (hb.mono BX0.out.size))
  clear hb
  go_wp2_with fail
  refine (toPieceS_any _ _ _ _ _ (Lst.more (Lst.below h0 B0_6.out (Nat.le_refl _)) B0_6.out.size) hn0).mono ?_
  rintro e w7 ⟨v, rfl, ho, hb⟩
  obtain ⟨yZ0, mZ0, cZ0, rfl, hi⟩ := ho.lst
  have OZ0 := Lib.hid ho; have IZ0 := Lib.hid hi; clear ho hi
  have B0_7 := Lib.hid (B0_6.out.trans (hb.mono B0_6.out.size))
  have BX0_7 := Lib.hid (BX0_6.out.trans (hb.mono BX0_6.out.size))
  clear hb
  have BZ0 := Lib.hid (Below.refl w7.heap.size w7)
  go_wp2_with fail
  refine (eqPieceS_any _ _ _ _ _ _ _ _ w7.heap.size _ (Lst.more (Lst.below IX0.out BX0_7.out (Nat.le_refl _)) BX0_7.out.size) (Lst.more (Lst.below IZ0.out BZ0.out (Nat.le_refl _)) BZ0.out.size) (Nat.le_refl _)).mono ?_
  rintro e w8 ⟨rfl, hb⟩
  have B0_8 := Lib.hid (B0_7.out.trans (hb.mono B0_7.out.size))
  have BX0_8 := Lib.hid (BX0_7.out.trans (hb.mono BX0_7.out.size))
  have BZ0_8 := Lib.hid (BZ0.out.trans (hb.mono BZ0.out.size))
  clear hb
  go_wp2_with fail
  go_ret
  exact ⟨ret_bool (by simp), B0_8.out⟩
end Go.Proofs.YtglajbmopiolhaaDoor
