/-
  The walks of chapter 13's exact laws.
-/
import Derived.Test.YtglajbmopiolhaaImpl13
import Derived.Test.YtglajbmopiolhaaModel13b
import Derived.Test.YtglajbmopiolhaaArgsC
import Derived.Test.YtglajbmopiolhaaImpl9
import Derived.Test.YtglajbmopiolhaaArgs
import Derived.Test.YtglajbmopiolhaaHelp
namespace Go.Proofs.Ytglajbmopiolhaa
open Go.RowKit
set_option linter.unusedVariables false
theorem sumE_nth : ∀ (l : List Ent) (k : Nat), (nthE l k).1.size ≤ sumE l
  | [], k => by simp [nthE]
  | q :: l, 0 => by
    show q.1.size ≤ ((q :: l).map fun p => p.1.size).sum
    rw [List.map_cons, List.sum_cons]; omega
  | q :: l, k + 1 => by
    have h := sumE_nth l k
    have e : nthE (q :: l) (k + 1) = nthE l k := by simp [nthE]
    rw [e]
    show (nthE l k).1.size ≤ ((q :: l).map fun p => p.1.size).sum
    rw [List.map_cons, List.sum_cons]
    have e2 : sumE l = (l.map fun p => p.1.size).sum := rfl
    omega
theorem sumE_mil {l : List Ent} (h : (l.length + sumE l : Int) ≤ 1048576) (k : Nat) : (nthE l k).1.size ≤ 1048576 := by
  have := sumE_nth l k; omega
set_option maxHeartbeats 1000000 in
theorem fnExactCountKind_any (x0 : Option Addr) (n0 cap0 : Nat) (l0 : List Ent) (a1 : Int) (w : World) (h0 : Ents w w.heap.size x0 n0 cap0 l0) (hz0 : ∀ k, (nthE l0 k).1.size ≤ maxLen) : Calls Try.prog 4 #[.slice x0 n0 cap0, .int .i64 a1] w fun e w' => e = .returned (.bool true) ∧ Below w.heap.size w w' := by
  have HLEN0 := Lib.hid h0.len
  have hmx0 := h0.max
  have hle0 := h0.le
  unfold maxLen at hmx0
  by_cases hfit0 : (l0.length + sumE l0 : Int) ≤ 1048576
  rotate_left
  · have hr0 := leftEn_no hfit0
    have B0 := Lib.hid (Below.refl w.heap.size w)
    go_enter Try.func4, Try.ntmps4
    go_wp2_with fail
    refine (szChangeS_any x0 n0 cap0 l0 1048576 w.heap.size _ (Lst.more (Lst.below h0 B0.out (Nat.le_refl _)) B0.out.size) (Nat.le_refl _) hz0 (by omega) (by omega)).mono ?_
    rintro e w1 ⟨rfl, hb⟩
    rw [hr0]
    have B0_1 := Lib.hid (B0.out.trans (hb.mono B0.out.size))
    clear hb
    go_wp2_with fail
    go_ret
    exact ⟨rfl, B0_1.out⟩
  obtain ⟨hra0, hrb0, hl0⟩ := leftEn_yes hfit0
  obtain ⟨r0, hr0⟩ : ∃ r, leftEn l0 1048576 = r := ⟨_, rfl⟩
  rw [hr0] at hra0 hrb0
  have hn0 : n0 ≤ 1048576 := by have := HLEN0.out; omega
  have hzm0 := sumE_mil (show (l0.length + sumE l0 : Int) ≤ 1048576 by omega)
  have B0 := Lib.hid (Below.refl w.heap.size w)
  go_enter Try.func4, Try.ntmps4
  go_wp2_with fail
  refine (szChangeS_any x0 n0 cap0 l0 1048576 w.heap.size _ (Lst.more (Lst.below h0 B0.out (Nat.le_refl _)) B0.out.size) (Nat.le_refl _) hz0 (by omega) (by omega)).mono ?_
  rintro e w2 ⟨rfl, hb⟩
  rw [hr0]
  have B0_2 := Lib.hid (B0.out.trans (hb.mono B0.out.size))
  clear hb
  go_wp2_with fail
  refine (toChangeS_any _ _ _ _ _ (Lst.more (Lst.below h0 B0_2.out (Nat.le_refl _)) B0_2.out.size) hn0).mono ?_
  rintro e w3 ⟨v, rfl, ho, hb⟩
  obtain ⟨yT0, mT0, cT0, rfl, hi⟩ := ho.lst
  have OT0 := Lib.hid ho; have IT0 := Lib.hid hi; clear ho hi
  have B0_3 := Lib.hid (B0_2.out.trans (hb.mono B0_2.out.size))
  clear hb
  have BT0 := Lib.hid (Below.refl w3.heap.size w3)
  go_wp2_with fail
  refine (specCountKind_any _ _ _ l0 a1 _ _ (Lst.more (Lst.below IT0.out BT0.out (Nat.le_refl _)) BT0.out.size) (Nat.le_refl _)).mono ?_
  rintro e w4 ⟨rfl, hb⟩
  have B0_4 := Lib.hid (B0_3.out.trans (hb.mono B0_3.out.size))
  have BT0_4 := Lib.hid (BT0.out.trans (hb.mono BT0.out.size))
  clear hb
  go_wp2_with fail
  refine (toChangeS_any _ _ _ _ _ (Lst.more (Lst.below h0 B0_4.out (Nat.le_refl _)) B0_4.out.size) hn0).mono ?_
  rintro e w5 ⟨v, rfl, ho, hb⟩
  obtain ⟨yX0, mX0, cX0, rfl, hi⟩ := ho.lst
  have OX0 := Lib.hid ho; have IX0 := Lib.hid hi; clear ho hi
  have B0_5 := Lib.hid (B0_4.out.trans (hb.mono B0_4.out.size))
  clear hb
  have BX0 := Lib.hid (Below.refl w5.heap.size w5)
  go_wp2_with fail
  refine (implCountKind_any _ _ _ l0 a1 _ _ (Lst.more (Lst.below IX0.out BX0.out (Nat.le_refl _)) BX0.out.size) (Nat.le_refl _)).mono ?_
  rintro e w6 ⟨rfl, hb⟩
  have B0_6 := Lib.hid (B0_5.out.trans (hb.mono B0_5.out.size))
  have BX0_6 := Lib.hid (BX0.out.trans (hb.mono BX0.out.size))
  clear hb
  go_wp2_with fail
  refine (toChangeS_any _ _ _ _ _ (Lst.more (Lst.below h0 B0_6.out (Nat.le_refl _)) B0_6.out.size) hn0).mono ?_
  rintro e w7 ⟨v, rfl, ho, hb⟩
  obtain ⟨yZ0, mZ0, cZ0, rfl, hi⟩ := ho.lst
  have OZ0 := Lib.hid ho; have IZ0 := Lib.hid hi; clear ho hi
  have B0_7 := Lib.hid (B0_6.out.trans (hb.mono B0_6.out.size))
  have BX0_7 := Lib.hid (BX0_6.out.trans (hb.mono BX0_6.out.size))
  clear hb
  have BZ0 := Lib.hid (Below.refl w7.heap.size w7)
  go_wp2_with fail
  refine (eqChangeS_any _ _ _ _ _ _ _ _ w7.heap.size _ (Lst.more (Lst.below IX0.out BX0_7.out (Nat.le_refl _)) BX0_7.out.size) (Lst.more (Lst.below IZ0.out BZ0.out (Nat.le_refl _)) BZ0.out.size) (Nat.le_refl _)).mono ?_
  rintro e w8 ⟨rfl, hb⟩
  have B0_8 := Lib.hid (B0_7.out.trans (hb.mono B0_7.out.size))
  have BX0_8 := Lib.hid (BX0_7.out.trans (hb.mono BX0_7.out.size))
  have BZ0_8 := Lib.hid (BZ0.out.trans (hb.mono BZ0.out.size))
  clear hb
  go_wp2_with fail
  go_ret
  exact ⟨ret_bool (by simp), B0_8.out⟩
end Go.Proofs.Ytglajbmopiolhaa
