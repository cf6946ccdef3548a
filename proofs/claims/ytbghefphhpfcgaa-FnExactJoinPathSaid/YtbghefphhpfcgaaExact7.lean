/-
  The walks of chapters 7's and 8's exact laws.
-/
import Derived.Test.YtbghefphhpfcgaaImpl7
import Derived.Test.YtbghefphhpfcgaaImpl8
import Derived.Test.YtbghefphhpfcgaaHelp
namespace Go.Proofs.Ytbghefphhpfcgaa
open Go.RowKit
set_option linter.unusedVariables false
theorem leftS_no {l : List ByteArray} {left : Int} (h : ¬ (l.length + sumS l : Int) ≤ left) : leftS l left = -1 := by unfold leftS; rw [if_neg h]
theorem leftS_yes {l : List ByteArray} {left : Int} (h : (l.length + sumS l : Int) ≤ left) : 0 ≤ leftS l left ∧ leftS l left ≤ left ∧ (l.length : Int) ≤ left := by unfold leftS; rw [if_pos h]; omega
set_option maxHeartbeats 1000000 in
theorem fnExactJoinPath_any (x0 : Option Addr) (n0 cap0 : Nat) (l0 : List ByteArray) (w : World) (h0 : Strs w w.heap.size x0 n0 cap0 l0) (hz0 : ∀ k, (nthS l0 k).size ≤ maxLen) : Calls Try.prog 3 #[.slice x0 n0 cap0] w fun e w' => e = .returned (.bool true) ∧ Below w.heap.size w w' := by
  have HLEN0 := Lib.hid h0.len
  have hmx0 := h0.max
  have hle0 := h0.le
  unfold maxLen at hmx0
  by_cases hfit0 : (l0.length + sumS l0 : Int) ≤ 1048576
  rotate_left
  · have hr0 := leftS_no hfit0
    have B0 := Lib.hid (Below.refl w.heap.size w)
    go_enter Try.func3, Try.ntmps3
    go_wp2_with fail
    refine (szStringS_any x0 n0 cap0 l0 1048576 w.heap.size _ (Lst.more (Lst.below h0 B0.out (Nat.le_refl _)) B0.out.size) hz0 (by omega) (by omega)).mono ?_
    rintro e w' ⟨rfl, rfl⟩
    rw [hr0]
    go_wp2_with fail
    go_ret
    exact ⟨rfl, B0.out⟩
  obtain ⟨hra0, hrb0, hl0⟩ := leftS_yes hfit0
  obtain ⟨r0, hr0⟩ : ∃ r, leftS l0 1048576 = r := ⟨_, rfl⟩
  rw [hr0] at hra0 hrb0
  have hn0 : n0 ≤ 1048576 := by have := HLEN0.out; omega
  have B0 := Lib.hid (Below.refl w.heap.size w)
  go_enter Try.func3, Try.ntmps3
  go_wp2_with fail
  refine (szStringS_any x0 n0 cap0 l0 1048576 w.heap.size _ (Lst.more (Lst.below h0 B0.out (Nat.le_refl _)) B0.out.size) hz0 (by omega) (by omega)).mono ?_
  rintro e w' ⟨rfl, rfl⟩
  rw [hr0]
  go_wp2_with fail
  refine (toStringS_any _ _ _ _ _ (Lst.more (Lst.below h0 B0.out (Nat.le_refl _)) B0.out.size) hn0).mono ?_
  rintro e w1 ⟨v, rfl, ho, hb⟩
  obtain ⟨yT0, mT0, cT0, rfl, hi⟩ := ho.lst
  have OT0 := Lib.hid ho; have IT0 := Lib.hid hi; clear ho hi
  have B0_1 := Lib.hid (B0.out.trans (hb.mono B0.out.size))
  clear hb
  have BT0 := Lib.hid (Below.refl w1.heap.size w1)
  go_wp2_with fail
  refine (specJoinPath_any _ _ _ l0 _ _ (Lst.more (Lst.below IT0.out BT0.out (Nat.le_refl _)) BT0.out.size) hz0).mono ?_
  rintro e w' ⟨rfl, rfl⟩
  go_wp2_with fail
  refine (toStringS_any _ _ _ _ _ (Lst.more (Lst.below h0 B0_1.out (Nat.le_refl _)) B0_1.out.size) hn0).mono ?_
  rintro e w2 ⟨v, rfl, ho, hb⟩
  obtain ⟨yX0, mX0, cX0, rfl, hi⟩ := ho.lst
  have OX0 := Lib.hid ho; have IX0 := Lib.hid hi; clear ho hi
  have B0_2 := Lib.hid (B0_1.out.trans (hb.mono B0_1.out.size))
  clear hb
  have BX0 := Lib.hid (Below.refl w2.heap.size w2)
  go_wp2_with fail
  refine (implJoinPath_any _ _ _ l0 _ _ (Lst.more (Lst.below IX0.out BX0.out (Nat.le_refl _)) BX0.out.size) (Nat.le_refl _) hz0).mono ?_
  rintro e w3 ⟨rfl, hb⟩
  have B0_3 := Lib.hid (B0_2.out.trans (hb.mono B0_2.out.size))
  have BX0_3 := Lib.hid (BX0.out.trans (hb.mono BX0.out.size))
  clear hb
  go_wp2_with fail
  refine (toStringS_any _ _ _ _ _ (Lst.more (Lst.below h0 B0_3.out (Nat.le_refl _)) B0_3.out.size) hn0).mono ?_
  rintro e w4 ⟨v, rfl, ho, hb⟩
  obtain ⟨yZ0, mZ0, cZ0, rfl, hi⟩ := ho.lst
  have OZ0 := Lib.hid ho; have IZ0 := Lib.hid hi; clear ho hi
  have B0_4 := Lib.hid (B0_3.out.trans (hb.mono B0_3.out.size))
  have BX0_4 := Lib.hid (BX0_3.out.trans (hb.mono BX0_3.out.size))
  clear hb
  have BZ0 := Lib.hid (Below.refl w4.heap.size w4)
  go_wp2_with fail
  refine (eqStringS_any _ _ _ _ _ _ _ _ w4.heap.size _ (Lst.more (Lst.below IX0.out BX0_4.out (Nat.le_refl _)) BX0_4.out.size) (Lst.more (Lst.below IZ0.out BZ0.out (Nat.le_refl _)) BZ0.out.size)).mono ?_
  rintro e w5 hq
  have hb := hq.below
  obtain ⟨rfl, _⟩ := hq
  have B0_5 := Lib.hid (B0_4.out.trans (hb.mono B0_4.out.size))
  have BX0_5 := Lib.hid (BX0_4.out.trans (hb.mono BX0_4.out.size))
  have BZ0_5 := Lib.hid (BZ0.out.trans (hb.mono BZ0.out.size))
  clear hb
  go_wp2_with fail
  go_ret
  exact ⟨ret_bool (by simp), B0_5.out⟩
end Go.Proofs.Ytbghefphhpfcgaa
