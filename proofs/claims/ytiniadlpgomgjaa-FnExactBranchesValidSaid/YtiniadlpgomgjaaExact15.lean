/-
  The walks of chapter 15's exact laws.
-/
import Derived.Test.YtiniadlpgomgjaaImpl15
import Derived.Test.YtiniadlpgomgjaaModel15b
import Derived.Test.YtiniadlpgomgjaaArgsBr
import Derived.Test.YtiniadlpgomgjaaHelp
namespace Go.Proofs.Ytiniadlpgomgjaa
open Go.RowKit
set_option linter.unusedVariables false
theorem dropBr_len' (l : List Ent) (many : Int) (nm : ByteArray) : (dropBr l many nm).1.length ≤ 1000000 := Nat.le_trans (dropBr_len l many nm) (by decide)
set_option maxHeartbeats 1000000 in
theorem fnExactBranchesValid_any (x0 : Option Addr) (n0 cap0 : Nat) (l0 : List Ent) (a1 : Int) (w : World) (h0 : Ents w w.heap.size x0 n0 cap0 l0) (hz0 : ∀ k, (nthE l0 k).1.size ≤ maxLen) : Calls Try.prog 7 #[.slice x0 n0 cap0, .int .i64 a1] w fun e w' => e = .returned (.bool true) ∧ Below w.heap.size w w' := by
  have HLEN0 := Lib.hid h0.len
  have hmx0 := h0.max
  have hle0 := h0.le
  unfold maxLen at hmx0
  by_cases hfit0 : (l0.length + sumE l0 : Int) ≤ 1048576
  rotate_left
  · have hr0 := leftEn_no hfit0
    have B0 := Lib.hid (Below.refl w.heap.size w)
    go_enter Try.func7, Try.ntmps7
    go_wp2_with fail
    refine (szBranchS_any x0 n0 cap0 l0 1048576 w.heap.size _ (Lst.more (Lst.below h0 B0.out (Nat.le_refl _)) B0.out.size) (Nat.le_refl _) hz0 (by omega) (by omega)).mono ?_
    rintro e w1 ⟨rfl, hb⟩
    rw [hr0]
    have B0_1 := Lib.hid (B0.out.trans (hb.mono B0.out.size))
    clear hb
    go_wp2_with fail
    go_ret
    exact ⟨rfl, B0_1.out⟩
  obtain ⟨hra0, hrb0, hl0⟩ := leftEn_yes hfit0
  obtain ⟨r0, hr0⟩ : ∃ r, leftEn l0 1048576 = r := ⟨_, rfl⟩
  rw [hr0] at hra0 hrb0
  have hn0 : n0 ≤ 1048576 := by have := HLEN0.out; omega
  have B0 := Lib.hid (Below.refl w.heap.size w)
  go_enter Try.func7, Try.ntmps7
  go_wp2_with fail
  refine (szBranchS_any x0 n0 cap0 l0 1048576 w.heap.size _ (Lst.more (Lst.below h0 B0.out (Nat.le_refl _)) B0.out.size) (Nat.le_refl _) hz0 (by omega) (by omega)).mono ?_
  rintro e w2 ⟨rfl, hb⟩
  rw [hr0]
  have B0_2 := Lib.hid (B0.out.trans (hb.mono B0.out.size))
  clear hb
  go_wp2_with fail
  refine (toBranchS_any _ _ _ _ _ (Lst.more (Lst.below h0 B0_2.out (Nat.le_refl _)) B0_2.out.size) hn0).mono ?_
  rintro e w3 ⟨v, rfl, ho, hb⟩
  obtain ⟨yT0, mT0, cT0, rfl, hi⟩ := ho.lst
  have OT0 := Lib.hid ho; have IT0 := Lib.hid hi; clear ho hi
  have B0_3 := Lib.hid (B0_2.out.trans (hb.mono B0_2.out.size))
  clear hb
  have BT0 := Lib.hid (Below.refl w3.heap.size w3)
  go_wp2_with fail
  refine (specBranchesValid_any _ _ _ l0 a1 _ _ (Lst.more (Lst.below IT0.out BT0.out (Nat.le_refl _)) BT0.out.size) hz0).mono ?_
  rintro e w4 hq
  have hb := hq.below
  obtain ⟨rfl, _⟩ := hq
  have B0_4 := Lib.hid (B0_3.out.trans (hb.mono B0_3.out.size))
  have BT0_4 := Lib.hid (BT0.out.trans (hb.mono BT0.out.size))
  clear hb
  go_wp2_with fail
  refine (toBranchS_any _ _ _ _ _ (Lst.more (Lst.below h0 B0_4.out (Nat.le_refl _)) B0_4.out.size) hn0).mono ?_
  rintro e w5 ⟨v, rfl, ho, hb⟩
  obtain ⟨yX0, mX0, cX0, rfl, hi⟩ := ho.lst
  have OX0 := Lib.hid ho; have IX0 := Lib.hid hi; clear ho hi
  have B0_5 := Lib.hid (B0_4.out.trans (hb.mono B0_4.out.size))
  clear hb
  have BX0 := Lib.hid (Below.refl w5.heap.size w5)
  go_wp2_with fail
  refine (implBranchesValid_any _ _ _ l0 a1 _ _ (Lst.more (Lst.below IX0.out BX0.out (Nat.le_refl _)) BX0.out.size) (Nat.le_refl _) hz0).mono ?_
  rintro e w6 ⟨rfl, hb⟩
  have B0_6 := Lib.hid (B0_5.out.trans (hb.mono B0_5.out.size))
  have BX0_6 := Lib.hid (BX0.out.trans (hb.mono BX0.out.size))
  clear hb
  go_wp2_with fail
  refine (toBranchS_any _ _ _ _ _ (Lst.more (Lst.below h0 B0_6.out (Nat.le_refl _)) B0_6.out.size) hn0).mono ?_
  rintro e w7 ⟨v, rfl, ho, hb⟩
  obtain ⟨yZ0, mZ0, cZ0, rfl, hi⟩ := ho.lst
  have OZ0 := Lib.hid ho; have IZ0 := Lib.hid hi; clear ho hi
  have B0_7 := Lib.hid (B0_6.out.trans (hb.mono B0_6.out.size))
  have BX0_7 := Lib.hid (BX0_6.out.trans (hb.mono BX0_6.out.size))
  clear hb
  have BZ0 := Lib.hid (Below.refl w7.heap.size w7)
  go_wp2_with fail
  refine (eqBranchS_any _ _ _ _ _ _ _ _ w7.heap.size _ (Lst.more (Lst.below IX0.out BX0_7.out (Nat.le_refl _)) BX0_7.out.size) (Lst.more (Lst.below IZ0.out BZ0.out (Nat.le_refl _)) BZ0.out.size) (Nat.le_refl _)).mono ?_
  rintro e w8 ⟨rfl, hb⟩
  have B0_8 := Lib.hid (B0_7.out.trans (hb.mono B0_7.out.size))
  have BX0_8 := Lib.hid (BX0_7.out.trans (hb.mono BX0_7.out.size))
  have BZ0_8 := Lib.hid (BZ0.out.trans (hb.mono BZ0.out.size))
  clear hb
  go_wp2_with fail
  go_ret
  exact ⟨ret_bool (by simp), B0_8.out⟩
set_option maxHeartbeats 1000000 in
theorem fnExactBranchAt_any (x0 : Option Addr) (n0 cap0 : Nat) (l0 : List Ent) (a1 : Int) (t0 : ByteArray) (w : World) (h0 : Ents w w.heap.size x0 n0 cap0 l0) (hz0 : ∀ k, (nthE l0 k).1.size ≤ maxLen) (ht0 : t0.size ≤ maxLen) : Calls Try.prog 9 #[.slice x0 n0 cap0, .int .i64 a1, .string t0] w fun e w' => e = .returned (.bool true) ∧ Below w.heap.size w w' := by
  have HLEN0 := Lib.hid h0.len
  have hmx0 := h0.max
  have hle0 := h0.le
  unfold maxLen at hmx0
  by_cases hlongt0 : 1048576 < (t0.size : Int)
  · go_enter Try.func9, Try.ntmps9
    go_wp2
    go_ret
    exact ⟨rfl, Below.refl _ _⟩
  have hst0 : t0.size ≤ 1048576 := by omega
  by_cases hfit0 : (l0.length + sumE l0 : Int) ≤ 1048576
  rotate_left
  · have hr0 := leftEn_no hfit0
    have B0 := Lib.hid (Below.refl w.heap.size w)
    go_enter Try.func9, Try.ntmps9
    go_wp2_with fail
    refine (szBranchS_any x0 n0 cap0 l0 1048576 w.heap.size _ (Lst.more (Lst.below h0 B0.out (Nat.le_refl _)) B0.out.size) (Nat.le_refl _) hz0 (by omega) (by omega)).mono ?_
    rintro e w1 ⟨rfl, hb⟩
    rw [hr0]
    have B0_1 := Lib.hid (B0.out.trans (hb.mono B0.out.size))
    clear hb
    go_wp2_with fail
    go_ret
    exact ⟨rfl, B0_1.out⟩
  obtain ⟨hra0, hrb0, hl0⟩ := leftEn_yes hfit0
  obtain ⟨r0, hr0⟩ : ∃ r, leftEn l0 1048576 = r := ⟨_, rfl⟩
  rw [hr0] at hra0 hrb0
  have hn0 : n0 ≤ 1048576 := by have := HLEN0.out; omega
  have B0 := Lib.hid (Below.refl w.heap.size w)
  go_enter Try.func9, Try.ntmps9
  go_wp2_with fail
  refine (szBranchS_any x0 n0 cap0 l0 1048576 w.heap.size _ (Lst.more (Lst.below h0 B0.out (Nat.le_refl _)) B0.out.size) (Nat.le_refl _) hz0 (by omega) (by omega)).mono ?_
  rintro e w2 ⟨rfl, hb⟩
  rw [hr0]
  have B0_2 := Lib.hid (B0.out.trans (hb.mono B0.out.size))
  clear hb
  go_wp2_with fail
  refine (toBranchS_any _ _ _ _ _ (Lst.more (Lst.below h0 B0_2.out (Nat.le_refl _)) B0_2.out.size) hn0).mono ?_
  rintro e w3 ⟨v, rfl, ho, hb⟩
  obtain ⟨yT0, mT0, cT0, rfl, hi⟩ := ho.lst
  have OT0 := Lib.hid ho; have IT0 := Lib.hid hi; clear ho hi
  have B0_3 := Lib.hid (B0_2.out.trans (hb.mono B0_2.out.size))
  clear hb
  have BT0 := Lib.hid (Below.refl w3.heap.size w3)
  go_wp2_with fail
  refine (specBranchAt_any _ _ _ l0 a1 t0 _ _ (Lst.more (Lst.below IT0.out BT0.out (Nat.le_refl _)) BT0.out.size) (Nat.le_refl _) hz0 ht0).mono ?_
  rintro e w4 ⟨rfl, hq⟩
  have hb := below_quietN (Below.refl w3.heap.size w3) hq; clear hq
  have B0_4 := Lib.hid (B0_3.out.trans (hb.mono B0_3.out.size))
  have BT0_4 := Lib.hid (BT0.out.trans (hb.mono BT0.out.size))
  clear hb
  go_wp2_with fail
  refine (toBranchS_any _ _ _ _ _ (Lst.more (Lst.below h0 B0_4.out (Nat.le_refl _)) B0_4.out.size) hn0).mono ?_
  rintro e w5 ⟨v, rfl, ho, hb⟩
  obtain ⟨yX0, mX0, cX0, rfl, hi⟩ := ho.lst
  have OX0 := Lib.hid ho; have IX0 := Lib.hid hi; clear ho hi
  have B0_5 := Lib.hid (B0_4.out.trans (hb.mono B0_4.out.size))
  clear hb
  have BX0 := Lib.hid (Below.refl w5.heap.size w5)
  go_wp2_with fail
  refine (implBranchAt_any _ _ _ l0 a1 t0 _ _ (Lst.more (Lst.below IX0.out BX0.out (Nat.le_refl _)) BX0.out.size) (Nat.le_refl _) hz0 ht0).mono ?_
  rintro e w6 ⟨rfl, hb⟩
  have B0_6 := Lib.hid (B0_5.out.trans (hb.mono B0_5.out.size))
  have BX0_6 := Lib.hid (BX0.out.trans (hb.mono BX0.out.size))
  clear hb
  go_wp2_with fail
  refine (toBranchS_any _ _ _ _ _ (Lst.more (Lst.below h0 B0_6.out (Nat.le_refl _)) B0_6.out.size) hn0).mono ?_
  rintro e w7 ⟨v, rfl, ho, hb⟩
  obtain ⟨yZ0, mZ0, cZ0, rfl, hi⟩ := ho.lst
  have OZ0 := Lib.hid ho; have IZ0 := Lib.hid hi; clear ho hi
  have B0_7 := Lib.hid (B0_6.out.trans (hb.mono B0_6.out.size))
  have BX0_7 := Lib.hid (BX0_6.out.trans (hb.mono BX0_6.out.size))
  clear hb
  have BZ0 := Lib.hid (Below.refl w7.heap.size w7)
  go_wp2_with fail
  refine (eqBranchS_any _ _ _ _ _ _ _ _ w7.heap.size _ (Lst.more (Lst.below IX0.out BX0_7.out (Nat.le_refl _)) BX0_7.out.size) (Lst.more (Lst.below IZ0.out BZ0.out (Nat.le_refl _)) BZ0.out.size) (Nat.le_refl _)).mono ?_
  rintro e w8 ⟨rfl, hb⟩
  have B0_8 := Lib.hid (B0_7.out.trans (hb.mono B0_7.out.size))
  have BX0_8 := Lib.hid (BX0_7.out.trans (hb.mono BX0_7.out.size))
  have BZ0_8 := Lib.hid (BZ0.out.trans (hb.mono BZ0.out.size))
  clear hb
  go_wp2_with fail
  go_ret
  exact ⟨ret_bool (by simp), B0_8.out⟩
set_option maxHeartbeats 1000000 in
theorem fnExactDropBranch_any (x0 : Option Addr) (n0 cap0 : Nat) (l0 : List Ent) (a1 : Int) (t0 : ByteArray) (w : World) (h0 : Ents w w.heap.size x0 n0 cap0 l0) (hz0 : ∀ k, (nthE l0 k).1.size ≤ maxLen) (ht0 : t0.size ≤ maxLen) : Calls Try.prog 10 #[.slice x0 n0 cap0, .int .i64 a1, .string t0] w fun e w' => e = .returned (.bool true) ∧ Below w.heap.size w w' := by
  have HLEN0 := Lib.hid h0.len
  have hmx0 := h0.max
  have hle0 := h0.le
  unfold maxLen at hmx0
  by_cases hlongt0 : 1048576 < (t0.size : Int)
  · go_enter Try.func10, Try.ntmps10
    go_wp2
    go_ret
    exact ⟨rfl, Below.refl _ _⟩
  have hst0 : t0.size ≤ 1048576 := by omega
  by_cases hfit0 : (l0.length + sumE l0 : Int) ≤ 1048576
  rotate_left
  · have hr0 := leftEn_no hfit0
    have B0 := Lib.hid (Below.refl w.heap.size w)
    go_enter Try.func10, Try.ntmps10
    go_wp2_with fail
    refine (szBranchS_any x0 n0 cap0 l0 1048576 w.heap.size _ (Lst.more (Lst.below h0 B0.out (Nat.le_refl _)) B0.out.size) (Nat.le_refl _) hz0 (by omega) (by omega)).mono ?_
    rintro e w1 ⟨rfl, hb⟩
    rw [hr0]
    have B0_1 := Lib.hid (B0.out.trans (hb.mono B0.out.size))
    clear hb
    go_wp2_with fail
    go_ret
    exact ⟨rfl, B0_1.out⟩
  obtain ⟨hra0, hrb0, hl0⟩ := leftEn_yes hfit0
  obtain ⟨r0, hr0⟩ : ∃ r, leftEn l0 1048576 = r := ⟨_, rfl⟩
  rw [hr0] at hra0 hrb0
  have hn0 : n0 ≤ 1048576 := by have := HLEN0.out; omega
  have B0 := Lib.hid (Below.refl w.heap.size w)
  have HLL := Lib.hid (dropBr_len' l0 a1 t0)
  go_enter Try.func10, Try.ntmps10
  go_wp2_with fail
  refine (szBranchS_any x0 n0 cap0 l0 1048576 w.heap.size _ (Lst.more (Lst.below h0 B0.out (Nat.le_refl _)) B0.out.size) (Nat.le_refl _) hz0 (by omega) (by omega)).mono ?_
  rintro e w2 ⟨rfl, hb⟩
  rw [hr0]
  have B0_2 := Lib.hid (B0.out.trans (hb.mono B0.out.size))
  clear hb
  go_wp2_with fail
  refine (toBranchS_any _ _ _ _ _ (Lst.more (Lst.below h0 B0_2.out (Nat.le_refl _)) B0_2.out.size) hn0).mono ?_
  rintro e w3 ⟨v, rfl, ho, hb⟩
  obtain ⟨yT0, mT0, cT0, rfl, hi⟩ := ho.lst
  have OT0 := Lib.hid ho; have IT0 := Lib.hid hi; clear ho hi
  have B0_3 := Lib.hid (B0_2.out.trans (hb.mono B0_2.out.size))
  clear hb
  have BT0 := Lib.hid (Below.refl w3.heap.size w3)
  go_wp2_with fail
  refine (specDropBranch_any _ _ _ l0 a1 t0 _ _ (Lst.more (Lst.below IT0.out BT0.out (Nat.le_refl _)) BT0.out.size) (Nat.le_refl _) hz0 ht0).mono ?_
  rintro e w4 ⟨v, rfl, ho, hb⟩
  obtain ⟨yW, mW, cW, rfl, hi⟩ := ho.lst
  have OW := Lib.hid ho; have IW := Lib.hid hi; clear ho hi
  have B0_4 := Lib.hid (B0_3.out.trans (hb.mono B0_3.out.size))
  have BT0_4 := Lib.hid (BT0.out.trans (hb.mono BT0.out.size))
  clear hb
  have BW := Lib.hid (Below.refl w4.heap.size w4)
  have LW0 := Lib.hid B0_4.out.size
  have U0 := Lib.hid BW.out.size
  go_wp2_with fail
  refine (toBranchS_any _ _ _ _ _ (Lst.more (Lst.below h0 B0_4.out (Nat.le_refl _)) B0_4.out.size) hn0).mono ?_
  rintro e w5 ⟨v, rfl, ho, hb⟩
  obtain ⟨yX0, mX0, cX0, rfl, hi⟩ := ho.lst
  have OX0 := Lib.hid ho; have IX0 := Lib.hid hi; clear ho hi
  have B0_5 := Lib.hid (B0_4.out.trans (hb.mono B0_4.out.size))
  have BW_5 := Lib.hid (BW.out.trans (hb.mono BW.out.size))
  clear hb
  have BX0 := Lib.hid (Below.refl w5.heap.size w5)
  have UG := Lib.hid BW_5.out.size
  have LG0 := Lib.hid BX0.out.size
  go_wp2_with fail
  refine (implDropBranch_any _ _ _ l0 a1 t0 _ _ (Lst.more (Lst.below IX0.out BX0.out (Nat.le_refl _)) BX0.out.size) (Nat.le_refl _) hz0 ht0).mono ?_
  rintro e w6 ⟨v, rfl, ho, hb⟩
  obtain ⟨yG, mG, cG, rfl, hi⟩ := ho.lst
  have OG := Lib.hid ho; have IG := Lib.hid hi; clear ho hi
  have B0_6 := Lib.hid (B0_5.out.trans (hb.mono B0_5.out.size))
  have BW_6 := Lib.hid (BW_5.out.trans (hb.mono BW_5.out.size))
  have BX0_6 := Lib.hid (BX0.out.trans (hb.mono BX0.out.size))
  clear hb
  have BG := Lib.hid (Below.refl w6.heap.size w6)
  have hG : mG ≤ 1000000 := by have h1 := IG.out.len; have h2 := HLL.out; omega
  have HLG := Lib.hid IG.out.len
  have hX0 : mX0 ≤ 1048576 := by have h1 := IX0.out.len; have h2 := HLEN0.out; omega
  have HLX0 := Lib.hid IX0.out.len
  have D0 := Lib.hid (show ∀ q, (Value.slice yX0 mX0 cX0).ownBlock = some q → q < w5.heap.size from fun q hq => OwnL.ltSize OX0.out hq)
  go_wp2_with fail
  refine (eqBranchS_any _ _ _ _ _ _ _ _ w6.heap.size _ (Lst.more (Lst.below IG.out BG.out (Nat.le_refl _)) BG.out.size) (Lst.more (Lst.below IW.out BW_6.out (Nat.le_refl _)) BW_6.out.size) (Nat.le_refl _)).mono ?_
  rintro e w7 ⟨rfl, hb⟩
  have B0_7 := Lib.hid (B0_6.out.trans (hb.mono B0_6.out.size))
  have BW_7 := Lib.hid (BW_6.out.trans (hb.mono BW_6.out.size))
  have BX0_7 := Lib.hid (BX0_6.out.trans (hb.mono BX0_6.out.size))
  have BG_7 := Lib.hid (BG.out.trans (hb.mono BG.out.size))
  clear hb
  go_wp2_with fail
  refine (toBranchS_any _ _ _ _ _ (Lst.more (Lst.below h0 B0_7.out (Nat.le_refl _)) B0_7.out.size) hn0).mono ?_
  rintro e w8 ⟨v, rfl, ho, hb⟩
  obtain ⟨yZ0, mZ0, cZ0, rfl, hi⟩ := ho.lst
  have OZ0 := Lib.hid ho; have IZ0 := Lib.hid hi; clear ho hi
  have B0_8 := Lib.hid (B0_7.out.trans (hb.mono B0_7.out.size))
  have BW_8 := Lib.hid (BW_7.out.trans (hb.mono BW_7.out.size))
  have BX0_8 := Lib.hid (BX0_7.out.trans (hb.mono BX0_7.out.size))
  have BG_8 := Lib.hid (BG_7.out.trans (hb.mono BG_7.out.size))
  clear hb
  have BZ0 := Lib.hid (Below.refl w8.heap.size w8)
  go_wp2_with fail
  refine (eqBranchS_any _ _ _ _ _ _ _ _ w8.heap.size _ (Lst.more (Lst.below IX0.out BX0_8.out (Nat.le_refl _)) BX0_8.out.size) (Lst.more (Lst.below IZ0.out BZ0.out (Nat.le_refl _)) BZ0.out.size) (Nat.le_refl _)).mono ?_
  rintro e w9 ⟨rfl, hb⟩
  have B0_9 := Lib.hid (B0_8.out.trans (hb.mono B0_8.out.size))
  have BW_9 := Lib.hid (BW_8.out.trans (hb.mono BW_8.out.size))
  have BX0_9 := Lib.hid (BX0_8.out.trans (hb.mono BX0_8.out.size))
  have BG_9 := Lib.hid (BG_8.out.trans (hb.mono BG_8.out.size))
  have BZ0_9 := Lib.hid (BZ0.out.trans (hb.mono BZ0.out.size))
  clear hb
  have OM10 := Lib.hid (OwnL.below OX0.out BX0_9.out)
  go_wp2_with fail
  refine (markBranchS_any _ _ _ _ _ 1 _ OM10.out HLX0.out (by omega) (by omega) (by omega)).mono ?_
  rintro e w10 ⟨rfl, ho, hg⟩
  have OG_0 := Lib.hid (OwnL.keptLt (OwnL.below OG.out BG_9.out) hg (fun q e => Nat.lt_of_lt_of_le (D0.out q e) LG0.out))
  have B0_10 := Lib.hid (B0_9.out.grown hg B0_9.out.size (fun q e => Nat.le_trans (Nat.le_trans LW0.out U0.out) (OwnL.at OM10.out q e)))
  have BW_10 := Lib.hid (BW_9.out.grown hg BW_9.out.size (fun q e => Nat.le_trans (U0.out) (OwnL.at OM10.out q e)))
  clear ho hg
  have BG_m0 := Lib.hid (Below.refl w10.heap.size w10)
  go_wp2_with fail
  refine (eqBranchS_any _ _ _ _ _ _ _ _ w10.heap.size _ (OwnL.lst' (OwnL.below OG_0.out BG_m0.out)) (Lst.more (Lst.below IW.out BW_10.out (Nat.le_refl _)) BW_10.out.size) (Nat.le_refl _)).mono ?_
  rintro e w11 ⟨rfl, hb⟩
  have B0_11 := Lib.hid (B0_10.out.trans (hb.mono B0_10.out.size))
  have BW_11 := Lib.hid (BW_10.out.trans (hb.mono BW_10.out.size))
  have BG_11 := Lib.hid (BG_m0.out.trans (hb.mono BG_m0.out.size))
  clear hb
  have OM12 := Lib.hid (OwnL.below OG_0.out BG_11.out)
  go_wp2_with fail
  refine (markBranchS_any _ _ _ _ _ 1 _ OM12.out HLG.out (by omega) (by omega) (by omega)).mono ?_
  rintro e w12 ⟨rfl, ho, hg⟩
  have B0_12 := Lib.hid (B0_11.out.grown hg B0_11.out.size (fun q e => Nat.le_trans (Nat.le_trans LW0.out UG.out) (OwnL.at OM12.out q e)))
  have BW_12 := Lib.hid (BW_11.out.grown hg BW_11.out.size (fun q e => Nat.le_trans (UG.out) (OwnL.at OM12.out q e)))
  have OM := Lib.hid ho; clear ho hg
  have BM := Lib.hid (Below.refl w12.heap.size w12)
  go_wp2_with fail
  refine (heldBranchS_any _ _ _ 1 w12.heap.size _ (OwnL.lst' (OwnL.below OM.out BM.out)) (Nat.le_refl _) (by omega) (by omega) (by omega)).mono ?_
  rintro e w13 ⟨rfl, hb⟩
  have B0_13 := Lib.hid (B0_12.out.trans (hb.mono B0_12.out.size))
  have BW_13 := Lib.hid (BW_12.out.trans (hb.mono BW_12.out.size))
  have BM_13 := Lib.hid (BM.out.trans (hb.mono BM.out.size))
  clear hb
  go_wp2_with fail
  refine (toBranchS_any _ _ _ _ _ (Lst.more (Lst.below h0 B0_13.out (Nat.le_refl _)) B0_13.out.size) hn0).mono ?_
  rintro e w14 ⟨v, rfl, ho, hb⟩
  obtain ⟨yV0, mV0, cV0, rfl, hi⟩ := ho.lst
  have OV0 := Lib.hid ho; have IV0 := Lib.hid hi; clear ho hi
  have B0_14 := Lib.hid (B0_13.out.trans (hb.mono B0_13.out.size))
  have BW_14 := Lib.hid (BW_13.out.trans (hb.mono BW_13.out.size))
  have BM_14 := Lib.hid (BM_13.out.trans (hb.mono BM_13.out.size))
  clear hb
  have BV0 := Lib.hid (Below.refl w14.heap.size w14)
  go_wp2_with fail
  refine (implDropBranch_any _ _ _ l0 a1 t0 _ _ (Lst.more (Lst.below IV0.out BV0.out (Nat.le_refl _)) BV0.out.size) (Nat.le_refl _) hz0 ht0).mono ?_
  rintro e w15 ⟨v, rfl, ho, hb⟩
  obtain ⟨yH, mH, cH, rfl, hi⟩ := ho.lst
  have OH := Lib.hid ho; have IH := Lib.hid hi; clear ho hi
  have B0_15 := Lib.hid (B0_14.out.trans (hb.mono B0_14.out.size))
  have BW_15 := Lib.hid (BW_14.out.trans (hb.mono BW_14.out.size))
  have BM_15 := Lib.hid (BM_14.out.trans (hb.mono BM_14.out.size))
  have BV0_15 := Lib.hid (BV0.out.trans (hb.mono BV0.out.size))
  clear hb
  have BH := Lib.hid (Below.refl w15.heap.size w15)
  go_wp2_with fail
  refine (eqBranchS_any _ _ _ _ _ _ _ _ w15.heap.size _ (Lst.more (Lst.below IH.out BH.out (Nat.le_refl _)) BH.out.size) (Lst.more (Lst.below IW.out BW_15.out (Nat.le_refl _)) BW_15.out.size) (Nat.le_refl _)).mono ?_
  rintro e w16 ⟨rfl, hb⟩
  have B0_16 := Lib.hid (B0_15.out.trans (hb.mono B0_15.out.size))
  have BW_16 := Lib.hid (BW_15.out.trans (hb.mono BW_15.out.size))
  have BM_16 := Lib.hid (BM_15.out.trans (hb.mono BM_15.out.size))
  have BV0_16 := Lib.hid (BV0_15.out.trans (hb.mono BV0_15.out.size))
  have BH_16 := Lib.hid (BH.out.trans (hb.mono BH.out.size))
  clear hb
  go_wp2_with fail
  refine (heldBranchS_any _ _ _ 1 w16.heap.size _ (OwnL.lst' (OwnL.below OM.out BM_16.out)) (Nat.le_refl _) (by omega) (by omega) (by omega)).mono ?_
  rintro e w17 ⟨rfl, hb⟩
  have B0_17 := Lib.hid (B0_16.out.trans (hb.mono B0_16.out.size))
  have BW_17 := Lib.hid (BW_16.out.trans (hb.mono BW_16.out.size))
  have BM_17 := Lib.hid (BM_16.out.trans (hb.mono BM_16.out.size))
  have BV0_17 := Lib.hid (BV0_16.out.trans (hb.mono BV0_16.out.size))
  have BH_17 := Lib.hid (BH_16.out.trans (hb.mono BH_16.out.size))
  clear hb
  go_wp2_with fail
  go_ret
  exact ⟨ret_bool (by simp), B0_17.out⟩
end Go.Proofs.Ytiniadlpgomgjaa
