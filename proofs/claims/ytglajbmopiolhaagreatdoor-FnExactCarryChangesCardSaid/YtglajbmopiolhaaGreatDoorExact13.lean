/-
  The walks of chapter 13's exact laws.
-/
import Derived.Test.YtglajbmopiolhaaGreatDoorImpl13
import Derived.Test.YtglajbmopiolhaaGreatDoorModel13
import Derived.Test.YtglajbmopiolhaaGreatDoorArgsC
import Derived.Test.YtglajbmopiolhaaGreatDoorExact9
namespace Go.Proofs.YtglajbmopiolhaaGreatDoor
open Go.RowKit
set_option linter.unusedVariables false
theorem sumE_nth : ∀ (l : List Ent) (k : Nat), (nthE l k).1.size ≤ sumE l
  | [], k => by simp [nthE]
  | q :: l, 0 => by
    show q.1.size ≤ ((q :: l).map fun p => p.1.size).sum
    rw [List.map_cons, List.sum_cons]; omega
  | q :: l, k + 1 => by
    have h := sumE_nth l k
    have e : nthE (q :: l) (k + 1) = nthE l k := by simp [nthE]
    rw [e]
    show (nthE l k).1.size ≤ ((q :: l).map fun p => p.1.size).sum
    rw [List.map_cons, List.sum_cons]
    have e2 : sumE l = (l.map fun p => p.1.size).sum := rfl
    omega
theorem sumE_mil {l : List Ent} (h : (l.length + sumE l : Int) ≤ 1048576) (k : Nat) : (nthE l k).1.size ≤ 1048576 := by
  have := sumE_nth l k; omega
set_option maxHeartbeats 1000000 in
theorem fnExactChangesOf_any (x0 : Option Addr) (n0 cap0 : Nat) (l0 : List Pc) (a1 : Int) (a2 : Int) (w : World) (h0 : Pcs w w.heap.size x0 n0 cap0 l0) (hz0 : ∀ k, (nthP l0 k).2.size ≤ maxLen) : Calls Tryz.prog 7 #[.slice x0 n0 cap0, .int .i64 a1, .int .i64 a2] w fun e w' => e = .returned (.bool true) ∧ Below w.heap.size w w' := by
  have HLEN0 := Lib.hid h0.len
  have hmx0 := h0.max
  have hle0 := h0.le
  unfold maxLen at hmx0
  by_cases hfit0 : (l0.length + sumP l0 : Int) ≤ 1048576
  rotate_left
  · have hr0 := leftP_no hfit0
    have B0 := Lib.hid (Below.refl w.heap.size w)
    go_enter Tryz.func7, Tryz.ntmps7
    go_wp2_with fail
    refine (szPieceS_any x0 n0 cap0 l0 1048576 w.heap.size _ (Lst.more (Lst.below h0 B0.out (Nat.le_refl _)) B0.out.size) (Nat.le_refl _) hz0 (by omega) (by omega)).mono ?_
    rintro e w1 ⟨rfl, hb⟩
    rw [hr0]
    have B0_1 := Lib.hid (B0.out.trans (hb.mono B0.out.size))
    clear hb
    go_wp2_with fail
    go_ret
    exact ⟨rfl, B0_1.out⟩
  obtain ⟨hra0, hrb0, hl0⟩ := leftP_yes hfit0
  obtain ⟨r0, hr0⟩ : ∃ r, leftP l0 1048576 = r := ⟨_, rfl⟩
  rw [hr0] at hra0 hrb0
  have hn0 : n0 ≤ 1048576 := by have := HLEN0.out; omega
  have hzm0 := sumP_mil (show (l0.length + sumP l0 : Int) ≤ 1048576 by omega)
  have B0 := Lib.hid (Below.refl w.heap.size w)
  have HLL := Lib.hid (chg_len l0 a1 a2)
  go_enter Tryz.func7, Tryz.ntmps7
  go_wp2_with fail
  refine (szPieceS_any x0 n0 cap0 l0 1048576 w.heap.size _ (Lst.more (Lst.below h0 B0.out (Nat.le_refl _)) B0.out.size) (Nat.le_refl _) hz0 (by omega) (by omega)).mono ?_
  rintro e w2 ⟨rfl, hb⟩
  rw [hr0]
  have B0_2 := Lib.hid (B0.out.trans (hb.mono B0.out.size))
  clear hb
  go_wp2_with fail
  refine (toPieceS_any _ _ _ _ _ (Lst.more (Lst.below h0 B0_2.out (Nat.le_refl _)) B0_2.out.size) hn0).mono ?_
  rintro e w3 ⟨v, rfl, ho, hb⟩
  obtain ⟨yT0, mT0, cT0, rfl, hi⟩ := ho.lst
  have OT0 := Lib.hid ho; have IT0 := Lib.hid hi; clear ho hi
  have B0_3 := Lib.hid (B0_2.out.trans (hb.mono B0_2.out.size))
  clear hb
  have BT0 := Lib.hid (Below.refl w3.heap.size w3)
  go_wp2_with fail
  refine (specChangesOf_any _ _ _ l0 a1 a2 _ _ (Lst.more (Lst.below IT0.out BT0.out (Nat.le_refl _)) BT0.out.size) (Nat.le_refl _) hzm0).mono ?_
  rintro e w4 ⟨v, rfl, ho, hb⟩
  obtain ⟨yW, mW, cW, rfl, hi⟩ := ho.lst
  have OW := Lib.hid ho; have IW := Lib.hid hi; clear ho hi
  have B0_4 := Lib.hid (B0_3.out.trans (hb.mono B0_3.out.size))
  have BT0_4 := Lib.hid (BT0.out.trans (hb.mono BT0.out.size))
  clear hb
  have BW := Lib.hid (Below.refl w4.heap.size w4)
  have LW0 := Lib.hid B0_4.out.size
  have U0 := Lib.hid BW.out.size
  go_wp2_with fail
  refine (toPieceS_any _ _ _ _ _ (Lst.more (Lst.below h0 B0_4.out (Nat.le_refl _)) B0_4.out.size) hn0).mono ?_
  rintro e w5 ⟨v, rfl, ho, hb⟩
  obtain ⟨yX0, mX0, cX0, rfl, hi⟩ := ho.lst
  have OX0 := Lib.hid ho; have IX0 := Lib.hid hi; clear ho hi
  have B0_5 := Lib.hid (B0_4.out.trans (hb.mono B0_4.out.size))
  have BW_5 := Lib.hid (BW.out.trans (hb.mono BW.out.size))
  clear hb
  have BX0 := Lib.hid (Below.refl w5.heap.size w5)
  have UG := Lib.hid BW_5.out.size
  have LG0 := Lib.hid BX0.out.size
  go_wp2_with fail
  refine (implChangesOf_any _ _ _ l0 a1 a2 _ _ (Lst.more (Lst.below IX0.out BX0.out (Nat.le_refl _)) BX0.out.size) (Nat.le_refl _) hzm0).mono ?_
  rintro e w6 ⟨v, rfl, ho, hb⟩
  obtain ⟨yG, mG, cG, rfl, hi⟩ := ho.lst
  have OG := Lib.hid ho; have IG := Lib.hid hi; clear ho hi
  have B0_6 := Lib.hid (B0_5.out.trans (hb.mono B0_5.out.size))
  have BW_6 := Lib.hid (BW_5.out.trans (hb.mono BW_5.out.size))
  have BX0_6 := Lib.hid (BX0.out.trans (hb.mono BX0.out.size))
  clear hb
  have BG := Lib.hid (Below.refl w6.heap.size w6)
  have hG : mG ≤ 1000000 := by have h1 := IG.out.len; have h2 := HLL.out; omega
  have HLG := Lib.hid IG.out.len
  have hX0 : mX0 ≤ 1048576 := by have h1 := IX0.out.len; have h2 := HLEN0.out; omega
  have HLX0 := Lib.hid IX0.out.len
  have D0 := Lib.hid (show ∀ q, (Value.slice yX0 mX0 cX0).ownBlock = some q → q < w5.heap.size from fun q hq => OwnL.ltSize OX0.out hq)
  go_wp2_with fail
  refine (eqChangeS_any _ _ _ _ _ _ _ _ w6.heap.size _ (Lst.more (Lst.below IG.out BG.out (Nat.le_refl _)) BG.out.size) (Lst.more (Lst.below IW.out BW_6.out (Nat.le_refl _)) BW_6.out.size) (Nat.le_refl _)).mono ?_
  rintro e w7 ⟨rfl, hb⟩
  have B0_7 := Lib.hid (B0_6.out.trans (hb.mono B0_6.out.size))
  have BW_7 := Lib.hid (BW_6.out.trans (hb.mono BW_6.out.size))
  have BX0_7 := Lib.hid (BX0_6.out.trans (hb.mono BX0_6.out.size))
  have BG_7 := Lib.hid (BG.out.trans (hb.mono BG.out.size))
  clear hb
  go_wp2_with fail
  refine (toPieceS_any _ _ _ _ _ (Lst.more (Lst.below h0 B0_7.out (Nat.le_refl _)) B0_7.out.size) hn0).mono ?_
  rintro e w8 ⟨v, rfl, ho, hb⟩
  obtain ⟨yZ0, mZ0, cZ0, rfl, hi⟩ := ho.lst
  have OZ0 := Lib.hid ho; have IZ0 := Lib.hid hi; clear ho hi
  have B0_8 := Lib.hid (B0_7.out.trans (hb.mono B0_7.out.size))
  have BW_8 := Lib.hid (BW_7.out.trans (hb.mono BW_7.out.size))
  have BX0_8 := Lib.hid (BX0_7.out.trans (hb.mono BX0_7.out.size))
  have BG_8 := Lib.hid (BG_7.out.trans (hb.mono BG_7.out.size))
  clear hb
  have BZ0 := Lib.hid (Below.refl w8.heap.size w8)
  go_wp2_with fail
  refine (eqPieceS_any _ _ _ _ _ _ _ _ w8.heap.size _ (Lst.more (Lst.below IX0.out BX0_8.out (Nat.le_refl _)) BX0_8.out.size) (Lst.more (Lst.below IZ0.out BZ0.out (Nat.le_refl _)) BZ0.out.size) (Nat.le_refl _)).mono ?_
  rintro e w9 ⟨rfl, hb⟩
  have B0_9 := Lib.hid (B0_8.out.trans (hb.mono B0_8.out.size))
  have BW_9 := Lib.hid (BW_8.out.trans (hb.mono BW_8.out.size))
  have BX0_9 := Lib.hid (BX0_8.out.trans (hb.mono BX0_8.out.size))
  have BG_9 := Lib.hid (BG_8.out.trans (hb.mono BG_8.out.size))
  have BZ0_9 := Lib.hid (BZ0.out.trans (hb.mono BZ0.out.size))
  clear hb
  have OM10 := Lib.hid (OwnL.below OX0.out BX0_9.out)
  go_wp2_with fail
  refine (markPieceS_any _ _ _ _ _ 1 _ OM10.out HLX0.out (by omega) (by omega) (by omega)).mono ?_
  rintro e w10 ⟨rfl, ho, hg⟩
  have OG_0 := Lib.hid (OwnL.keptLt (OwnL.below OG.out BG_9.out) hg (fun q e => Nat.lt_of_lt_of_le (D0.out q e) LG0.out))
  have B0_10 := Lib.hid (B0_9.out.grown hg B0_9.out.size (fun q e => Nat.le_trans (Nat.le_trans LW0.out U0.out) (OwnL.at OM10.out q e)))
  have BW_10 := Lib.hid (BW_9.out.grown hg BW_9.out.size (fun q e => Nat.le_trans (U0.out) (OwnL.at OM10.out q e)))
  clear ho hg
  have BG_m0 := Lib.hid (Below.refl w10.heap.size w10)
  go_wp2_with fail
  refine (eqChangeS_any _ _ _ _ _ _ _ _ w10.heap.size _ (OwnL.lst' (OwnL.below OG_0.out BG_m0.out)) (Lst.more (Lst.below IW.out BW_10.out (Nat.le_refl _)) BW_10.out.size) (Nat.le_refl _)).mono ?_
  rintro e w11 ⟨rfl, hb⟩
  have B0_11 := Lib.hid (B0_10.out.trans (hb.mono B0_10.out.size))
  have BW_11 := Lib.hid (BW_10.out.trans (hb.mono BW_10.out.size))
  have BG_11 := Lib.hid (BG_m0.out.trans (hb.mono BG_m0.out.size))
  clear hb
  have OM12 := Lib.hid (OwnL.below OG_0.out BG_11.out)
  go_wp2_with fail
  refine (markChangeS_any _ _ _ _ _ 1 _ OM12.out HLG.out (by omega) (by omega) (by omega)).mono ?_
  rintro e w12 ⟨rfl, ho, hg⟩
  have B0_12 := Lib.hid (B0_11.out.grown hg B0_11.out.size (fun q e => Nat.le_trans (Nat.le_trans LW0.out UG.out) (OwnL.at OM12.out q e)))
  have BW_12 := Lib.hid (BW_11.out.grown hg BW_11.out.size (fun q e => Nat.le_trans (UG.out) (OwnL.at OM12.out q e)))
  have OM := Lib.hid ho; clear ho hg
  have BM := Lib.hid (Below.refl w12.heap.size w12)
  go_wp2_with fail
  refine (heldChangeS_any _ _ _ 1 w12.heap.size _ (OwnL.lst' (OwnL.below OM.out BM.out)) (Nat.le_refl _) (by omega) (by omega) (by omega)).mono ?_
  rintro e w13 ⟨rfl, hb⟩
  have B0_13 := Lib.hid (B0_12.out.trans (hb.mono B0_12.out.size))
  have BW_13 := Lib.hid (BW_12.out.trans (hb.mono BW_12.out.size))
  have BM_13 := Lib.hid (BM.out.trans (hb.mono BM.out.size))
  clear hb
  go_wp2_with fail
  refine (toPieceS_any _ _ _ _ _ (Lst.more (Lst.below h0 B0_13.out (Nat.le_refl _)) B0_13.out.size) hn0).mono ?_
  rintro e w14 ⟨v, rfl, ho, hb⟩
  obtain ⟨yV0, mV0, cV0, rfl, hi⟩ := ho.lst
  have OV0 := Lib.hid ho; have IV0 := Lib.hid hi; clear ho hi
  have B0_14 := Lib.hid (B0_13.out.trans (hb.mono B0_13.out.size))
  have BW_14 := Lib.hid (BW_13.out.trans (hb.mono BW_13.out.size))
  have BM_14 := Lib.hid (BM_13.out.trans (hb.mono BM_13.out.size))
  clear hb
  have BV0 := Lib.hid (Below.refl w14.heap.size w14)
  go_wp2_with fail
  refine (implChangesOf_any _ _ _ l0 a1 a2 _ _ (Lst.more (Lst.below IV0.out BV0.out (Nat.le_refl _)) BV0.out.size) (Nat.le_refl _) hzm0).mono ?_
  rintro e w15 ⟨v, rfl, ho, hb⟩
  obtain ⟨yH, mH, cH, rfl, hi⟩ := ho.lst
  have OH := Lib.hid ho; have IH := Lib.hid hi; clear ho hi
  have B0_15 := Lib.hid (B0_14.out.trans (hb.mono B0_14.out.size))
  have BW_15 := Lib.hid (BW_14.out.trans (hb.mono BW_14.out.size))
  have BM_15 := Lib.hid (BM_14.out.trans (hb.mono BM_14.out.size))
  have BV0_15 := Lib.hid (BV0.out.trans (hb.mono BV0.out.size))
  clear hb
  have BH := Lib.hid (Below.refl w15.heap.size w15)
  go_wp2_with fail
  refine (eqChangeS_any _ _ _ _ _ _ _ _ w15.heap.size _ (Lst.more (Lst.below IH.out BH.out (Nat.le_refl _)) BH.out.size) (Lst.more (Lst.below IW.out BW_15.out (Nat.le_refl _)) BW_15.out.size) (Nat.le_refl _)).mono ?_
  rintro e w16 ⟨rfl, hb⟩
  have B0_16 := Lib.hid (B0_15.out.trans (hb.mono B0_15.out.size))
  have BW_16 := Lib.hid (BW_15.out.trans (hb.mono BW_15.out.size))
  have BM_16 := Lib.hid (BM_15.out.trans (hb.mono BM_15.out.size))
  have BV0_16 := Lib.hid (BV0_15.out.trans (hb.mono BV0_15.out.size))
  have BH_16 := Lib.hid (BH.out.trans (hb.mono BH.out.size))
  clear hb
  go_wp2_with fail
  refine (heldChangeS_any _ _ _ 1 w16.heap.size _ (OwnL.lst' (OwnL.below OM.out BM_16.out)) (Nat.le_refl _) (by omega) (by omega) (by omega)).mono ?_
  rintro e w17 ⟨rfl, hb⟩
  have B0_17 := Lib.hid (B0_16.out.trans (hb.mono B0_16.out.size))
  have BW_17 := Lib.hid (BW_16.out.trans (hb.mono BW_16.out.size))
  have BM_17 := Lib.hid (BM_16.out.trans (hb.mono BM_16.out.size))
  have BV0_17 := Lib.hid (BV0_16.out.trans (hb.mono BV0_16.out.size))
  have BH_17 := Lib.hid (BH_16.out.trans (hb.mono BH_16.out.size))
  clear hb
  go_wp2_with fail
  go_ret
  exact ⟨ret_bool (by simp), B0_17.out⟩
set_option maxHeartbeats 1000000 in
theorem fnExactCarryChanges_any (x0 : Option Addr) (n0 cap0 : Nat) (l0 : List Pc) (a1 : Int) (x1 : Option Addr) (n1 cap1 : Nat) (l1 : List Ent) (a2 : Int) (w : World) (h0 : Pcs w w.heap.size x0 n0 cap0 l0) (hz0 : ∀ k, (nthP l0 k).2.size ≤ maxLen) (h1 : Ents w w.heap.size x1 n1 cap1 l1) (hz1 : ∀ k, (nthE l1 k).1.size ≤ maxLen) : Calls Tryz.prog 8 #[.slice x0 n0 cap0, .int .i64 a1, .slice x1 n1 cap1, .int .i64 a2] w fun e w' => e = .returned (.bool true) ∧ Below w.heap.size w w' := by
  have HLEN0 := Lib.hid h0.len
  have hmx0 := h0.max
  have hle0 := h0.le
  unfold maxLen at hmx0
  have HLEN1 := Lib.hid h1.len
  have hmx1 := h1.max
  have hle1 := h1.le
  unfold maxLen at hmx1
  by_cases hfit0 : (l0.length + sumP l0 : Int) ≤ 1048576
  rotate_left
  · have hr0 := leftP_no hfit0
    have B0 := Lib.hid (Below.refl w.heap.size w)
    go_enter Tryz.func8, Tryz.ntmps8
    go_wp2_with fail
    refine (szPieceS_any x0 n0 cap0 l0 1048576 w.heap.size _ (Lst.more (Lst.below h0 B0.out (Nat.le_refl _)) B0.out.size) (Nat.le_refl _) hz0 (by omega) (by omega)).mono ?_
    rintro e w1 ⟨rfl, hb⟩
    rw [hr0]
    have B0_1 := Lib.hid (B0.out.trans (hb.mono B0.out.size))
    clear hb
    go_wp2_with fail
    go_ret
    exact ⟨rfl, B0_1.out⟩
  obtain ⟨hra0, hrb0, hl0⟩ := leftP_yes hfit0
  obtain ⟨r0, hr0⟩ : ∃ r, leftP l0 1048576 = r := ⟨_, rfl⟩
  rw [hr0] at hra0 hrb0
  have hn0 : n0 ≤ 1048576 := by have := HLEN0.out; omega
  have hzm0 := sumP_mil (show (l0.length + sumP l0 : Int) ≤ 1048576 by omega)
  by_cases hfit1 : (l1.length + sumE l1 : Int) ≤ r0
  rotate_left
  · have hr1 := leftEn_no hfit1
    have B0 := Lib.hid (Below.refl w.heap.size w)
    go_enter Tryz.func8, Tryz.ntmps8
    go_wp2_with fail
    refine (szPieceS_any x0 n0 cap0 l0 1048576 w.heap.size _ (Lst.more (Lst.below h0 B0.out (Nat.le_refl _)) B0.out.size) (Nat.le_refl _) hz0 (by omega) (by omega)).mono ?_
    rintro e w2 ⟨rfl, hb⟩
    rw [hr0]
    have B0_2 := Lib.hid (B0.out.trans (hb.mono B0.out.size))
    clear hb
    go_wp2_with fail
    refine (szChangeS_any x1 n1 cap1 l1 r0 w2.heap.size _ (Lst.more (Lst.below h1 B0_2.out (Nat.le_refl _)) B0_2.out.size) (Nat.le_refl _) hz1 (by omega) (by omega)).mono ?_
    rintro e w3 ⟨rfl, hb⟩
    rw [hr1]
    have B0_3 := Lib.hid (B0_2.out.trans (hb.mono B0_2.out.size))
    clear hb
    go_wp2_with fail
    go_ret
    exact ⟨rfl, B0_3.out⟩
  obtain ⟨hra1, hrb1, hl1⟩ := leftEn_yes hfit1
  obtain ⟨r1, hr1⟩ : ∃ r, leftEn l1 r0 = r := ⟨_, rfl⟩
  rw [hr1] at hra1 hrb1
  have hn1 : n1 ≤ 1048576 := by have := HLEN1.out; omega
  have hzm1 := sumE_mil (show (l1.length + sumE l1 : Int) ≤ 1048576 by omega)
  have B0 := Lib.hid (Below.refl w.heap.size w)
  have HLL := Lib.hid (carryB_len l0 a1 l1 a2)
  go_enter Tryz.func8, Tryz.ntmps8
  go_wp2_with fail
  refine (szPieceS_any x0 n0 cap0 l0 1048576 w.heap.size _ (Lst.more (Lst.below h0 B0.out (Nat.le_refl _)) B0.out.size) (Nat.le_refl _) hz0 (by omega) (by omega)).mono ?_
  rintro e w4 ⟨rfl, hb⟩
  rw [hr0]
  have B0_4 := Lib.hid (B0.out.trans (hb.mono B0.out.size))
  clear hb
  go_wp2_with fail
  refine (szChangeS_any x1 n1 cap1 l1 r0 w4.heap.size _ (Lst.more (Lst.below h1 B0_4.out (Nat.le_refl _)) B0_4.out.size) (Nat.le_refl _) hz1 (by omega) (by omega)).mono ?_
  rintro e w5 ⟨rfl, hb⟩
  rw [hr1]
  have B0_5 := Lib.hid (B0_4.out.trans (hb.mono B0_4.out.size))
  clear hb
  go_wp2_with fail
  refine (toPieceS_any _ _ _ _ _ (Lst.more (Lst.below h0 B0_5.out (Nat.le_refl _)) B0_5.out.size) hn0).mono ?_
  rintro e w6 ⟨v, rfl, ho, hb⟩
  obtain ⟨yT0, mT0, cT0, rfl, hi⟩ := ho.lst
  have OT0 := Lib.hid ho; have IT0 := Lib.hid hi; clear ho hi
  have B0_6 := Lib.hid (B0_5.out.trans (hb.mono B0_5.out.size))
  clear hb
  have BT0 := Lib.hid (Below.refl w6.heap.size w6)
  go_wp2_with fail
  refine (toChangeS_any _ _ _ _ _ (Lst.more (Lst.below h1 B0_6.out (Nat.le_refl _)) B0_6.out.size) hn1).mono ?_
  rintro e w7 ⟨v, rfl, ho, hb⟩
  obtain ⟨yT1, mT1, cT1, rfl, hi⟩ := ho.lst
  have OT1 := Lib.hid ho; have IT1 := Lib.hid hi; clear ho hi
  have B0_7 := Lib.hid (B0_6.out.trans (hb.mono B0_6.out.size))
  have BT0_7 := Lib.hid (BT0.out.trans (hb.mono BT0.out.size))
  clear hb
  have BT1 := Lib.hid (Below.refl w7.heap.size w7)
  go_wp2_with fail
  refine (specCarryChanges_any _ _ _ l0 a1 _ _ _ l1 a2 _ _ _ (Lst.more (Lst.below IT0.out BT0_7.out (Nat.le_refl _)) BT0_7.out.size) (Lst.more (Lst.below IT1.out BT1.out (Nat.le_refl _)) BT1.out.size) (Nat.le_refl _) (Nat.le_refl _) hzm0 hzm1).mono ?_
  rintro e w8 ⟨yW, mW, cW, rfl, hi, hb⟩
  have IW := Lib.hid hi; clear hi
  have B0_8 := Lib.hid (B0_7.out.trans (hb.mono B0_7.out.size))
  have BT0_8 := Lib.hid (BT0_7.out.trans (hb.mono BT0_7.out.size))
  have BT1_8 := Lib.hid (BT1.out.trans (hb.mono BT1.out.size))
  clear hb
  have BW := Lib.hid (Below.refl w8.heap.size w8)
  have LW0 := Lib.hid B0_8.out.size
  have U0 := Lib.hid BW.out.size
  go_wp2_with fail
  refine (toPieceS_any _ _ _ _ _ (Lst.more (Lst.below h0 B0_8.out (Nat.le_refl _)) B0_8.out.size) hn0).mono ?_
  rintro e w9 ⟨v, rfl, ho, hb⟩
  obtain ⟨yX0, mX0, cX0, rfl, hi⟩ := ho.lst
  have OX0 := Lib.hid ho; have IX0 := Lib.hid hi; clear ho hi
  have B0_9 := Lib.hid (B0_8.out.trans (hb.mono B0_8.out.size))
  have BW_9 := Lib.hid (BW.out.trans (hb.mono BW.out.size))
  clear hb
  have BX0 := Lib.hid (Below.refl w9.heap.size w9)
  have U1 := Lib.hid BW_9.out.size
  have LX0_1 := Lib.hid BX0.out.size
  go_wp2_with fail
  refine (toChangeS_any _ _ _ _ _ (Lst.more (Lst.below h1 B0_9.out (Nat.le_refl _)) B0_9.out.size) hn1).mono ?_
  rintro e w10 ⟨v, rfl, ho, hb⟩
  obtain ⟨yX1, mX1, cX1, rfl, hi⟩ := ho.lst
  have OX1 := Lib.hid ho; have IX1 := Lib.hid hi; clear ho hi
  have B0_10 := Lib.hid (B0_9.out.trans (hb.mono B0_9.out.size))
  have BW_10 := Lib.hid (BW_9.out.trans (hb.mono BW_9.out.size))
  have BX0_10 := Lib.hid (BX0.out.trans (hb.mono BX0.out.size))
  clear hb
  have BX1 := Lib.hid (Below.refl w10.heap.size w10)
  have UG := Lib.hid BW_10.out.size
  have LG0 := Lib.hid BX0_10.out.size
  have LG1 := Lib.hid BX1.out.size
  go_wp2_with fail
  refine (implCarryChanges_any _ _ _ l0 a1 _ _ _ l1 a2 _ _ _ (Lst.more (Lst.below IX0.out BX0_10.out (Nat.le_refl _)) BX0_10.out.size) (Lst.more (Lst.below IX1.out BX1.out (Nat.le_refl _)) BX1.out.size) (Nat.le_refl _) (Nat.le_refl _) hzm0 hzm1).mono ?_
  rintro e w11 ⟨v, rfl, ho, hb⟩
  obtain ⟨yG, mG, cG, rfl, hi⟩ := ho.lst
  have OG := Lib.hid ho; have IG := Lib.hid hi; clear ho hi
  have B0_11 := Lib.hid (B0_10.out.trans (hb.mono B0_10.out.size))
  have BW_11 := Lib.hid (BW_10.out.trans (hb.mono BW_10.out.size))
  have BX0_11 := Lib.hid (BX0_10.out.trans (hb.mono BX0_10.out.size))
  have BX1_11 := Lib.hid (BX1.out.trans (hb.mono BX1.out.size))
  clear hb
  have BG := Lib.hid (Below.refl w11.heap.size w11)
  have hG : mG ≤ 1000000 := by have h1 := IG.out.len; have h2 := HLL.out; omega
  have HLG := Lib.hid IG.out.len
  have hX0 : mX0 ≤ 1048576 := by have h1 := IX0.out.len; have h2 := HLEN0.out; omega
  have HLX0 := Lib.hid IX0.out.len
  have hX1 : mX1 ≤ 1048576 := by have h1 := IX1.out.len; have h2 := HLEN1.out; omega
  have HLX1 := Lib.hid IX1.out.len
  have D0 := Lib.hid (show ∀ q, (Value.slice yX0 mX0 cX0).ownBlock = some q → q < w9.heap.size from fun q hq => OwnL.ltSize OX0.out hq)
  have D1 := Lib.hid (show ∀ q, (Value.slice yX1 mX1 cX1).ownBlock = some q → q < w10.heap.size from fun q hq => OwnL.ltSize OX1.out hq)
  go_wp2_with fail
  refine (eqPieceS_any _ _ _ _ _ _ _ _ w11.heap.size _ (Lst.more (Lst.below IG.out BG.out (Nat.le_refl _)) BG.out.size) (Lst.more (Lst.below IW.out BW_11.out (Nat.le_refl _)) BW_11.out.size) (Nat.le_refl _)).mono ?_
  rintro e w12 ⟨rfl, hb⟩
  have B0_12 := Lib.hid (B0_11.out.trans (hb.mono B0_11.out.size))
  have BW_12 := Lib.hid (BW_11.out.trans (hb.mono BW_11.out.size))
  have BX0_12 := Lib.hid (BX0_11.out.trans (hb.mono BX0_11.out.size))
  have BX1_12 := Lib.hid (BX1_11.out.trans (hb.mono BX1_11.out.size))
  have BG_12 := Lib.hid (BG.out.trans (hb.mono BG.out.size))
  clear hb
  go_wp2_with fail
  refine (toPieceS_any _ _ _ _ _ (Lst.more (Lst.below h0 B0_12.out (Nat.le_refl _)) B0_12.out.size) hn0).mono ?_
  rintro e w13 ⟨v, rfl, ho, hb⟩
  obtain ⟨yZ0, mZ0, cZ0, rfl, hi⟩ := ho.lst
  have OZ0 := Lib.hid ho; have IZ0 := Lib.hid hi; clear ho hi
  have B0_13 := Lib.hid (B0_12.out.trans (hb.mono B0_12.out.size))
  have BW_13 := Lib.hid (BW_12.out.trans (hb.mono BW_12.out.size))
  have BX0_13 := Lib.hid (BX0_12.out.trans (hb.mono BX0_12.out.size))
  have BX1_13 := Lib.hid (BX1_12.out.trans (hb.mono BX1_12.out.size))
  have BG_13 := Lib.hid (BG_12.out.trans (hb.mono BG_12.out.size))
  clear hb
  have BZ0 := Lib.hid (Below.refl w13.heap.size w13)
  go_wp2_with fail
  refine (eqPieceS_any _ _ _ _ _ _ _ _ w13.heap.size _ (Lst.more (Lst.below IX0.out BX0_13.out (Nat.le_refl _)) BX0_13.out.size) (Lst.more (Lst.below IZ0.out BZ0.out (Nat.le_refl _)) BZ0.out.size) (Nat.le_refl _)).mono ?_
  rintro e w14 ⟨rfl, hb⟩
  have B0_14 := Lib.hid (B0_13.out.trans (hb.mono B0_13.out.size))
  have BW_14 := Lib.hid (BW_13.out.trans (hb.mono BW_13.out.size))
  have BX0_14 := Lib.hid (BX0_13.out.trans (hb.mono BX0_13.out.size))
  have BX1_14 := Lib.hid (BX1_13.out.trans (hb.mono BX1_13.out.size))
  have BG_14 := Lib.hid (BG_13.out.trans (hb.mono BG_13.out.size))
  have BZ0_14 := Lib.hid (BZ0.out.trans (hb.mono BZ0.out.size))
  clear hb
  go_wp2_with fail
  refine (toChangeS_any _ _ _ _ _ (Lst.more (Lst.below h1 B0_14.out (Nat.le_refl _)) B0_14.out.size) hn1).mono ?_
  rintro e w15 ⟨v, rfl, ho, hb⟩
  obtain ⟨yZ1, mZ1, cZ1, rfl, hi⟩ := ho.lst
  have OZ1 := Lib.hid ho; have IZ1 := Lib.hid hi; clear ho hi
  have B0_15 := Lib.hid (B0_14.out.trans (hb.mono B0_14.out.size))
  have BW_15 := Lib.hid (BW_14.out.trans (hb.mono BW_14.out.size))
  have BX0_15 := Lib.hid (BX0_14.out.trans (hb.mono BX0_14.out.size))
  have BX1_15 := Lib.hid (BX1_14.out.trans (hb.mono BX1_14.out.size))
  have BG_15 := Lib.hid (BG_14.out.trans (hb.mono BG_14.out.size))
  clear hb
  have BZ1 := Lib.hid (Below.refl w15.heap.size w15)
  go_wp2_with fail
  refine (eqChangeS_any _ _ _ _ _ _ _ _ w15.heap.size _ (Lst.more (Lst.below IX1.out BX1_15.out (Nat.le_refl _)) BX1_15.out.size) (Lst.more (Lst.below IZ1.out BZ1.out (Nat.le_refl _)) BZ1.out.size) (Nat.le_refl _)).mono ?_
  rintro e w16 ⟨rfl, hb⟩
  have B0_16 := Lib.hid (B0_15.out.trans (hb.mono B0_15.out.size))
  have BW_16 := Lib.hid (BW_15.out.trans (hb.mono BW_15.out.size))
  have BX0_16 := Lib.hid (BX0_15.out.trans (hb.mono BX0_15.out.size))
  have BX1_16 := Lib.hid (BX1_15.out.trans (hb.mono BX1_15.out.size))
  have BG_16 := Lib.hid (BG_15.out.trans (hb.mono BG_15.out.size))
  have BZ1_16 := Lib.hid (BZ1.out.trans (hb.mono BZ1.out.size))
  clear hb
  have OM17 := Lib.hid (OwnL.below OX0.out BX0_16.out)
  go_wp2_with fail
  refine (markPieceS_any _ _ _ _ _ 1 _ OM17.out HLX0.out (by omega) (by omega) (by omega)).mono ?_
  rintro e w17 ⟨rfl, ho, hg⟩
  have OG_0 := Lib.hid (OwnL.keptLt (OwnL.below OG.out BG_16.out) hg (fun q e => Nat.lt_of_lt_of_le (D0.out q e) LG0.out))
  have OX1_0 := Lib.hid (OwnL.keptLt (OwnL.below OX1.out BX1_16.out) hg (fun q e => Nat.lt_of_lt_of_le (D0.out q e) LX0_1.out))
  have B0_17 := Lib.hid (B0_16.out.grown hg B0_16.out.size (fun q e => Nat.le_trans (Nat.le_trans LW0.out U0.out) (OwnL.at OM17.out q e)))
  have BW_17 := Lib.hid (BW_16.out.grown hg BW_16.out.size (fun q e => Nat.le_trans (U0.out) (OwnL.at OM17.out q e)))
  clear ho hg
  have BG_m0 := Lib.hid (Below.refl w17.heap.size w17)
  have BX1_m0 := Lib.hid (Below.refl w17.heap.size w17)
  have OM18 := Lib.hid (OwnL.below OX1_0.out BX1_m0.out)
  go_wp2_with fail
  refine (markChangeS_any _ _ _ _ _ _ _ OM18.out HLX1.out (by omega) (by omega) (by omega)).mono ?_
  rintro e w18 ⟨rfl, ho, hg⟩
  have OG_1 := Lib.hid (OwnL.keptLt (OwnL.below OG_0.out BG_m0.out) hg (fun q e => Nat.lt_of_lt_of_le (D1.out q e) LG1.out))
  have B0_18 := Lib.hid (B0_17.out.grown hg B0_17.out.size (fun q e => Nat.le_trans (Nat.le_trans LW0.out U1.out) (OwnL.at OM18.out q e)))
  have BW_18 := Lib.hid (BW_17.out.grown hg BW_17.out.size (fun q e => Nat.le_trans (U1.out) (OwnL.at OM18.out q e)))
  clear ho hg
  have BG_m1 := Lib.hid (Below.refl w18.heap.size w18)
  go_wp2_with fail
  refine (eqPieceS_any _ _ _ _ _ _ _ _ w18.heap.size _ (OwnL.lst' (OwnL.below OG_1.out BG_m1.out)) (Lst.more (Lst.below IW.out BW_18.out (Nat.le_refl _)) BW_18.out.size) (Nat.le_refl _)).mono ?_
  rintro e w19 ⟨rfl, hb⟩
  have B0_19 := Lib.hid (B0_18.out.trans (hb.mono B0_18.out.size))
  have BW_19 := Lib.hid (BW_18.out.trans (hb.mono BW_18.out.size))
  have BG_19 := Lib.hid (BG_m1.out.trans (hb.mono BG_m1.out.size))
  clear hb
  have OM20 := Lib.hid (OwnL.below OG_1.out BG_19.out)
  go_wp2_with fail
  refine (markPieceS_any _ _ _ _ _ 1 _ OM20.out HLG.out (by omega) (by omega) (by omega)).mono ?_
  rintro e w20 ⟨rfl, ho, hg⟩
  have B0_20 := Lib.hid (B0_19.out.grown hg B0_19.out.size (fun q e => Nat.le_trans (Nat.le_trans LW0.out UG.out) (OwnL.at OM20.out q e)))
  have BW_20 := Lib.hid (BW_19.out.grown hg BW_19.out.size (fun q e => Nat.le_trans (UG.out) (OwnL.at OM20.out q e)))
  have OM := Lib.hid ho; clear ho hg
  have BM := Lib.hid (Below.refl w20.heap.size w20)
  go_wp2_with fail
  refine (heldPieceS_any _ _ _ 1 w20.heap.size _ (OwnL.lst' (OwnL.below OM.out BM.out)) (Nat.le_refl _) (by omega) (by omega) (by omega)).mono ?_
  rintro e w21 ⟨rfl, hb⟩
  have B0_21 := Lib.hid (B0_20.out.trans (hb.mono B0_20.out.size))
  have BW_21 := Lib.hid (BW_20.out.trans (hb.mono BW_20.out.size))
  have BM_21 := Lib.hid (BM.out.trans (hb.mono BM.out.size))
  clear hb
  go_wp2_with fail
  refine (toPieceS_any _ _ _ _ _ (Lst.more (Lst.below h0 B0_21.out (Nat.le_refl _)) B0_21.out.size) hn0).mono ?_
  rintro e w22 ⟨v, rfl, ho, hb⟩
  obtain ⟨yV0, mV0, cV0, rfl, hi⟩ := ho.lst
  have OV0 := Lib.hid ho; have IV0 := Lib.hid hi; clear ho hi
  have B0_22 := Lib.hid (B0_21.out.trans (hb.mono B0_21.out.size))
  have BW_22 := Lib.hid (BW_21.out.trans (hb.mono BW_21.out.size))
  have BM_22 := Lib.hid (BM_21.out.trans (hb.mono BM_21.out.size))
  clear hb
  have BV0 := Lib.hid (Below.refl w22.heap.size w22)
  go_wp2_with fail
  refine (toChangeS_any _ _ _ _ _ (Lst.more (Lst.below h1 B0_22.out (Nat.le_refl _)) B0_22.out.size) hn1).mono ?_
  rintro e w23 ⟨v, rfl, ho, hb⟩
  obtain ⟨yV1, mV1, cV1, rfl, hi⟩ := ho.lst
  have OV1 := Lib.hid ho; have IV1 := Lib.hid hi; clear ho hi
  have B0_23 := Lib.hid (B0_22.out.trans (hb.mono B0_22.out.size))
  have BW_23 := Lib.hid (BW_22.out.trans (hb.mono BW_22.out.size))
  have BM_23 := Lib.hid (BM_22.out.trans (hb.mono BM_22.out.size))
  have BV0_23 := Lib.hid (BV0.out.trans (hb.mono BV0.out.size))
  clear hb
  have BV1 := Lib.hid (Below.refl w23.heap.size w23)
  go_wp2_with fail
  refine (implCarryChanges_any _ _ _ l0 a1 _ _ _ l1 a2 _ _ _ (Lst.more (Lst.below IV0.out BV0_23.out (Nat.le_refl _)) BV0_23.out.size) (Lst.more (Lst.below IV1.out BV1.out (Nat.le_refl _)) BV1.out.size) (Nat.le_refl _) (Nat.le_refl _) hzm0 hzm1).mono ?_
  rintro e w24 ⟨v, rfl, ho, hb⟩
  obtain ⟨yH, mH, cH, rfl, hi⟩ := ho.lst
  have OH := Lib.hid ho; have IH := Lib.hid hi; clear ho hi
  have B0_24 := Lib.hid (B0_23.out.trans (hb.mono B0_23.out.size))
  have BW_24 := Lib.hid (BW_23.out.trans (hb.mono BW_23.out.size))
  have BM_24 := Lib.hid (BM_23.out.trans (hb.mono BM_23.out.size))
  have BV0_24 := Lib.hid (BV0_23.out.trans (hb.mono BV0_23.out.size))
  have BV1_24 := Lib.hid (BV1.out.trans (hb.mono BV1.out.size))
  clear hb
  have BH := Lib.hid (Below.refl w24.heap.size w24)
  go_wp2_with fail
  refine (eqPieceS_any _ _ _ _ _ _ _ _ w24.heap.size _ (Lst.more (Lst.below IH.out BH.out (Nat.le_refl _)) BH.out.size) (Lst.more (Lst.below IW.out BW_24.out (Nat.le_refl _)) BW_24.out.size) (Nat.le_refl _)).mono ?_
  rintro e w25 ⟨rfl, hb⟩
  have B0_25 := Lib.hid (B0_24.out.trans (hb.mono B0_24.out.size))
  have BW_25 := Lib.hid (BW_24.out.trans (hb.mono BW_24.out.size))
  have BM_25 := Lib.hid (BM_24.out.trans (hb.mono BM_24.out.size))
  have BV0_25 := Lib.hid (BV0_24.out.trans (hb.mono BV0_24.out.size))
  have BV1_25 := Lib.hid (BV1_24.out.trans (hb.mono BV1_24.out.size))
  have BH_25 := Lib.hid (BH.out.trans (hb.mono BH.out.size))
  clear hb
  go_wp2_with fail
  refine (heldPieceS_any _ _ _ 1 w25.heap.size _ (OwnL.lst' (OwnL.below OM.out BM_25.out)) (Nat.le_refl _) (by omega) (by omega) (by omega)).mono ?_
  rintro e w26 ⟨rfl, hb⟩
  have B0_26 := Lib.hid (B0_25.out.trans (hb.mono B0_25.out.size))
  have BW_26 := Lib.hid (BW_25.out.trans (hb.mono BW_25.out.size))
  have BM_26 := Lib.hid (BM_25.out.trans (hb.mono BM_25.out.size))
  have BV0_26 := Lib.hid (BV0_25.out.trans (hb.mono BV0_25.out.size))
  have BV1_26 := Lib.hid (BV1_25.out.trans (hb.mono BV1_25.out.size))
  have BH_26 := Lib.hid (BH_25.out.trans (hb.mono BH_25.out.size))
  clear hb
  go_wp2_with fail
  go_ret
  exact ⟨ret_bool (by simp), B0_26.out⟩
end Go.Proofs.YtglajbmopiolhaaGreatDoor
