/-
  The walks of chapter 5's exact laws.
-/
import Derived.Test.YtlbebbkkpjgboaaTrees4
import Derived.Test.YtlbebbkkpjgboaaMarks
import Derived.Test.YtlbebbkkpjgboaaArgsP
namespace Go.Proofs.Ytlbebbkkpjgboaa
open Go.RowKit
set_option linter.unusedVariables false
theorem OwnI.keptLt {w w' : World} {base : Nat} {v : Value} {l : List Int} {r : Option Nat} (h : OwnI w base v l) (hg : w.grownBy w' r) (hr : ∀ k, r = some k → k < base) : OwnI w' base v l :=
  World.ownsRow.kept h hg (by
    cases hv : v.ownBlock with
    | none => exact .inl rfl
    | some k => exact .inr fun e => by have h1 := own_at h hv; have h2 := hr k e.symm; omega)
theorem OwnI.ltSize {w : World} {base : Nat} {v : Value} {l : List Int} (h : OwnI w base v l) {k : Nat} (hk : v.ownBlock = some k) : k < w.heap.size := (World.ownsRow.lt h k hk).2
theorem provB_len' (l : List Int) (n : Int) : (provB l n).length ≤ 1000000 := Nat.le_trans (provB_len l n) (by decide)
set_option maxHeartbeats 1000000 in
theorem fnExactTreeRoot_any (x0 : Option Addr) (n0 cap0 : Nat) (l0 : List Int) (w : World) (h0 : Ints w w.heap.size x0 n0 cap0 l0) : Calls Try.prog 7 #[.slice x0 n0 cap0] w fun e w' => e = .returned (.bool true) ∧ Below w.heap.size w w' := by
  have HLEN0 := Lib.hid h0.len
  have hmx0 := h0.max
  have hle0 := h0.le
  unfold maxLen at hmx0
  by_cases hlong0 : 1048576 < (n0 : Int)
  · go_enter Try.func7, Try.ntmps7
    go_wp2
    go_ret
    exact ⟨rfl, Below.refl _ _⟩
  have hn0 : n0 ≤ 1048576 := by omega
  have B0 := Lib.hid (Below.refl w.heap.size w)
  go_enter Try.func7, Try.ntmps7
  go_wp2_with fail
  refine (toIntS_any _ _ _ _ _ (Ints.more (Ints.below h0 B0.out (Nat.le_refl _)) B0.out.size) hn0).mono ?_
  rintro e w1 ⟨v, rfl, ho, hb⟩
  obtain ⟨yT0, mT0, cT0, rfl, hi⟩ := ho.ints
  have OT0 := Lib.hid ho; have IT0 := Lib.hid hi; clear ho hi
  have B0_1 := Lib.hid (B0.out.trans (hb.mono B0.out.size))
  clear hb
  have BT0 := Lib.hid (Below.refl w1.heap.size w1)
  go_wp2_with fail
  refine (specTreeRoot_any _ _ _ l0 _ (Ints.more (Ints.below IT0.out BT0.out (Nat.le_refl _)) BT0.out.size)).mono ?_
  rintro e w2 ⟨rfl, hb⟩
  have B0_2 := Lib.hid (B0_1.out.trans (hb.mono B0_1.out.size))
  have BT0_2 := Lib.hid (BT0.out.trans (hb.mono BT0.out.size))
  clear hb
  go_wp2_with fail
  refine (toIntS_any _ _ _ _ _ (Ints.more (Ints.below h0 B0_2.out (Nat.le_refl _)) B0_2.out.size) hn0).mono ?_
  rintro e w3 ⟨v, rfl, ho, hb⟩
  obtain ⟨yX0, mX0, cX0, rfl, hi⟩ := ho.ints
  have OX0 := Lib.hid ho; have IX0 := Lib.hid hi; clear ho hi
  have B0_3 := Lib.hid (B0_2.out.trans (hb.mono B0_2.out.size))
  clear hb
  have BX0 := Lib.hid (Below.refl w3.heap.size w3)
  go_wp2_with fail
  refine (treeRoot_any _ _ _ l0 _ (Ints.more (Ints.below IX0.out BX0.out (Nat.le_refl _)) BX0.out.size)).mono ?_
  rintro e w4 ⟨rfl, hb⟩
  have B0_4 := Lib.hid (B0_3.out.trans (hb.mono B0_3.out.size))
  have BX0_4 := Lib.hid (BX0.out.trans (hb.mono BX0.out.size))
  clear hb
  go_wp2_with fail
  refine (toIntS_any _ _ _ _ _ (Ints.more (Ints.below h0 B0_4.out (Nat.le_refl _)) B0_4.out.size) hn0).mono ?_
  rintro e w5 ⟨v, rfl, ho, hb⟩
  obtain ⟨yZ0, mZ0, cZ0, rfl, hi⟩ := ho.ints
  have OZ0 := Lib.hid ho; have IZ0 := Lib.hid hi; clear ho hi
  have B0_5 := Lib.hid (B0_4.out.trans (hb.mono B0_4.out.size))
  have BX0_5 := Lib.hid (BX0_4.out.trans (hb.mono BX0_4.out.size))
  clear hb
  have BZ0 := Lib.hid (Below.refl w5.heap.size w5)
  go_wp2_with fail
  refine (eqIntS_any _ _ _ _ _ _ _ _ _ _ (Ints.more (Ints.below IX0.out BX0_5.out (Nat.le_refl _)) BX0_5.out.size) (Ints.more (Ints.below IZ0.out BZ0.out (Nat.le_refl _)) BZ0.out.size)).mono ?_
  rintro e w6 hq
  have hb := hq.below
  obtain ⟨rfl, _⟩ := hq
  have B0_6 := Lib.hid (B0_5.out.trans (hb.mono B0_5.out.size))
  have BX0_6 := Lib.hid (BX0_5.out.trans (hb.mono BX0_5.out.size))
  have BZ0_6 := Lib.hid (BZ0.out.trans (hb.mono BZ0.out.size))
  clear hb
  go_wp2_with fail
  go_ret
  exact ⟨ret_bool (by simp), B0_6.out⟩
set_option maxHeartbeats 1000000 in
theorem fnExactTreeProof_any (x0 : Option Addr) (n0 cap0 : Nat) (l0 : List Int) (a1 : Int) (w : World) (h0 : Ints w w.heap.size x0 n0 cap0 l0) : Calls Try.prog 8 #[.slice x0 n0 cap0, .int .i64 a1] w fun e w' => e = .returned (.bool true) ∧ Below w.heap.size w w' := by
  have HLEN0 := Lib.hid h0.len
  have hmx0 := h0.max
  have hle0 := h0.le
  unfold maxLen at hmx0
  by_cases hlong0 : 1048576 < (n0 : Int)
  · go_enter Try.func8, Try.ntmps8
    go_wp2
    go_ret
    exact ⟨rfl, Below.refl _ _⟩
  have hn0 : n0 ≤ 1048576 := by omega
  have B0 := Lib.hid (Below.refl w.heap.size w)
  have HLL := Lib.hid (provB_len' l0 a1)
  go_enter Try.func8, Try.ntmps8
  go_wp2_with fail
  refine (toIntS_any _ _ _ _ _ (Ints.more (Ints.below h0 B0.out (Nat.le_refl _)) B0.out.size) hn0).mono ?_
  rintro e w1 ⟨v, rfl, ho, hb⟩
  obtain ⟨yT0, mT0, cT0, rfl, hi⟩ := ho.ints
  have OT0 := Lib.hid ho; have IT0 := Lib.hid hi; clear ho hi
  have B0_1 := Lib.hid (B0.out.trans (hb.mono B0.out.size))
  clear hb
  have BT0 := Lib.hid (Below.refl w1.heap.size w1)
  go_wp2_with fail
  refine (specTreeProof_any _ _ _ l0 a1 _ (Ints.more (Ints.below IT0.out BT0.out (Nat.le_refl _)) BT0.out.size) (.inr trivial)).mono ?_
  rintro e w2 ⟨v, rfl, ho, hb⟩
  obtain ⟨yW, mW, cW, rfl, hi⟩ := ho.ints
  have OW := Lib.hid ho; have IW := Lib.hid hi; clear ho hi
  have B0_2 := Lib.hid (B0_1.out.trans (hb.mono B0_1.out.size))
  have BT0_2 := Lib.hid (BT0.out.trans (hb.mono BT0.out.size))
  clear hb
  have BW := Lib.hid (Below.refl w2.heap.size w2)
  have LW0 := Lib.hid B0_2.out.size
  have U0 := Lib.hid BW.out.size
  go_wp2_with fail
  refine (toIntS_any _ _ _ _ _ (Ints.more (Ints.below h0 B0_2.out (Nat.le_refl _)) B0_2.out.size) hn0).mono ?_
  rintro e w3 ⟨v, rfl, ho, hb⟩
  obtain ⟨yX0, mX0, cX0, rfl, hi⟩ := ho.ints
  have OX0 := Lib.hid ho; have IX0 := Lib.hid hi; clear ho hi
  have B0_3 := Lib.hid (B0_2.out.trans (hb.mono B0_2.out.size))
  have BW_3 := Lib.hid (BW.out.trans (hb.mono BW.out.size))
  clear hb
  have BX0 := Lib.hid (Below.refl w3.heap.size w3)
  have UG := Lib.hid BW_3.out.size
  have LG0 := Lib.hid BX0.out.size
  go_wp2_with fail
  refine (treeProof_any _ _ _ l0 a1 _ (Ints.more (Ints.below IX0.out BX0.out (Nat.le_refl _)) BX0.out.size)).mono ?_
  rintro e w4 ⟨v, rfl, ho, hb⟩
  obtain ⟨yG, mG, cG, rfl, hi⟩ := ho.ints
  have OG := Lib.hid ho; have IG := Lib.hid hi; clear ho hi
  have B0_4 := Lib.hid (B0_3.out.trans (hb.mono B0_3.out.size))
  have BW_4 := Lib.hid (BW_3.out.trans (hb.mono BW_3.out.size))
  have BX0_4 := Lib.hid (BX0.out.trans (hb.mono BX0.out.size))
  clear hb
  have BG := Lib.hid (Below.refl w4.heap.size w4)
  have hG : mG ≤ 1000000 := by have h1 := IG.out.len; have h2 := HLL.out; omega
  have HLG := Lib.hid IG.out.len
  have hX0 : mX0 ≤ 1048576 := by have h1 := IX0.out.len; have h2 := HLEN0.out; omega
  have HLX0 := Lib.hid IX0.out.len
  have D0 := Lib.hid (show ∀ q, (Value.slice yX0 mX0 cX0).ownBlock = some q → q < w3.heap.size from fun q hq => OwnI.ltSize OX0.out hq)
  go_wp2_with fail
  refine (eqIntS_any _ _ _ _ _ _ _ _ _ _ (Ints.more (Ints.below IG.out BG.out (Nat.le_refl _)) BG.out.size) (Ints.more (Ints.below IW.out BW_4.out (Nat.le_refl _)) BW_4.out.size)).mono ?_
  rintro e w5 hq
  have hb := hq.below
  obtain ⟨rfl, _⟩ := hq
  have B0_5 := Lib.hid (B0_4.out.trans (hb.mono B0_4.out.size))
  have BW_5 := Lib.hid (BW_4.out.trans (hb.mono BW_4.out.size))
  have BX0_5 := Lib.hid (BX0_4.out.trans (hb.mono BX0_4.out.size))
  have BG_5 := Lib.hid (BG.out.trans (hb.mono BG.out.size))
  clear hb
  go_wp2_with fail
  refine (toIntS_any _ _ _ _ _ (Ints.more (Ints.below h0 B0_5.out (Nat.le_refl _)) B0_5.out.size) hn0).mono ?_
  rintro e w6 ⟨v, rfl, ho, hb⟩
  obtain ⟨yZ0, mZ0, cZ0, rfl, hi⟩ := ho.ints
  have OZ0 := Lib.hid ho; have IZ0 := Lib.hid hi; clear ho hi
  have B0_6 := Lib.hid (B0_5.out.trans (hb.mono B0_5.out.size))
  have BW_6 := Lib.hid (BW_5.out.trans (hb.mono BW_5.out.size))
  have BX0_6 := Lib.hid (BX0_5.out.trans (hb.mono BX0_5.out.size))
  have BG_6 := Lib.hid (BG_5.out.trans (hb.mono BG_5.out.size))
  clear hb
  have BZ0 := Lib.hid (Below.refl w6.heap.size w6)
  go_wp2_with fail
  refine (eqIntS_any _ _ _ _ _ _ _ _ _ _ (Ints.more (Ints.below IX0.out BX0_6.out (Nat.le_refl _)) BX0_6.out.size) (Ints.more (Ints.below IZ0.out BZ0.out (Nat.le_refl _)) BZ0.out.size)).mono ?_
  rintro e w7 hq
  have hb := hq.below
  obtain ⟨rfl, _⟩ := hq
  have B0_7 := Lib.hid (B0_6.out.trans (hb.mono B0_6.out.size))
  have BW_7 := Lib.hid (BW_6.out.trans (hb.mono BW_6.out.size))
  have BX0_7 := Lib.hid (BX0_6.out.trans (hb.mono BX0_6.out.size))
  have BG_7 := Lib.hid (BG_6.out.trans (hb.mono BG_6.out.size))
  have BZ0_7 := Lib.hid (BZ0.out.trans (hb.mono BZ0.out.size))
  clear hb
  have OM8 := Lib.hid (OwnI.below OX0.out BX0_7.out)
  go_wp2_with fail
  refine (markIntS_any _ _ _ _ _ 1 _ OM8.out HLX0.out (by omega) (by omega) (by omega)).mono ?_
  rintro e w8 ⟨rfl, ho, hg⟩
  have OG_0 := Lib.hid (OwnI.keptLt (OwnI.below OG.out BG_7.out) hg (fun q e => Nat.lt_of_lt_of_le (D0.out q e) LG0.out))
  have B0_8 := Lib.hid (B0_7.out.grown hg B0_7.out.size (fun q e => Nat.le_trans (Nat.le_trans LW0.out U0.out) (OwnI.at OM8.out q e)))
  have BW_8 := Lib.hid (BW_7.out.grown hg BW_7.out.size (fun q e => Nat.le_trans (U0.out) (OwnI.at OM8.out q e)))
  clear ho hg
  have BG_m0 := Lib.hid (Below.refl w8.heap.size w8)
  go_wp2_with fail
  refine (eqIntS_any _ _ _ _ _ _ _ _ _ _ (OwnI.ints' (OwnI.below OG_0.out BG_m0.out)) (Ints.more (Ints.below IW.out BW_8.out (Nat.le_refl _)) BW_8.out.size)).mono ?_
  rintro e w9 hq
  have hb := hq.below
  obtain ⟨rfl, _⟩ := hq
  have B0_9 := Lib.hid (B0_8.out.trans (hb.mono B0_8.out.size))
  have BW_9 := Lib.hid (BW_8.out.trans (hb.mono BW_8.out.size))
  have BG_9 := Lib.hid (BG_m0.out.trans (hb.mono BG_m0.out.size))
  clear hb
  have OM10 := Lib.hid (OwnI.below OG_0.out BG_9.out)
  go_wp2_with fail
  refine (markIntS_any _ _ _ _ _ 1 _ OM10.out HLG.out (by omega) (by omega) (by omega)).mono ?_
  rintro e w10 ⟨rfl, ho, hg⟩
  have B0_10 := Lib.hid (B0_9.out.grown hg B0_9.out.size (fun q e => Nat.le_trans (Nat.le_trans LW0.out UG.out) (OwnI.at OM10.out q e)))
  have BW_10 := Lib.hid (BW_9.out.grown hg BW_9.out.size (fun q e => Nat.le_trans (UG.out) (OwnI.at OM10.out q e)))
  have OM := Lib.hid ho; clear ho hg
  have BM := Lib.hid (Below.refl w10.heap.size w10)
  go_wp2_with fail
  refine (heldIntS_any _ _ _ 1 w10.heap.size _ (OwnI.ints' (OwnI.below OM.out BM.out)) (by omega) (by omega) (by omega)).mono ?_
  rintro e w' ⟨rfl, rfl⟩
  go_wp2_with fail
  refine (toIntS_any _ _ _ _ _ (Ints.more (Ints.below h0 B0_10.out (Nat.le_refl _)) B0_10.out.size) hn0).mono ?_
  rintro e w11 ⟨v, rfl, ho, hb⟩
  obtain ⟨yV0, mV0, cV0, rfl, hi⟩ := ho.ints
  have OV0 := Lib.hid ho; have IV0 := Lib.hid hi; clear ho hi
  have B0_11 := Lib.hid (B0_10.out.trans (hb.mono B0_10.out.size))
  have BW_11 := Lib.hid (BW_10.out.trans (hb.mono BW_10.out.size))
  have BM_11 := Lib.hid (BM.out.trans (hb.mono BM.out.size))
  clear hb
  have BV0 := Lib.hid (Below.refl w11.heap.size w11)
  go_wp2_with fail
  refine (treeProof_any _ _ _ l0 a1 _ (Ints.more (Ints.below IV0.out BV0.out (Nat.le_refl _)) BV0.out.size)).mono ?_
  rintro e w12 ⟨v, rfl, ho, hb⟩
  obtain ⟨yH, mH, cH, rfl, hi⟩ := ho.ints
  have OH := Lib.hid ho; have IH := Lib.hid hi; clear ho hi
  have B0_12 := Lib.hid (B0_11.out.trans (hb.mono B0_11.out.size))
  have BW_12 := Lib.hid (BW_11.out.trans (hb.mono BW_11.out.size))
  have BM_12 := Lib.hid (BM_11.out.trans (hb.mono BM_11.out.size))
  have BV0_12 := Lib.hid (BV0.out.trans (hb.mono BV0.out.size))
  clear hb
  have BH := Lib.hid (Below.refl w12.heap.size w12)
  go_wp2_with fail
  refine (eqIntS_any _ _ _ _ _ _ _ _ _ _ (Ints.more (Ints.below IH.out BH.out (Nat.le_refl _)) BH.out.size) (Ints.more (Ints.below IW.out BW_12.out (Nat.le_refl _)) BW_12.out.size)).mono ?_
  rintro e w13 hq
  have hb := hq.below
  obtain ⟨rfl, _⟩ := hq
  have B0_13 := Lib.hid (B0_12.out.trans (hb.mono B0_12.out.size))
  have BW_13 := Lib.hid (BW_12.out.trans (hb.mono BW_12.out.size))
  have BM_13 := Lib.hid (BM_12.out.trans (hb.mono BM_12.out.size))
  have BV0_13 := Lib.hid (BV0_12.out.trans (hb.mono BV0_12.out.size))
  have BH_13 := Lib.hid (BH.out.trans (hb.mono BH.out.size))
  clear hb
  go_wp2_with fail
  refine (heldIntS_any _ _ _ 1 w13.heap.size _ (OwnI.ints' (OwnI.below OM.out BM_13.out)) (by omega) (by omega) (by omega)).mono ?_
  rintro e w' ⟨rfl, rfl⟩
  go_wp2_with fail
  go_ret
  exact ⟨ret_bool (by simp), B0_13.out⟩
set_option maxHeartbeats 1000000 in
theorem fnExactProofRoot_any (a0 : Int) (a1 : Int) (a2 : Int) (x3 : Option Addr) (n3 cap3 : Nat) (l3 : List Int) (w : World) (h3 : Ints w w.heap.size x3 n3 cap3 l3) : Calls Try.prog 9 #[.int .i64 a0, .int .i64 a1, .int .i64 a2, .slice x3 n3 cap3] w fun e w' => e = .returned (.bool true) ∧ Below w.heap.size w w' := by
  have HLEN3 := Lib.hid h3.len
  have hmx3 := h3.max
  have hle3 := h3.le
  unfold maxLen at hmx3
  by_cases hlong3 : 1048576 < (n3 : Int)
  · go_enter Try.func9, Try.ntmps9
    go_wp2
    go_ret
    exact ⟨rfl, Below.refl _ _⟩
  have hn3 : n3 ≤ 1048576 := by omega
  have B0 := Lib.hid (Below.refl w.heap.size w)
  go_enter Try.func9, Try.ntmps9
  go_wp2_with fail
  refine (toIntS_any _ _ _ _ _ (Ints.more (Ints.below h3 B0.out (Nat.le_refl _)) B0.out.size) hn3).mono ?_
  rintro e w1 ⟨v, rfl, ho, hb⟩
  obtain ⟨yT3, mT3, cT3, rfl, hi⟩ := ho.ints
  have OT3 := Lib.hid ho; have IT3 := Lib.hid hi; clear ho hi
  have B0_1 := Lib.hid (B0.out.trans (hb.mono B0.out.size))
  clear hb
  have BT3 := Lib.hid (Below.refl w1.heap.size w1)
  go_wp2_with fail
  refine (specProofRoot_any a0 a1 a2 _ _ _ l3 _ _ (Ints.more (Ints.below IT3.out BT3.out (Nat.le_refl _)) BT3.out.size)).mono ?_
  rintro e w' ⟨rfl, rfl⟩
  go_wp2_with fail
  refine (toIntS_any _ _ _ _ _ (Ints.more (Ints.below h3 B0_1.out (Nat.le_refl _)) B0_1.out.size) hn3).mono ?_
  rintro e w2 ⟨v, rfl, ho, hb⟩
  obtain ⟨yX3, mX3, cX3, rfl, hi⟩ := ho.ints
  have OX3 := Lib.hid ho; have IX3 := Lib.hid hi; clear ho hi
  have B0_2 := Lib.hid (B0_1.out.trans (hb.mono B0_1.out.size))
  clear hb
  have BX3 := Lib.hid (Below.refl w2.heap.size w2)
  go_wp2_with fail
  refine (proofRoot_any a0 a1 a2 _ _ _ l3 _ _ (Ints.more (Ints.below IX3.out BX3.out (Nat.le_refl _)) BX3.out.size)).mono ?_
  rintro e w' ⟨rfl, rfl⟩
  go_wp2_with fail
  refine (toIntS_any _ _ _ _ _ (Ints.more (Ints.below h3 B0_2.out (Nat.le_refl _)) B0_2.out.size) hn3).mono ?_
  rintro e w3 ⟨v, rfl, ho, hb⟩
  obtain ⟨yZ3, mZ3, cZ3, rfl, hi⟩ := ho.ints
  have OZ3 := Lib.hid ho; have IZ3 := Lib.hid hi; clear ho hi
  have B0_3 := Lib.hid (B0_2.out.trans (hb.mono B0_2.out.size))
  have BX3_3 := Lib.hid (BX3.out.trans (hb.mono BX3.out.size))
  clear hb
  have BZ3 := Lib.hid (Below.refl w3.heap.size w3)
  go_wp2_with fail
  refine (eqIntS_any _ _ _ _ _ _ _ _ _ _ (Ints.more (Ints.below IX3.out BX3_3.out (Nat.le_refl _)) BX3_3.out.size) (Ints.more (Ints.below IZ3.out BZ3.out (Nat.le_refl _)) BZ3.out.size)).mono ?_
  rintro e w4 hq
  have hb := hq.below
  obtain ⟨rfl, _⟩ := hq
  have B0_4 := Lib.hid (B0_3.out.trans (hb.mono B0_3.out.size))
  have BX3_4 := Lib.hid (BX3_3.out.trans (hb.mono BX3_3.out.size))
  have BZ3_4 := Lib.hid (BZ3.out.trans (hb.mono BZ3.out.size))
  clear hb
  go_wp2_with fail
  go_ret
  exact ⟨ret_bool (by simp), B0_4.out⟩
end Go.Proofs.Ytlbebbkkpjgboaa
