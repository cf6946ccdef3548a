/-
  The walks of chapters 7's and 8's exact laws.
-/
import Derived.Test.YtbghefphhpfcgaaDoorImpl7
import Derived.Test.YtbghefphhpfcgaaDoorImpl8
import Derived.Test.YtbghefphhpfcgaaDoorHelp
namespace Go.Proofs.YtbghefphhpfcgaaDoor
open Go.RowKit
set_option linter.unusedVariables false
theorem leftS_no {l : List ByteArray} {left : Int} (h : ¬ (l.length + sumS l : Int) ≤ left) : leftS l left = -1 := by unfold leftS; rw [if_neg h]
theorem leftS_yes {l : List ByteArray} {left : Int} (h : (l.length + sumS l : Int) ≤ left) : 0 ≤ leftS l left ∧ leftS l left ≤ left ∧ (l.length : Int) ≤ left := by unfold leftS; rw [if_pos h]; omega
set_option maxHeartbeats 1000000 in
theorem fnExactPathParts_any (a0 : ByteArray) (w : World) (ha0 : a0.size ≤ maxLen) : Calls Tryd.prog 6 #[.string a0] w fun e w' => e = .returned (.bool true) ∧ Below w.heap.size w w' := by
  by_cases hlonga0 : 1048576 < (a0.size : Int)
  · go_enter Tryd.func6, Tryd.ntmps6
    go_wp2
    go_ret
    exact ⟨rfl, Below.refl _ _⟩
  have hsa0 : a0.size ≤ 1048576 := by omega
  have B0 := Lib.hid (Below.refl w.heap.size w)
  have HLL := Lib.hid (parts_small (s := a0)|>.1)
  go_enter Tryd.func6, Tryd.ntmps6
  go_wp2_with fail
  refine (specPathParts_any a0 _ hsa0).mono ?_
  rintro e w1 ⟨v, rfl, ho, hb⟩
  obtain ⟨yW, mW, cW, rfl, hi⟩ := ho.lst
  have OW := Lib.hid ho; have IW := Lib.hid hi; clear ho hi
  have B0_1 := Lib.hid (B0.out.trans (hb.mono B0.out.size))
  clear hb
  have BW := Lib.hid (Below.refl w1.heap.size w1)
  have LW0 := Lib.hid B0_1.out.size
  have UG := Lib.hid BW.out.size
  go_wp2_with fail
  refine (implPathParts_any a0 _ hsa0).mono ?_
  rintro e w2 ⟨v, rfl, ho, hb⟩
  obtain ⟨yG, mG, cG, rfl, hi⟩ := ho.lst
  have OG := Lib.hid ho; have IG := Lib.hid hi; clear ho hi
  have B0_2 := Lib.hid (B0_1.out.trans (hb.mono B0_1.out.size))
  have BW_2 := Lib.hid (BW.out.trans (hb.mono BW.out.size))
  clear hb
  have BG := Lib.hid (Below.refl w2.heap.size w2)
  have hG : mG ≤ 1000000 := by have h1 := IG.out.len; have h2 := HLL.out; omega
  have HLG := Lib.hid IG.out.len
  go_wp2_with fail
  refine (eqStringS_any _ _ _ _ _ _ _ _ w2.heap.size _ (Lst.more (Lst.below IG.out BG.out (Nat.le_refl _)) BG.out.size) (Lst.more (Lst.below IW.out BW_2.out (Nat.le_refl _)) BW_2.out.size)).mono ?_
  rintro e w3 hq
  have hb := hq.below
  obtain ⟨rfl, _⟩ := hq
  have B0_3 := Lib.hid (B0_2.out.trans (hb.mono B0_2.out.size))
  have BW_3 := Lib.hid (BW_2.out.trans (hb.mono BW_2.out.size))
  have BG_3 := Lib.hid (BG.out.trans (hb.mono BG.out.size))
  clear hb
  have OM4 := Lib.hid (OwnL.below OG.out BG_3.out)
  go_wp2_with fail
  refine (markStringS_any _ _ _ _ _ 1 _ OM4.out HLG.out (by omega) (by omega) (by omega)).mono ?_
  rintro e w4 ⟨rfl, ho, hg⟩
  have B0_4 := Lib.hid (B0_3.out.grown hg B0_3.out.size (fun q e => Nat.le_trans (Nat.le_trans LW0.out UG.out) (OwnL.at OM4.out q e)))
  have BW_4 := Lib.hid (BW_3.out.grown hg BW_3.out.size (fun q e => Nat.le_trans (UG.out) (OwnL.at OM4.out q e)))
  have OM := Lib.hid ho; clear ho hg
  have BM := Lib.hid (Below.refl w4.heap.size w4)
  go_wp2_with fail
  refine (heldStringS_any _ _ _ 1 w4.heap.size _ (OwnL.lst' (OwnL.below OM.out BM.out)) (Nat.le_refl _) (by omega) (by omega) (by omega)).mono ?_
  rintro e w5 ⟨rfl, hb⟩
  have B0_5 := Lib.hid (B0_4.out.trans (hb.mono B0_4.out.size))
  have BW_5 := Lib.hid (BW_4.out.trans (hb.mono BW_4.out.size))
  have BM_5 := Lib.hid (BM.out.trans (hb.mono BM.out.size))
  clear hb
  go_wp2_with fail
  refine (implPathParts_any a0 _ hsa0).mono ?_
  rintro e w6 ⟨v, rfl, ho, hb⟩
  obtain ⟨yH, mH, cH, rfl, hi⟩ := ho.lst
  have OH := Lib.hid ho; have IH := Lib.hid hi; clear ho hi
  have B0_6 := Lib.hid (B0_5.out.trans (hb.mono B0_5.out.size))
  have BW_6 := Lib.hid (BW_5.out.trans (hb.mono BW_5.out.size))
  have BM_6 := Lib.hid (BM_5.out.trans (hb.mono BM_5.out.size))
  clear hb
  have BH := Lib.hid (Below.refl w6.heap.size w6)
  go_wp2_with fail
  refine (eqStringS_any _ _ _ _ _ _ _ _ w6.heap.size _ (Lst.more (Lst.below IH.out BH.out (Nat.le_refl _)) BH.out.size) (Lst.more (Lst.below IW.out BW_6.out (Nat.le_refl _)) BW_6.out.size)).mono ?_
  rintro e w7 hq
  have hb := hq.below
  obtain ⟨rfl, _⟩ := hq
  have B0_7 := Lib.hid (B0_6.out.trans (hb.mono B0_6.out.size))
  have BW_7 := Lib.hid (BW_6.out.trans (hb.mono BW_6.out.size))
  have BM_7 := Lib.hid (BM_6.out.trans (hb.mono BM_6.out.size))
  have BH_7 := Lib.hid (BH.out.trans (hb.mono BH.out.size))
  clear hb
  go_wp2_with fail
  refine (heldStringS_any _ _ _ 1 w7.heap.size _ (OwnL.lst' (OwnL.below OM.out BM_7.out)) (Nat.le_refl _) (by omega) (by omega) (by omega)).mono ?_
  rintro e w8 ⟨rfl, hb⟩
  have B0_8 := Lib.hid (B0_7.out.trans (hb.mono B0_7.out.size))
  have BW_8 := Lib.hid (BW_7.out.trans (hb.mono BW_7.out.size))
  have BM_8 := Lib.hid (BM_7.out.trans (hb.mono BM_7.out.size))
  have BH_8 := Lib.hid (BH_7.out.trans (hb.mono BH_7.out.size))
  clear hb
  go_wp2_with fail
  go_ret
  exact ⟨ret_bool (by simp), B0_8.out⟩
set_option maxHeartbeats 1000000 in
theorem fnExactPathBelow_any (a0 : ByteArray) (a1 : ByteArray) (w : World) (ha0 : a0.size ≤ maxLen) (ha1 : a1.size ≤ maxLen) : Calls Tryd.prog 7 #[.string a0, .string a1] w fun e w' => e = .returned (.bool true) ∧ Below w.heap.size w w' := by
  by_cases hlonga0 : 1048576 < (a0.size : Int)
  · go_enter Tryd.func7, Tryd.ntmps7
    go_wp2
    go_ret
    exact ⟨rfl, Below.refl _ _⟩
  have hsa0 : a0.size ≤ 1048576 := by omega
  by_cases hlonga1 : 1048576 < (a1.size : Int)
  · go_enter Tryd.func7, Tryd.ntmps7
    go_wp2
    go_ret
    exact ⟨rfl, Below.refl _ _⟩
  have hsa1 : a1.size ≤ 1048576 := by omega
  have B0 := Lib.hid (Below.refl w.heap.size w)
  go_enter Tryd.func7, Tryd.ntmps7
  go_wp2_with fail
  refine (specPathBelow_any a0 a1 _ hsa0 hsa1).mono ?_
  rintro e w1 ⟨rfl, hb⟩
  have B0_1 := Lib.hid (B0.out.trans (hb.mono B0.out.size))
  clear hb
  go_wp2_with fail
  refine (implPathBelow_any a0 a1 _ hsa0 hsa1).mono ?_
  rintro e w2 ⟨rfl, hb⟩
  have B0_2 := Lib.hid (B0_1.out.trans (hb.mono B0_1.out.size))
  clear hb
  go_wp2_with fail
  go_ret
  exact ⟨ret_bool (by simp), B0_2.out⟩
end Go.Proofs.YtbghefphhpfcgaaDoor
