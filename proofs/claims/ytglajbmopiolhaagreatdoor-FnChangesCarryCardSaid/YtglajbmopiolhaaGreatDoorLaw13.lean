/-
  The walks of chapter 13's laws.
-/
import Derived.Test.YtglajbmopiolhaaGreatDoorImpl13
import Derived.Test.YtglajbmopiolhaaGreatDoorImpl11
import Derived.Test.YtglajbmopiolhaaGreatDoorMath13
import Derived.Test.YtglajbmopiolhaaGreatDoorDraw17
import Derived.Test.YtglajbmopiolhaaGreatDoorArgsC
namespace Go.Proofs.YtglajbmopiolhaaGreatDoor
open Go.RowKit
set_option linter.unusedVariables false
set_option maxHeartbeats 1000000 in
set_option maxRecDepth 100000 in
theorem fnSameFiles_any (x : Option Addr) (n cap : Nat) (w : World) (h : Bytes w.heap.size w x n) (hn : n ≤ cap) (hc : cap ≤ maxLen) :
    Calls Tryz.prog 3 #[.slice x n cap] w fun e w' => e = .returned (.bool true) ∧ Below w.heap.size w w' := by
  by_cases hlong : 1048576 < (n : Int)
  · go_enter Tryz.func3, Tryz.ntmps3
    go_wp2
    go_ret
    exact ⟨rfl, Below.refl _ _⟩
  · have HB0 := Lib.hid h
    have HC := Lib.hid hc
    have HLE := Lib.hid hn
    clear h hc hn
    go_enter Tryz.func3, Tryz.ntmps3
    go_wp2_with fail
    refine (drawSameFiles_any x n cap w HB0.out HLE.out HC.out).mono ?_
    rintro e w1 ⟨y, m, c, l, p, q, rfl, hl41, hsh, _, hl, hb⟩
    have HB := Lib.hid hb; have HL := Lib.hid hl; have HZ := Lib.hid (short_mil hsh)
    have HQP := Lib.hid (same_flip l q p); have HNO := Lib.hid (same_store (l := l) (p := p) (q := q)); have HPP := Lib.hid (fun h => same_self (l := l) h p); have HCH := Lib.hid (fun h => same_chg (l := l) h p q); have HFEW := Lib.hid (chg_few l p q)
    clear hb hl hsh
    obtain ⟨g, hg⟩ : ∃ g, sameF l p q = g := ⟨_, rfl⟩
    have HG := Lib.hid hg
    rw [hg] at HQP HNO HCH
    clear hg
    go_wp2_with fail
    refine (implSameFiles_any y m c l p q _ _ HL.out (Nat.le_refl _) HZ.out).mono ?_
    rintro e w2 ⟨rfl, hb⟩
    rw [HG.out]
    have HB2 := Lib.hid (HB.out.trans (hb.mono HB.out.size)); have HL2 := Lib.hid ((HL.out.below hb (Nat.le_refl _)).more hb.size)
    clear hb
    go_wp2_with fail
    refine (specSameFiles_any y m c l p q _ _ HL2.out (Nat.le_refl _) HZ.out).mono ?_
    rintro e w3 ⟨rfl, hb⟩
    rw [HG.out]
    have HB3 := Lib.hid (HB2.out.trans (hb.mono HB2.out.size)); have HL3 := Lib.hid ((HL2.out.below hb (Nat.le_refl _)).more hb.size)
    clear hb
    obtain ⟨st, hst⟩ : ∃ st, storeB l = st := ⟨_, rfl⟩
    have HST := Lib.hid hst
    cases st
    · obtain rfl := HNO.out hst
      clear hst HCH HPP
      go_wp2_with (first
        | (go_at_call 10; (with_reducible refine (implSameFiles_any y m c l q p _ _ HL3.out (Nat.le_refl _) HZ.out).mono ?_); rintro e w4 ⟨rfl, hb⟩; rw [HQP.out]; have HB4 := Lib.hid (HB3.out.trans (hb.mono HB3.out.size)); have HL4 := Lib.hid ((HL3.out.below hb (Nat.le_refl _)).more hb.size); clear hb)
        | (go_at_call 12; (with_reducible refine (implStoreValid_any y m c l _ _ HL4.out (Nat.le_refl _) (mil_max HZ.out)).mono ?_); rintro e w5 ⟨rfl, hb⟩; rw [HST.out]; have HB5 := Lib.hid (HB4.out.trans (hb.mono HB4.out.size)); clear hb)
        | (go_at_call 13; (with_reducible refine (alive_any _).mono ?_); rintro e w' ⟨rfl, rfl⟩))
      go_ret
      exact ⟨rfl, HB5.out⟩
    · have HPS := Lib.hid (HPP.out hst); have HCC := Lib.hid (HCH.out hst)
      clear hst HCH HPP HNO
      cases g
      · have HN0 := Lib.hid (show (chgB l p q).length ≠ 0 by have := HCC.out; simpa using this.symm)
        go_wp2_with (first
          | (go_at_call 10; (with_reducible refine (implSameFiles_any y m c l q p _ _ HL3.out (Nat.le_refl _) HZ.out).mono ?_); rintro e w4 ⟨rfl, hb⟩; rw [HQP.out]; have HB4 := Lib.hid (HB3.out.trans (hb.mono HB3.out.size)); have HL4 := Lib.hid ((HL3.out.below hb (Nat.le_refl _)).more hb.size); clear hb)
          | (go_at_call 12; (with_reducible refine (implStoreValid_any y m c l _ _ HL4.out (Nat.le_refl _) (mil_max HZ.out)).mono ?_); rintro e w5 ⟨rfl, hb⟩; rw [HST.out]; have HB5 := Lib.hid (HB4.out.trans (hb.mono HB4.out.size)); have HL5 := Lib.hid ((HL4.out.below hb (Nat.le_refl _)).more hb.size); clear hb)
          | (go_at_call 10; (with_reducible refine (implSameFiles_any y m c l p p _ _ HL5.out (Nat.le_refl _) HZ.out).mono ?_); rintro e w6 ⟨rfl, hb⟩; rw [HPS.out]; have HB6 := Lib.hid (HB5.out.trans (hb.mono HB5.out.size)); have HL6 := Lib.hid ((HL5.out.below hb (Nat.le_refl _)).more hb.size); clear hb)
          | (go_at_call 14; (with_reducible refine (implChangesOf_any y m c l p q _ _ HL6.out (Nat.le_refl _) HZ.out).mono ?_); rintro e w7 ⟨v7, rfl, ho, hb⟩; obtain ⟨x7, n7, c7, rfl, hi⟩ := ho.lst; have hn7 : ((n7 : Int) == 0) = false := (by have := hi.len; have := HN0.out; simp; omega); have HB7 := Lib.hid (HB6.out.trans (hb.mono HB6.out.size)); clear hb ho hi))
        go_ret
        exact ⟨rfl, HB7.out⟩
      · have HN0 := Lib.hid (show (chgB l p q).length = 0 by have := HCC.out; simpa using this.symm)
        go_wp2_with (first
          | (go_at_call 10; (with_reducible refine (implSameFiles_any y m c l q p _ _ HL3.out (Nat.le_refl _) HZ.out).mono ?_); rintro e w4 ⟨rfl, hb⟩; rw [HQP.out]; have HB4 := Lib.hid (HB3.out.trans (hb.mono HB3.out.size)); have HL4 := Lib.hid ((HL3.out.below hb (Nat.le_refl _)).more hb.size); clear hb)
          | (go_at_call 12; (with_reducible refine (implStoreValid_any y m c l _ _ HL4.out (Nat.le_refl _) (mil_max HZ.out)).mono ?_); rintro e w5 ⟨rfl, hb⟩; rw [HST.out]; have HB5 := Lib.hid (HB4.out.trans (hb.mono HB4.out.size)); have HL5 := Lib.hid ((HL4.out.below hb (Nat.le_refl _)).more hb.size); clear hb)
          | (go_at_call 10; (with_reducible refine (implSameFiles_any y m c l p p _ _ HL5.out (Nat.le_refl _) HZ.out).mono ?_); rintro e w6 ⟨rfl, hb⟩; rw [HPS.out]; have HB6 := Lib.hid (HB5.out.trans (hb.mono HB5.out.size)); have HL6 := Lib.hid ((HL5.out.below hb (Nat.le_refl _)).more hb.size); clear hb)
          | (go_at_call 14; (with_reducible refine (implChangesOf_any y m c l p q _ _ HL6.out (Nat.le_refl _) HZ.out).mono ?_); rintro e w7 ⟨v7, rfl, ho, hb⟩; obtain ⟨x7, n7, c7, rfl, hi⟩ := ho.lst; obtain rfl : n7 = 0 := (by have := hi.len; have := HN0.out; omega); have HB7 := Lib.hid (HB6.out.trans (hb.mono HB6.out.size)); clear hb ho hi))
        go_ret
        exact ⟨rfl, HB7.out⟩
set_option maxHeartbeats 1000000 in
set_option maxRecDepth 100000 in
theorem fnChangesOf_any (x : Option Addr) (n cap : Nat) (w : World) (h : Bytes w.heap.size w x n) (hn : n ≤ cap) (hc : cap ≤ maxLen) :
    Calls Tryz.prog 4 #[.slice x n cap] w fun e w' => e = .returned (.bool true) ∧ Below w.heap.size w w' := by
  by_cases hlong : 1048576 < (n : Int)
  · go_enter Tryz.func4, Tryz.ntmps4
    go_wp2
    go_ret
    exact ⟨rfl, Below.refl _ _⟩
  · have HB0 := Lib.hid h
    have HC := Lib.hid hc
    have HLE := Lib.hid hn
    clear h hc hn
    go_enter Tryz.func4, Tryz.ntmps4
    go_wp2_with fail
    refine (drawChangesOf_any x n cap w HB0.out HLE.out HC.out).mono ?_
    rintro e w1 ⟨y, m, c, l, p, q, rfl, hl41, hsh, _, hl, hb⟩
    have HB := Lib.hid hb; have HL := Lib.hid hl; have HZ := Lib.hid (short_mil hsh)
    have HT := Lib.hid (chg_turn l p q); have HSE := Lib.hid (chg_self l p)
    clear hb hl hsh
    obtain ⟨X, hX⟩ : ∃ X, chgB l p q = X := ⟨_, rfl⟩
    obtain ⟨Y, hY⟩ : ∃ Y, chgB l q p = Y := ⟨_, rfl⟩
    rw [hX, hY] at HT
    have HX := Lib.hid hX; have HY := Lib.hid hY
    clear hX hY
    go_wp2_with fail
    refine (implChangesOf_any y m c l p q _ _ HL.out (Nat.le_refl _) HZ.out).mono ?_
    rintro e w2 ⟨v2, rfl, ho, hb⟩
    rw [HX.out] at ho
    obtain ⟨x2, n2, c2, rfl, hi⟩ := ho.lst
    have HB2 := Lib.hid (HB.out.trans (hb.mono HB.out.size)); have HL2 := Lib.hid ((HL.out.below hb (Nat.le_refl _)).more hb.size); have HX2 := Lib.hid hi
    clear hb ho hi
    go_wp2_with fail
    refine (specChangesOf_any y m c l p q _ _ HL2.out (Nat.le_refl _) HZ.out).mono ?_
    rintro e w3 ⟨v3, rfl, ho, hb⟩
    rw [HX.out] at ho
    obtain ⟨x3, n3, c3, rfl, hi⟩ := ho.lst
    have HB3 := Lib.hid (HB2.out.trans (hb.mono HB2.out.size)); have HL3 := Lib.hid ((HL2.out.below hb (Nat.le_refl _)).more hb.size); have HX3 := Lib.hid ((HX2.out.below hb (Nat.le_refl _)).more hb.size); have HY3 := Lib.hid hi
    clear hb ho hi HL HL2 HX2
    go_wp2_with fail
    refine (sameChanges_any _ _ _ _ _ _ X X _ _ HX3.out HY3.out).mono ?_
    rintro e w4 hq
    have hb := hq.below
    obtain ⟨rfl, _⟩ := hq
    rw [decide_eq_true (rfl : X = X)]
    have HB4 := Lib.hid (HB3.out.trans (hb.mono HB3.out.size)); have HL4 := Lib.hid ((HL3.out.below hb (Nat.le_refl _)).more hb.size); have HX4 := Lib.hid ((HX3.out.below hb (Nat.le_refl _)).more hb.size)
    clear hb HL3 HX3 HY3
    go_wp2_with fail
    refine (implChangesOf_any y m c l q p _ _ HL4.out (Nat.le_refl _) HZ.out).mono ?_
    rintro e w5 ⟨v5, rfl, ho, hb⟩
    rw [HY.out] at ho
    obtain ⟨x5, n5, c5, rfl, hi⟩ := ho.lst
    have HB5 := Lib.hid (HB4.out.trans (hb.mono HB4.out.size)); have HL5 := Lib.hid ((HL4.out.below hb (Nat.le_refl _)).more hb.size); have HX5 := Lib.hid ((HX4.out.below hb (Nat.le_refl _)).more hb.size); have HY5 := Lib.hid hi
    clear hb ho hi HL4 HX4
    obtain rfl : n2 = n5 := by have h1 := HX5.out.len; have h2 := HY5.out.len; have h3 := HT.out.1; omega
    have HT0 := Lib.hid HT.out.2.1.symm; have HT1 := Lib.hid HT.out.2.2.symm
    go_wp2_with (first
      | (go_at_call 18; (with_reducible refine (implCountKind_any _ _ _ X 0 _ _ HX5.out (Nat.le_refl _)).mono ?_); rintro e w6 ⟨rfl, hb⟩; have HB6 := Lib.hid (HB5.out.trans (hb.mono HB5.out.size)); have HL6 := Lib.hid ((HL5.out.below hb (Nat.le_refl _)).more hb.size); have HX6 := Lib.hid ((HX5.out.below hb (Nat.le_refl _)).more hb.size); have HY6 := Lib.hid ((HY5.out.below hb (Nat.le_refl _)).more hb.size); clear hb)
      | (go_at_call 18; (with_reducible refine (implCountKind_any _ _ _ Y 2 _ _ HY6.out (Nat.le_refl _)).mono ?_); rintro e w7 ⟨rfl, hb⟩; rw [HT0.out]; have HB7 := Lib.hid (HB6.out.trans (hb.mono HB6.out.size)); have HL7 := Lib.hid ((HL6.out.below hb (Nat.le_refl _)).more hb.size); have HX7 := Lib.hid ((HX6.out.below hb (Nat.le_refl _)).more hb.size); have HY7 := Lib.hid ((HY6.out.below hb (Nat.le_refl _)).more hb.size); clear hb)
      | (go_at_call 18; (with_reducible refine (implCountKind_any _ _ _ X 1 _ _ HX7.out (Nat.le_refl _)).mono ?_); rintro e w8 ⟨rfl, hb⟩; have HB8 := Lib.hid (HB7.out.trans (hb.mono HB7.out.size)); have HL8 := Lib.hid ((HL7.out.below hb (Nat.le_refl _)).more hb.size); have HY8 := Lib.hid ((HY7.out.below hb (Nat.le_refl _)).more hb.size); clear hb)
      | (go_at_call 18; (with_reducible refine (implCountKind_any _ _ _ Y 1 _ _ HY8.out (Nat.le_refl _)).mono ?_); rintro e w9 ⟨rfl, hb⟩; rw [HT1.out]; have HB9 := Lib.hid (HB8.out.trans (hb.mono HB8.out.size)); have HL9 := Lib.hid ((HL8.out.below hb (Nat.le_refl _)).more hb.size); clear hb)
      | (go_at_call 14; (with_reducible refine (implChangesOf_any y m c l p p _ _ HL9.out (Nat.le_refl _) HZ.out).mono ?_); rintro e w10 ⟨v10, rfl, ho, hb⟩; rw [HSE.out] at ho; obtain ⟨x10, n10, c10, rfl, hi⟩ := ho.lst; obtain rfl : n10 = 0 := (by have := hi.len; simpa using this.symm); have HB10 := Lib.hid (HB9.out.trans (hb.mono HB9.out.size)); clear hb ho hi)
      | (go_at_call 13; (with_reducible refine (alive_any _).mono ?_); rintro e w' ⟨rfl, rfl⟩))
    go_ret
    exact ⟨ret_bool (by simp), HB10.out⟩
set_option maxHeartbeats 1000000 in
set_option maxRecDepth 100000 in
theorem fnChangesCarry_any (x : Option Addr) (n cap : Nat) (w : World) (h : Bytes w.heap.size w x n) (hn : n ≤ cap) (hc : cap ≤ maxLen) :
    Calls Tryz.prog 6 #[.slice x n cap] w fun e w' => e = .returned (.bool true) ∧ Below w.heap.size w w' := by
  by_cases hlong : 1048576 < (n : Int)
  · go_enter Tryz.func6, Tryz.ntmps6
    go_wp2
    go_ret
    exact ⟨rfl, Below.refl _ _⟩
  · have HB0 := Lib.hid h
    have HC := Lib.hid hc
    have HLE := Lib.hid hn
    clear h hc hn
    go_enter Tryz.func6, Tryz.ntmps6
    go_wp2_with fail
    refine (drawChangesOf_any x n cap w HB0.out HLE.out HC.out).mono ?_
    rintro e w1 ⟨y, m, c, l, p, q, rfl, hl41, hsh, hgood, hl, hb⟩
    have HB := Lib.hid hb; have HL := Lib.hid hl; have HZ := Lib.hid (short_mil hsh)
    have HCZ := Lib.hid (fun k => Nat.le_trans (chg_sizes l p q k) (show 1000 ≤ 1048576 by decide))
    have HGO := Lib.hid (show ∀ x P, carryB l p (chgB l p q) q = (x, P, true) → storeB x = true ∧ P = q from fun x P e => by
      obtain ⟨h1, h2⟩ := carryB_yes e
      exact carry_goal h1 (hgood h1).1 (hgood h1).2 h2)
    clear hb hl hsh hgood
    go_wp2_with fail
    refine (implChangesOf_any y m c l p q _ _ HL.out (Nat.le_refl _) HZ.out).mono ?_
    rintro e w2 ⟨v2, rfl, ho, hb⟩
    obtain ⟨x2, n2, c2, rfl, hi⟩ := ho.lst
    have HB2 := Lib.hid (HB.out.trans (hb.mono HB.out.size)); have HL2 := Lib.hid ((HL.out.below hb (Nat.le_refl _)).more hb.size); have HX2 := Lib.hid hi
    clear hb ho hi HL
    go_wp2_with fail
    refine (implCarryChanges_any y m c l p _ _ _ (chgB l p q) q _ _ _ HL2.out HX2.out (Nat.le_refl _) (Nat.le_refl _) HZ.out HCZ.out).mono ?_
    rintro e w3 ⟨v3, rfl, ho, hb⟩
    obtain ⟨x3, n3, c3, rfl, hi⟩ := ho.lst
    have HB3 := Lib.hid (HB2.out.trans (hb.mono HB2.out.size)); have HX3 := Lib.hid hi
    clear hb ho hi HL2 HX2
    obtain ⟨⟨L, P, g⟩, hR⟩ : ∃ R, carryB l p (chgB l p q) q = R := ⟨_, rfl⟩
    rw [hR] at HGO HX3 ⊢
    clear hR
    cases g
    · clear HGO
      go_wp2_with fail
      refine (alive_any _).mono ?_
      rintro e w' ⟨rfl, rfl⟩
      go_wp2_with fail
      go_ret
      exact ⟨rfl, HB3.out⟩
    · obtain ⟨hs, rfl⟩ := HGO.out L P rfl
      have HSS := Lib.hid (same_self hs P)
      have HZL := Lib.hid (short_mil (store_short hs))
      clear HGO hs
      go_wp2_with (first
        | (go_at_call 10; (with_reducible refine (implSameFiles_any _ _ _ L P P _ _ HX3.out (Nat.le_refl _) HZL.out).mono ?_); rintro e w4 ⟨rfl, hb⟩; rw [HSS.out]; have HB4 := Lib.hid (HB3.out.trans (hb.mono HB3.out.size)); clear hb))
      go_ret
      exact ⟨ret_bool (by simp), HB4.out⟩
theorem last_take (cs : List Ent) (h : cs ≠ []) : ∃ ds, cs = ds ++ [nthE cs (cs.length - 1)] := by
  refine ⟨cs.dropLast, ?_⟩
  have h1 : cs.length - 1 < cs.length := by have := List.length_pos_iff.2 h; omega
  rw [nthE_get h1, ← List.getLast_eq_getElem h, List.dropLast_concat_getLast h]
set_option maxHeartbeats 1000000 in
set_option maxRecDepth 100000 in
theorem fnCarryChanges_any (x : Option Addr) (n cap : Nat) (w : World) (h : Bytes w.heap.size w x n) (hn : n ≤ cap) (hc : cap ≤ maxLen) :
    Calls Tryz.prog 5 #[.slice x n cap] w fun e w' => e = .returned (.bool true) ∧ Below w.heap.size w w' := by
  by_cases hlong : 1048576 < (n : Int)
  · go_enter Tryz.func5, Tryz.ntmps5
    go_wp2
    go_ret
    exact ⟨rfl, Below.refl _ _⟩
  · have HB0 := Lib.hid h
    have HC := Lib.hid hc
    have HLE := Lib.hid hn
    clear h hc hn
    go_enter Tryz.func5, Tryz.ntmps5
    go_wp2_with fail
    refine (drawCarryChanges_any x n cap w HB0.out HLE.out HC.out).mono ?_
    rintro e w1 ⟨y, m, c, l, p, z, zn, zc, cs, q, rfl, hl41, hsh, hgood, hcs, hcz, hl, hy, hb⟩
    have HB := Lib.hid hb; have HL := Lib.hid hl; have HX := Lib.hid hy; have HZ := Lib.hid (short_mil hsh); have HCZ := Lib.hid (show ∀ k, (nthE cs k).1.size ≤ 1048576 from fun k => Nat.le_trans (hcz k) (by decide))
    have HLEN := Lib.hid hy.len
    have hz100 : zn ≤ 100 := by have := hy.len; omega
    have HLAST := Lib.hid (show ∀ x P i, zn = i + 1 → carryB l p cs q = (x, P, true) → storeB x = true ∧ ((nthE cs i).2 = 2 → (rdB x P (nthE cs i).1).2 = false) ∧ ((nthE cs i).2 ≠ 2 → rdB x P (nthE cs i).1 = ((rdB l q (nthE cs i).1).1, true)) from fun x P i hi e => by
      obtain ⟨h1, h2⟩ := carryB_yes e
      have hlen := HLEN.out
      obtain ⟨ds, hds⟩ := last_take cs (by intro e; rw [e] at hlen; simp at hlen; omega)
      have e1 : cs.length - 1 = i := by omega
      rw [e1] at hds
      rw [hds] at h2
      exact carry_last h1 (hgood h1) h2)
    have HNIL := Lib.hid (show ∀ x P, zn = 0 → carryB l p cs q = (x, P, true) → x = l ∧ P = p from fun x P hi e => by
      obtain ⟨h1, h2⟩ := carryB_yes e
      have hlen := HLEN.out
      obtain rfl : cs = [] := List.eq_nil_of_length_eq_zero (by omega)
      simp only [carryG, Option.some.injEq, Prod.mk.injEq] at h2
      exact ⟨h2.1.symm, h2.2.symm⟩)
    have HNOT := Lib.hid (fun x P e => carryB_not (l := l) (root := p) (cs := cs) (other := q) (x := x) (P := P) e)
    have HST := Lib.hid (show ∀ x P, carryB l p cs q = (x, P, true) → ∀ k, (nthP x k).2.size ≤ 1048576 from fun x P e => by
      obtain ⟨h1, h2⟩ := carryB_yes e
      exact short_mil (store_short (carry_grows h1 h2).1))
    clear hb hl hy hsh hgood hcs hcz
    go_wp2_with fail
    refine (implCarryChanges_any y m c l p z zn zc cs q _ _ _ HL.out HX.out (Nat.le_refl _) (Nat.le_refl _) HZ.out HCZ.out).mono ?_
    rintro e w2 ⟨v2, rfl, ho, hb⟩
    obtain ⟨x2, n2, c2, rfl, hi⟩ := ho.lst
    have HB2 := Lib.hid (HB.out.trans (hb.mono HB.out.size)); have HL2 := Lib.hid ((HL.out.below hb (Nat.le_refl _)).more hb.size); have HX2 := Lib.hid ((HX.out.below hb (Nat.le_refl _)).more hb.size); have HY2 := Lib.hid hi
    clear hb ho hi HL HX
    go_wp2_with fail
    refine (specCarryChanges_any y m c l p z zn zc cs q _ _ _ HL2.out HX2.out (Nat.le_refl _) (Nat.le_refl _) HZ.out HCZ.out).mono ?_
    rintro e w3 ⟨x3, n3, c3, rfl, hi, hb⟩
    have HB3 := Lib.hid (HB2.out.trans (hb.mono HB2.out.size)); have HL3 := Lib.hid ((HL2.out.below hb (Nat.le_refl _)).more hb.size); have HX3 := Lib.hid ((HX2.out.below hb (Nat.le_refl _)).more hb.size); have HY3 := Lib.hid ((HY2.out.below hb (Nat.le_refl _)).more hb.size); have HZ3 := Lib.hid hi
    clear hb hi HL2 HX2 HY2
    obtain ⟨⟨L, P, g⟩, hR⟩ : ∃ R, carryB l p cs q = R := ⟨_, rfl⟩
    simp only [hR] at HLAST HNIL HNOT HST HY3 HZ3 ⊢
    clear hR
    have HLN := Lib.hid HY3.out.len
    go_wp2_with fail
    refine (samePieces_any _ _ _ _ _ _ L L _ _ HY3.out HZ3.out).mono ?_
    rintro e w4 hq
    have hb := hq.below
    obtain ⟨rfl, _⟩ := hq
    rw [decide_eq_true (rfl : L = L)]
    have HB4 := Lib.hid (HB3.out.trans (hb.mono HB3.out.size)); have HL4 := Lib.hid ((HL3.out.below hb (Nat.le_refl _)).more hb.size); have HX4 := Lib.hid ((HX3.out.below hb (Nat.le_refl _)).more hb.size); have HY4 := Lib.hid ((HY3.out.below hb (Nat.le_refl _)).more hb.size)
    clear hb HL3 HX3 HY3 HZ3
    cases g
    · have hnot := HNOT.out L P rfl
      clear HLAST HNIL HNOT HST
      by_cases hll : L = l ∧ P = p
      · obtain ⟨hll, rfl⟩ := hll
        clear hnot
        go_wp2_with (first
          | (go_at_call 22; (with_reducible refine (samePieces_any _ _ _ _ _ _ L l _ _ HY4.out HL4.out).mono ?_); rintro e w5 hq; have hb := hq.below; obtain ⟨rfl, _⟩ := hq; rw [decide_eq_true hll]; have HB5 := Lib.hid (HB4.out.trans (hb.mono HB4.out.size)); clear hb)
          | (go_at_call 13; (with_reducible refine (alive_any _).mono ?_); rintro e w' ⟨rfl, rfl⟩))
        go_ret
        exact ⟨ret_bool (by simp), HB5.out⟩
      · obtain ⟨hL0, rfl⟩ : L = [] ∧ P = -1 := by rcases hnot with e | e; exact absurd e hll; exact e
        have hn0 : n2 = 0 := by have := HLN.out; rw [hL0] at this; simpa using this.symm
        subst hn0
        have HN := Lib.hid hll
        clear hnot hll hL0
        by_cases hll : L = l
        · have hp : ((-1 : Int) == p) = false := by
            simp only [beq_eq_false_iff_ne, ne_eq]
            exact fun e => HN.out ⟨hll, e⟩
          go_wp2_with (first
            | (go_at_call 22; (with_reducible refine (samePieces_any _ _ _ _ _ _ L l _ _ HY4.out HL4.out).mono ?_); rintro e w5 hq; have hb := hq.below; obtain ⟨rfl, _⟩ := hq; rw [decide_eq_true hll]; have HB5 := Lib.hid (HB4.out.trans (hb.mono HB4.out.size)); clear hb)
            | (go_at_call 13; (with_reducible refine (alive_any _).mono ?_); rintro e w' ⟨rfl, rfl⟩))
          go_ret
          exact ⟨ret_bool (by simp), HB5.out⟩
        · go_wp2_with (first
            | (go_at_call 22; (with_reducible refine (samePieces_any _ _ _ _ _ _ L l _ _ HY4.out HL4.out).mono ?_); rintro e w5 hq; have hb := hq.below; obtain ⟨rfl, _⟩ := hq; rw [decide_eq_false hll]; have HB5 := Lib.hid (HB4.out.trans (hb.mono HB4.out.size)); clear hb)
            | (go_at_call 13; (with_reducible refine (alive_any _).mono ?_); rintro e w' ⟨rfl, rfl⟩))
          go_ret
          exact ⟨ret_bool (by simp), HB5.out⟩
    · have HZD := Lib.hid (HST.out L P rfl)
      clear HNOT HST
      by_cases h0 : zn = 0
      · obtain ⟨hll, rfl⟩ := HNIL.out L P h0 rfl
        subst h0
        clear HLAST HNIL
        go_wp2_with (first
          | (go_at_call 22; (with_reducible refine (samePieces_any _ _ _ _ _ _ L l _ _ HY4.out HL4.out).mono ?_); rintro e w5 hq; have hb := hq.below; obtain ⟨rfl, _⟩ := hq; rw [decide_eq_true hll]; have HB5 := Lib.hid (HB4.out.trans (hb.mono HB4.out.size)); clear hb))
        go_ret
        exact ⟨ret_bool (by simp), HB5.out⟩
      · obtain ⟨i, hi⟩ : ∃ i, zn = i + 1 := ⟨zn - 1, by omega⟩
        obtain ⟨f1, f2, f3⟩ := HLAST.out L P i hi rfl
        have F1 := Lib.hid f1; have F2 := Lib.hid f2; have F3 := Lib.hid f3
        have hzi := HCZ.out i
        obtain ⟨bz, oz, rfl, hbz, hc0, hc1⟩ := HX4.out.atE (show i < zn by omega)
        have hzn0 : ((zn : Int) == 0) = false := by simp; omega
        have hw9 : IntKind.i64.wrap ((zn : Int) - 1) = (i : Int) := by rw [IntKind.wrap_i64]; omega
        have him : (i : Int) < (zn : Int) := by omega
        have him2 : i < zn := by omega
        have HI := Lib.hid hi
        obtain ⟨e0, he0⟩ : ∃ e0, e0 = nthE cs i := ⟨_, rfl⟩
        rw [← he0] at F2 F3 hzi hc0 hc1
        clear hi f1 f2 f3 HLAST HNIL he0 h0
        have HAL := Lib.hid ((Below.refl w4.heap.size w4).alloc (Nat.le_refl _) (.cells #[.string e0.1, .int .i64 e0.2] 40))
        have HNEW := Lib.hid (heap_alloc_new w4 (.cells #[.string e0.1, .int .i64 e0.2] 40))
        have HLA := Lib.hid ((HL4.out.below HAL.out (Nat.le_refl _)).more HAL.out.size); have HYA := Lib.hid ((HY4.out.below HAL.out (Nat.le_refl _)).more HAL.out.size); have HBA := Lib.hid (HB4.out.trans (HAL.out.mono HB4.out.size))
        go_wp2_with fail
        refine (implReadAt_any _ _ _ L P e0.1 _ _ HYA.out (Nat.le_refl _) HZD.out hzi).mono ?_
        rintro e w5 ⟨rfl, hb⟩
        have HN5 := Lib.hid ((hb.block w4.heap.size (by simp)).trans HNEW.out)
        have HB5 := Lib.hid (HBA.out.trans (hb.mono HBA.out.size)); have HL5 := Lib.hid ((HLA.out.below hb (Nat.le_refl _)).more hb.size); have HY5 := Lib.hid ((HYA.out.below hb (Nat.le_refl _)).more hb.size)
        have hs5 : w4.heap.size < w5.heap.size := Nat.lt_of_lt_of_le (by simp) hb.size
        obtain ⟨c0, c1, g0, g1⟩ := two_at HN5.out
        clear hb hc0 hc1
        obtain ⟨⟨t1, b1⟩, hR1⟩ : ∃ R, rdB L P e0.1 = R := ⟨_, rfl⟩
        rw [hR1] at F2 F3 ⊢
        clear hR1
        go_wp2_with fail
        refine (implReadAt_any y m c l q e0.1 _ _ HL5.out (Nat.le_refl _) HZ.out hzi).mono ?_
        rintro e w6 ⟨rfl, hb⟩
        obtain ⟨d0, d1, h0, h1⟩ := two_at ((hb.block w4.heap.size hs5).trans HN5.out)
        have HB6 := Lib.hid (HB5.out.trans (hb.mono HB5.out.size)); have HY6 := Lib.hid ((HY5.out.below hb (Nat.le_refl _)).more hb.size)
        clear hb c0 c1 g0 g1
        obtain ⟨⟨t2, b2⟩, hR2⟩ : ∃ R, rdB l q e0.1 = R := ⟨_, rfl⟩
        rw [hR2] at F3 ⊢
        clear hR2
        by_cases hk : e0.2 = 2
        · have hkb : (e0.2 == 2) = true := by simpa using hk
          obtain rfl : b1 = false := F2.out hk
          clear hk F2 F3
          go_wp2_with (go_at_call 12; refine (implStoreValid_any _ _ _ L _ _ HY6.out (Nat.le_refl _) (mil_max HZD.out)).mono ?_; rintro e w7 ⟨rfl, hb⟩; rw [F1.out]; have HB7 := Lib.hid (HB6.out.trans (hb.mono HB6.out.size)); clear hb)
          go_ret
          exact ⟨ret_bool (by simp), HB7.out⟩
        · have hkb : (e0.2 == 2) = false := by simpa using hk
          have h3 := F3.out hk
          simp only [Prod.mk.injEq] at h3
          obtain ⟨rfl, rfl⟩ := h3
          clear hk F2 F3
          go_wp2_with (go_at_call 12; refine (implStoreValid_any _ _ _ L _ _ HY6.out (Nat.le_refl _) (mil_max HZD.out)).mono ?_; rintro e w7 ⟨rfl, hb⟩; rw [F1.out]; have HB7 := Lib.hid (HB6.out.trans (hb.mono HB6.out.size)); clear hb)
          go_ret
          exact ⟨ret_bool (by simp), HB7.out⟩
end Go.Proofs.YtglajbmopiolhaaGreatDoor
