/-
  The walks of chapter 14's laws.
-/
import Derived.Test.YtminmakiahjfbaaImpl14
import Derived.Test.YtminmakiahjfbaaDraw18
import Derived.Test.YtminmakiahjfbaaArgsV
import Derived.Test.YtminmakiahjfbaaHelp
import Derived.Test.YtminmakiahjfbaaHasInt
namespace Go.Proofs.Ytminmakiahjfbaa
open Go.RowKit
set_option linter.unusedVariables false
set_option maxHeartbeats 1000000 in
set_option maxRecDepth 100000 in
theorem fnVersionsValid_any (x : Option Addr) (n cap : Nat) (w : World) (h : Bytes w.heap.size w x n) (hn : n ≤ cap) (hc : cap ≤ maxLen) :
    Calls Try.prog 3 #[.slice x n cap] w fun e w' => e = .returned (.bool true) ∧ Below w.heap.size w w' := by
  by_cases hlong : 1048576 < (n : Int)
  · go_enter Try.func3, Try.ntmps3
    go_wp2
    go_ret
    exact ⟨rfl, Below.refl _ _⟩
  · have HB0 := Lib.hid h
    have HC := Lib.hid hc
    have HLE := Lib.hid hn
    clear h hc hn
    go_enter Try.func3, Try.ntmps3
    go_wp2_with fail
    refine (drawVersionsValid_any x n cap w HB0.out HLE.out HC.out).mono ?_
    rintro e w1 ⟨y, m, c, l, rfl, h14, hsm, hl, hb⟩
    have HB := Lib.hid hb; have HL := Lib.hid hl; have HZ := Lib.hid (max_of hsm (by decide)); have HLEN := Lib.hid hl.len
    have HZ1 := Lib.hid (max_of (vers_snoc_small hsm (v := (0, (l.length : Int), ⟨#[97]⟩)) (by show (ByteArray.mk #[97]).size ≤ 8; decide)) (by decide))
    have hm14 : m ≤ 14 := by have := hl.len; omega
    have hmc := hl.le
    have hmx := hl.max
    unfold maxLen at hmx
    have HSELF := Lib.hid (versB_self l 0 ⟨#[97]⟩)
    have HTK := Lib.hid (fun h => versB_take (l := l) h (m / 2)); have HZT := Lib.hid (show ∀ k, (nthV (l.take (m / 2)) k).2.2.size ≤ maxLen from fun k => by
      by_cases hk : k < m / 2
      · have e : nthV (l.take (m / 2)) k = nthV l k := by
          unfold nthV
          rw [List.getD_eq_getElem?_getD, List.getElem?_take, if_pos hk, ← List.getD_eq_getElem?_getD]
        rw [e]; exact HZ.out k
      · unfold nthV
        rw [List.getD_eq_getElem?_getD, List.getElem?_eq_none (by rw [List.length_take]; omega)]
        show (ByteArray.empty).size ≤ maxLen
        simp)
    clear hb hl hsm
    obtain ⟨g, hg⟩ : ∃ g, versB l = g := ⟨_, rfl⟩
    have HG := Lib.hid hg
    go_wp2_with fail
    refine (implVersionsValid_any y m c l _ _ HL.out (Nat.le_refl _) HZ.out).mono ?_
    rintro e w2 ⟨rfl, hb⟩
    rw [HG.out]
    have HB2 := Lib.hid (HB.out.trans (hb.mono HB.out.size)); have HL2 := Lib.hid ((HL.out.below hb (Nat.le_refl _)).more hb.size)
    clear hb
    go_wp2_with fail
    refine (specVersionsValid_any y m c l _ _ HL2.out HZ.out).mono ?_
    rintro e w' ⟨rfl, hw⟩
    subst hw
    rw [HG.out]
    have hq : Int.tdiv (m : Int) 2 = ((m / 2 : Nat) : Int) := by rw [Int.tdiv_eq_ediv_of_nonneg (by omega)]; omega
    have hk0 : (0 : Int) ≤ ((m / 2 : Nat) : Int) := by omega
    have hkc : ((m / 2 : Nat) : Int) ≤ (c : Int) := by omega
    have hkm : m / 2 ≤ m := by omega
    obtain ⟨hf, hhf⟩ : ∃ hf, m / 2 = hf := ⟨_, rfl⟩
    rw [hhf] at hq hk0 hkc HTK HZT hkm
    have hfc : hf ≤ c := by omega
    clear hhf hg
    have hml : m ≤ 2000000 := by omega
    have hll : l.length ≤ 2000000 := by have := HLEN.out; omega
    have HEQ := Lib.hid (show (m : Int) = (l.length : Int) by have := HLEN.out; omega)
    cases g
    · go_wp2_with (first
        | (at_builtin; refine wpList_fresh eltVr encVr HL2.out (Nat.le_refl _) hml rfl _ _ rfl rfl rfl ?_; intro v6 w6 hown6 hb6; have HO6 := Lib.hid hown6; have HB6 := Lib.hid hb6; clear hown6 hb6)
        | (at_builtin; refine wpList_app1L eltVr encVr (0, (m : Int), ⟨#[97]⟩) _ rfl HO6.out hll HB6.out.size rfl _ _ rfl rfl rfl ?_; intro v7 w7 hown7 hgr7; rw [HEQ.out] at hown7; obtain ⟨x7, n7, c7, rfl, _⟩ := hown7.lst; have HO7 := Lib.hid hown7; have HB7 := Lib.hid (HB6.out.grown hgr7 HB6.out.size HO6.out.at); clear hown7 hgr7)
        | (go_at_call 14; (with_reducible refine (implVersionsValid_any _ _ _ (l ++ [(0, (l.length : Int), ⟨#[97]⟩)]) _ _ HO7.out.lst' (Nat.le_refl _) HZ1.out).mono ?_); rintro e w8 ⟨rfl, hb⟩; rw [HSELF.out]; have HB8 := Lib.hid (HB2.out.trans ((HB7.out.trans (hb.mono HB7.out.size)).mono HB2.out.size)); clear hb)
        | (go_at_call 16; refine (alive_any _).mono ?_; rintro e w' ⟨rfl, rfl⟩))
      go_ret
      exact ⟨rfl, HB8.out⟩
    · go_wp2_with (first
        | (at_builtin; refine wpList_fresh eltVr encVr HL2.out (Nat.le_refl _) hml rfl _ _ rfl rfl rfl ?_; intro v6 w6 hown6 hb6; have HO6 := Lib.hid hown6; have HB6 := Lib.hid hb6; clear hown6 hb6)
        | (at_builtin; refine wpList_app1L eltVr encVr (0, (m : Int), ⟨#[97]⟩) _ rfl HO6.out hll HB6.out.size rfl _ _ rfl rfl rfl ?_; intro v7 w7 hown7 hgr7; rw [HEQ.out] at hown7; obtain ⟨x7, n7, c7, rfl, _⟩ := hown7.lst; have HO7 := Lib.hid hown7; have HB7 := Lib.hid (HB6.out.grown hgr7 HB6.out.size HO6.out.at); clear hown7 hgr7)
        | (go_at_call 14; (with_reducible refine (implVersionsValid_any _ _ _ (l ++ [(0, (l.length : Int), ⟨#[97]⟩)]) _ _ HO7.out.lst' (Nat.le_refl _) HZ1.out).mono ?_); rintro e w8 ⟨rfl, hb⟩; rw [HSELF.out]; have hb8 := HB7.out.trans (hb.mono HB7.out.size); have HB8 := Lib.hid (HB2.out.trans (hb8.mono HB2.out.size)); have HL8 := Lib.hid (Lst.cut ((HL2.out.below hb8 (Nat.le_refl _)).more hb8.size) hkm); clear hb hb8)
        | (go_at_call 14; (with_reducible refine (implVersionsValid_any _ _ _ (l.take hf) _ _ HL8.out (Nat.le_refl _) HZT.out).mono ?_); rintro e w9 ⟨rfl, hb⟩; rw [HTK.out HG.out]; have HB9 := Lib.hid (HB8.out.trans (hb.mono HB8.out.size)); clear hb)
        | (go_at_call 16; refine (alive_any _).mono ?_; rintro e w' ⟨rfl, rfl⟩))
      go_ret
      exact ⟨rfl, HB9.out⟩
set_option maxHeartbeats 1000000 in
set_option maxRecDepth 100000 in
theorem fnNearestBoth_any (x : Option Addr) (n cap : Nat) (w : World) (h : Bytes w.heap.size w x n) (hn : n ≤ cap) (hc : cap ≤ maxLen) :
    Calls Try.prog 6 #[.slice x n cap] w fun e w' => e = .returned (.bool true) ∧ Below w.heap.size w w' := by
  by_cases hlong : 1048576 < (n : Int)
  · go_enter Try.func6, Try.ntmps6
    go_wp2
    go_ret
    exact ⟨rfl, Below.refl _ _⟩
  · have HB0 := Lib.hid h
    have HC := Lib.hid hc
    have HLE := Lib.hid hn
    clear h hc hn
    go_enter Try.func6, Try.ntmps6
    go_wp2_with fail
    refine (drawNearestBoth_any x n cap w HB0.out HLE.out HC.out).mono ?_
    rintro e w1 ⟨y, m, c, l, p, q, rfl, h14, hsm, hl, hb⟩
    have HB := Lib.hid hb; have HL := Lib.hid hl; have HZ := Lib.hid (max_of hsm (by decide))
    have HFL := Lib.hid (near_flip l q p); have HFA := Lib.hid (near_facts (l := l) (a := p) (b := q))
    clear hb hl hsm
    obtain ⟨N, hN⟩ : ∃ N, nearB l p q = N := ⟨_, rfl⟩
    rw [hN] at HFL HFA
    have HN := Lib.hid hN
    clear hN
    go_wp2_with fail
    refine (implNearestBoth_any y m c l p q _ _ HL.out (Nat.le_refl _) HZ.out).mono ?_
    rintro e w2 ⟨rfl, hb⟩
    rw [HN.out]
    have HB2 := Lib.hid (HB.out.trans (hb.mono HB.out.size)); have HL2 := Lib.hid ((HL.out.below hb (Nat.le_refl _)).more hb.size)
    clear hb
    go_wp2_with fail
    refine (specNearestBoth_any y m c l p q _ _ HL2.out (Nat.le_refl _) HZ.out).mono ?_
    rintro e w3 ⟨rfl, hb⟩
    rw [HN.out]
    have HB3 := Lib.hid (HB2.out.trans (hb.mono HB2.out.size)); have HL3 := Lib.hid ((HL2.out.below hb (Nat.le_refl _)).more hb.size)
    clear hb
    by_cases hneg : N < 0
    · obtain rfl := HFA.out.1 hneg
      clear HFA
      go_wp2_with (first
        | (go_at_call 26; (with_reducible refine (implNearestBoth_any y m c l q p _ _ HL3.out (Nat.le_refl _) HZ.out).mono ?_); rintro e w4 ⟨rfl, hb⟩; rw [HFL.out]; have HB4 := Lib.hid (HB3.out.trans (hb.mono HB3.out.size)); clear hb)
        | (go_at_call 16; refine (alive_any _).mono ?_; rintro e w' ⟨rfl, rfl⟩))
      go_ret
      exact ⟨rfl, HB4.out⟩
    · obtain ⟨f1, f2, f3, f4⟩ := HFA.out.2 (by omega)
      have F1 := Lib.hid (decide_eq_true f1); have F2 := Lib.hid (decide_eq_true f2); have F3 := Lib.hid f3; have F4 := Lib.hid f4
      clear f1 f2 f3 f4 HFA
      obtain ⟨xs, hxs⟩ : ∃ xs, lineB l p = xs := ⟨_, rfl⟩
      obtain ⟨ys, hys⟩ : ∃ ys, lineB l q = ys := ⟨_, rfl⟩
      rw [hxs] at F1
      rw [hys] at F2
      have HXS := Lib.hid hxs; have HYS := Lib.hid hys
      clear hxs hys
      go_wp2_with (first
        | (go_at_call 26; (with_reducible refine (implNearestBoth_any y m c l q p _ _ HL3.out (Nat.le_refl _) HZ.out).mono ?_); rintro e w4 ⟨rfl, hb⟩; rw [HFL.out]; have HB4 := Lib.hid (HB3.out.trans (hb.mono HB3.out.size)); have HL4 := Lib.hid ((HL3.out.below hb (Nat.le_refl _)).more hb.size); clear hb)
        | (go_at_call 21; (with_reducible refine (implLineOf_any y m c l p _ _ HL4.out (Nat.le_refl _) HZ.out).mono ?_); rintro e w5 ⟨v5, rfl, ho, hb⟩; rw [HXS.out] at ho; obtain ⟨x5, n5, c5, rfl, hi⟩ := ho.ints; have HI5 := Lib.hid hi; have HB5 := Lib.hid (HB4.out.trans (hb.mono HB4.out.size)); have HL5 := Lib.hid ((HL4.out.below hb (Nat.le_refl _)).more hb.size); clear ho hi hb)
        | (go_at_call 28; (with_reducible refine (hasInt_any _ _ _ xs N _ _ HI5.out).mono ?_); rintro e w' ⟨rfl, hw⟩; subst hw; rw [F1.out])
        | (go_at_call 21; (with_reducible refine (implLineOf_any y m c l q _ _ HL5.out (Nat.le_refl _) HZ.out).mono ?_); rintro e w6 ⟨v6, rfl, ho, hb⟩; rw [HYS.out] at ho; obtain ⟨x6, n6, c6, rfl, hi⟩ := ho.ints; have HI6 := Lib.hid hi; have HB6 := Lib.hid (HB5.out.trans (hb.mono HB5.out.size)); have HL6 := Lib.hid ((HL5.out.below hb (Nat.le_refl _)).more hb.size); clear ho hi hb)
        | (go_at_call 28; (with_reducible refine (hasInt_any _ _ _ ys N _ _ HI6.out).mono ?_); rintro e w' ⟨rfl, hw⟩; subst hw; rw [F2.out])
        | (go_at_call 26; (with_reducible refine (implNearestBoth_any y m c l p p _ _ HL6.out (Nat.le_refl _) HZ.out).mono ?_); rintro e w7 ⟨rfl, hb⟩; rw [F3.out]; have HB7 := Lib.hid (HB6.out.trans (hb.mono HB6.out.size)); have HL7 := Lib.hid ((HL6.out.below hb (Nat.le_refl _)).more hb.size); clear hb)
        | (go_at_call 26; (with_reducible refine (implNearestBoth_any y m c l p N _ _ HL7.out (Nat.le_refl _) HZ.out).mono ?_); rintro e w8 ⟨rfl, hb⟩; rw [F4.out]; have HB8 := Lib.hid (HB7.out.trans (hb.mono HB7.out.size)); clear hb))
      go_ret
      exact ⟨ret_bool (by simp), HB8.out⟩
/-! ### tips -/
def foundJ (l : List Ver) (T : List Int) (n j : Nat) : Bool := (T.take j).any fun k => decide ((n : Int) ∈ lineB l k)
theorem take_snocI' {T : List Int} {j : Nat} (h : j < T.length) : T.take (j + 1) = T.take j ++ [nthI T j] := by rw [List.take_succ_eq_append_getElem h, nthI_get h]
theorem foundJ_step {l : List Ver} {T : List Int} {n j : Nat} (h : j < T.length) : foundJ l T n (j + 1) = (foundJ l T n j || decide ((n : Int) ∈ lineB l (nthI T j))) := by
  unfold foundJ
  rw [take_snocI' h, List.any_append]; simp
theorem tips_found {l : List Ver} (h : versB l = true) {n j : Nat} (hn : n < l.length) (hj : (tipsB l).length ≤ j) : foundJ l (tipsB l) n j = true := by
  unfold foundJ
  rw [List.take_of_length_le hj, List.any_eq_true]
  obtain ⟨k, h1, h2, h3⟩ := tip_has h l.length n hn (by omega)
  exact ⟨(k : Int), tips_in h h1 h2, decide_eq_true (by rw [lineB_yes h h1]; exact h3)⟩
set_option maxHeartbeats 2000000 in
set_option maxRecDepth 100000 in
theorem fnTipsOf_any (x : Option Addr) (n cap : Nat) (w : World) (h : Bytes w.heap.size w x n) (hn : n ≤ cap) (hc : cap ≤ maxLen) :
    Calls Try.prog 7 #[.slice x n cap] w fun e w' => e = .returned (.bool true) ∧ Below w.heap.size w w' := by
  by_cases hlong : 1048576 < (n : Int)
  · go_enter Try.func7, Try.ntmps7
    go_wp2
    go_ret
    exact ⟨rfl, Below.refl _ _⟩
  · have HB0 := Lib.hid h
    have HC := Lib.hid hc
    have HLE := Lib.hid hn
    clear h hc hn
    go_enter Try.func7, Try.ntmps7
    go_wp2_with fail
    refine (drawTipsOf_any x n cap w HB0.out HLE.out HC.out).mono ?_
    rintro e w1 ⟨y, m, c, l, rfl, h14, hsm, hl, hb⟩
    have HB := Lib.hid hb; have HL := Lib.hid hl; have HZ := Lib.hid (max_of hsm (by decide)); have HLEN := Lib.hid hl.len
    have hm14 : m ≤ 14 := by have := hl.len; omega
    clear hb hl hsm
    go_wp2_with fail
    refine (implTipsOf_any y m c l _ _ HL.out (Nat.le_refl _) HZ.out).mono ?_
    rintro e w2 ⟨v2, rfl, ho, hb⟩
    obtain ⟨z, k0, d, rfl, hi⟩ := ho.ints
    have HB2 := Lib.hid (HB.out.trans (hb.mono HB.out.size)); have HL2 := Lib.hid ((HL.out.below hb (Nat.le_refl _)).more hb.size); have HX2 := Lib.hid hi
    clear ho hi hb
    go_wp2_with fail
    refine (specTipsOf_any y m c l _ _ HL2.out (Nat.le_refl _) HZ.out).mono ?_
    rintro e w3 ⟨v3, rfl, ho, hb⟩
    obtain ⟨z3, k3, d3, rfl, hi⟩ := ho.ints
    have HB3 := Lib.hid (HB2.out.trans (hb.mono HB2.out.size)); have HL3 := Lib.hid ((HL2.out.below hb (Nat.le_refl _)).more hb.size); have HX3 := Lib.hid ((HX2.out.below hb (Nat.le_refl _)).more hb.size); have HY3 := Lib.hid hi
    clear ho hi hb HL HL2 HX2
    have HK := Lib.hid HX3.out.len
    have hk12 : k0 ≤ 12 := by have := tipsB_len l; have := HX3.out.len; omega
    go_wp2_with fail
    refine (sameInts_any _ _ _ _ _ _ (tipsB l) (tipsB l) _ _ HX3.out HY3.out).mono ?_
    rintro e w4 hq
    have hb := hq.below
    obtain ⟨rfl, _⟩ := hq
    rw [decide_eq_true (rfl : tipsB l = tipsB l)]
    have HB4 := Lib.hid (HB3.out.trans (hb.mono HB3.out.size)); have HL4 := Lib.hid ((HL3.out.below hb (Nat.le_refl _)).more hb.size); have HX4 := Lib.hid ((HX3.out.below hb (Nat.le_refl _)).more hb.size)
    clear hb HL3 HX3 HY3
    cases hv : versB l
    · have HV := Lib.hid hv
      have hk0 : k0 = 0 := by
        have := HK.out
        unfold tipsB at this
        rw [hv, if_neg (by simp)] at this
        simpa using this.symm
      subst hk0
      clear hv
      go_wp2_with (first
        | (go_at_call 14; refine (implVersionsValid_any y m c l _ _ HL4.out (Nat.le_refl _) HZ.out).mono ?_; rintro e w5 ⟨rfl, hb⟩; rw [HV.out]; have HB5 := Lib.hid (HB4.out.trans (hb.mono HB4.out.size)); clear hb)
        | (go_at_call 16; refine (alive_any _).mono ?_; rintro e w' ⟨rfl, rfl⟩))
      go_ret
      exact ⟨rfl, HB5.out⟩
    · have HV := Lib.hid hv
      have HPOS := Lib.hid (tips_pos hv); have HFD := Lib.hid (fun n j hn hj => tips_found (l := l) hv (n := n) (j := j) hn hj)
      clear hv
      obtain ⟨T, hT⟩ : ∃ T, tipsB l = T := ⟨_, rfl⟩
      rw [hT] at HX4 HK HPOS HFD
      clear hT
      go_wp2_with fail
      refine (implVersionsValid_any y m c l _ _ HL4.out (Nat.le_refl _) HZ.out).mono ?_
      rintro e w5 ⟨rfl, hb⟩
      rw [HV.out]
      have HB5 := Lib.hid (HB4.out.trans (hb.mono HB4.out.size)); have HL5 := Lib.hid ((HL4.out.below hb (Nat.le_refl _)).more hb.size); have HX5 := Lib.hid ((HX4.out.below hb (Nat.le_refl _)).more hb.size)
      clear hb HL4 HX4
      go_wp2_with fail
      go_loopw [5] (fun i wr => ∃ k : Nat, k ≤ m ∧ i = .int .i64 k ∧ Below w5.heap.size w5 wr) (fun i _ => m - (intOf i).toNat)
      case atStart => exact ⟨0, by omega, rfl, Below.refl _ _⟩
      case round =>
        obtain ⟨k, hk, rfl, hb⟩ := hrel
        have HBW := Lib.hid hb
        have hsz := hb.size
        clear hb
        by_cases hlt : k < m
        · have hkl : k < l.length := by have := HLEN.out; omega
          have HFK := Lib.hid (HFD.out k k0 hkl (by have := HK.out; omega))
          go_wp2_with fail
          go_loopw [6, 7] (fun fv jv wr2 => ∃ j : Nat, j ≤ k0 ∧ jv = .int .i64 j ∧ fv = .bool (foundJ l T k j) ∧ Below w5.heap.size w5 wr2) (fun _ jv _ => k0 - (intOf jv).toNat)
          case atStart => exact ⟨0, by omega, rfl, rfl, HBW.out⟩
          case round =>
            obtain ⟨j, hj, rfl, rfl, hb⟩ := hrel
            have HB2W := Lib.hid hb
            have hsz2 := hb.size
            clear hb
            by_cases hlt2 : j < k0
            · have hjl : j < T.length := by have := HK.out; omega
              have HS := Lib.hid (foundJ_step (l := l) (n := k) hjl)
              obtain ⟨b, off, rfl, hbb, hcc⟩ := (HX5.out.below HB2W.out (Nat.le_refl _)).at hlt2
              obtain ⟨g, hg⟩ : ∃ g, foundJ l T k j = g := ⟨_, rfl⟩
              rw [hg] at HS ⊢
              clear hg
              obtain ⟨u, hu⟩ : ∃ u, nthI T j = u := ⟨_, rfl⟩
              rw [hu] at HS hcc
              clear hu
              cases g
              · obtain ⟨X, hX⟩ : ∃ X, lineB l u = X := ⟨_, rfl⟩
                have HX := Lib.hid hX
                rw [hX] at HS
                clear hX
                go_wp2_with (first
                  | (go_at_call 21; (with_reducible refine (implLineOf_any y m c l u _ _ (HL5.out.below HB2W.out (Nat.le_refl _)) hsz2 HZ.out).mono ?_); rintro e w6 ⟨v6, rfl, ho, hb⟩; rw [HX.out] at ho; obtain ⟨x6, n6, c6, rfl, hi⟩ := ho.ints; have HI6 := Lib.hid hi; have HB6 := Lib.hid (HB2W.out.trans (hb.mono hsz2)); clear ho hi hb)
                  | (go_at_call 28; (with_reducible refine (hasInt_any _ _ _ X (k : Int) _ _ HI6.out).mono ?_); rintro e w' ⟨rfl, hw⟩; subst hw))
                go_roundw
                case rel => exact ⟨j + 1, by omega, by go_num, by rw [HS.out]; simp, HB6.out⟩
                case measure => simp [intOf]; omega
              · go_wp2_with fail
                go_roundw
                case rel => exact ⟨j + 1, by omega, by go_num, by rw [HS.out]; rfl, HB2W.out⟩
                case measure => simp [intOf]; omega
            · obtain rfl : j = k0 := by omega
              rw [HFK.out]
              go_wp2_with fail
              go_roundw
              case rel => exact ⟨k + 1, by omega, by go_num, HB2W.out⟩
              case measure => simp [intOf]; omega
        · have HBA := Lib.hid (HB5.out.trans (HBW.out.mono HB5.out.size))
          by_cases h0 : 0 < m
          · have h1 : 0 < k0 := by have := HPOS.out.2 (by have := HLEN.out; omega); have := HK.out; omega
            have d1 : ((0 : Int) < (k0 : Int)) := by omega
            have d2 : ((0 : Int) < (m : Int)) := by omega
            go_wp2_with fail
            go_ret
            exact ⟨ret_bool (by simp; try omega), HBA.out⟩
          · obtain rfl : m = 0 := by omega
            have h1 : k0 = 0 := by
              by_cases h : 0 < k0
              · have := HPOS.out.1 (by have := HK.out; omega); have := HLEN.out; omega
              · omega
            subst h1
            go_wp2_with fail
            go_ret
            exact ⟨ret_bool (by simp), HBA.out⟩
end Go.Proofs.Ytminmakiahjfbaa
