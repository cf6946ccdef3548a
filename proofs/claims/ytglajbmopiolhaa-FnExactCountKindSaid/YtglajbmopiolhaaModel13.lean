/-
  Chapter 13's model: what happened between two roots, and carrying it.
-/
import Derived.Test.YtglajbmopiolhaaMath13e
import Derived.Test.YtglajbmopiolhaaChgs
import Derived.Test.YtglajbmopiolhaaDrop
namespace Go.Proofs.Ytglajbmopiolhaa
open Go.RowKit
set_option linter.unusedVariables false
theorem filt_yes {xs : List ByteArray} {f : ByteArray → Bool} {g : ByteArray → Int} {k : Nat} (h : k < xs.length) (hf : f (nthS xs k) = true) : ((xs.take (k + 1)).filter f).map (fun s => (s, g s)) = ((xs.take k).filter f).map (fun s => (s, g s)) ++ [(nthS xs k, g (nthS xs k))] := by
  rw [take_snocS h, List.filter_append, List.map_append, List.filter_cons, if_pos hf]; rfl
theorem filt_no {xs : List ByteArray} {f : ByteArray → Bool} {g : ByteArray → Int} {k : Nat} (h : k < xs.length) (hf : f (nthS xs k) = false) : ((xs.take (k + 1)).filter f).map (fun s => (s, g s)) = ((xs.take k).filter f).map (fun s => (s, g s)) := by
  rw [take_snocS h, List.filter_append, List.filter_cons, if_neg (by rw [hf]; simp)]; simp
theorem filt_few {xs : List ByteArray} {f : ByteArray → Bool} {g : ByteArray → Int} {k : Nat} (h : k ≤ 27) : (((xs.take k).filter f).map (fun s => (s, g s))).length ≤ 27 := by
  rw [List.length_map]
  exact Nat.le_trans (List.length_filter_le _ _) (by rw [List.length_take]; omega)
set_option maxHeartbeats 2000000 in
set_option maxRecDepth 100000 in
theorem specChangesOf_any (x : Option Addr) (n cap : Nat) (l : List Pc) (p q : Int) (B : Nat) (w : World) (h : Pcs w B x n cap l) (hB : B ≤ w.heap.size) (hz : ∀ k, (nthP l k).2.size ≤ 1048576) :
    Calls Try.prog 13 #[.slice x n cap, .int .i64 p, .int .i64 q] w (NewC (chgB l p q) w) := by
  have HO0 := Lib.hid (OwnL.new enG 42 (size := 2) w)
  have HB0 := Lib.hid ((Below.refl w.heap.size w).alloc (Nat.le_refl _) (.cells #[] 42))
  have HH := Lib.hid h; have HZ := Lib.hid hz
  clear h hz
  go_enter Try.func13, Try.ntmps13
  go_wp2_with fail
  refine (specAllFiles_any x n cap l p B _ (HH.out.below HB0.out hB) (Nat.le_trans hB HB0.out.size) HZ.out).mono ?_
  rintro e w1 ⟨v1, rfl, ho, hb⟩
  obtain ⟨y1, m1, d1, rfl, hi⟩ := ho.lst
  have HB1 := Lib.hid (HB0.out.trans (hb.mono HB0.out.size)); have HO1 := Lib.hid (HO0.out.below hb); have HX1 := Lib.hid (ho.mono HB0.out.size); have HLX := Lib.hid hi.len
  have hm1 : m1 ≤ 27 := by have := all_many (l := l) (root := p); have := hi.len; omega
  clear hb ho hi HO0
  go_wp2_with fail
  refine (specAllFiles_any x n cap l q B _ (HH.out.below HB1.out hB) (Nat.le_trans hB HB1.out.size) HZ.out).mono ?_
  rintro e w2 ⟨v2, rfl, ho, hb⟩
  obtain ⟨y2, m2, d2, rfl, hi⟩ := ho.lst
  have HB2 := Lib.hid (HB1.out.trans (hb.mono HB1.out.size)); have HO2 := Lib.hid (HO1.out.below hb); have HX2 := Lib.hid (HX1.out.below hb); have HY2 := Lib.hid (ho.mono HB1.out.size); have HLY := Lib.hid hi.len
  have hm2 : m2 ≤ 27 := by have := all_many (l := l) (root := q); have := hi.len; omega
  clear hb ho hi HO1 HX1 HB0 HB1
  have HMX := Lib.hid (all_mil (l := l) (root := p)); have HMY := Lib.hid (all_mil (l := l) (root := q))
  have HEND := Lib.hid (show chgB l p q = (((allB l p).take m1).filter (fun s => !(rdB l q s).2)).map (fun s => (s, 2)) ++ (((allB l q).take m2).filter (newT l p q)).map (fun s => (s, newK l p s)) by
    rw [List.take_of_length_le (by have := HLX.out; omega), List.take_of_length_le (by have := HLY.out; omega)]; rfl)
  obtain ⟨xs, hxs⟩ : ∃ xs, allB l p = xs := ⟨_, rfl⟩
  obtain ⟨ys, hys⟩ : ∃ ys, allB l q = ys := ⟨_, rfl⟩
  rw [hxs] at HX2 HLX HMX HEND
  rw [hys] at HY2 HLY HMY HEND
  clear hxs hys
  go_wp2_with fail
  go_loopw [7, 10] (fun v i wr => ∃ k : Nat, k ≤ m1 ∧ i = .int .i64 k ∧ OwnC wr w.heap.size v (((xs.take k).filter (fun s => !(rdB l q s).2)).map (fun s => (s, 2))) ∧ Below w.heap.size w wr ∧ OwnS wr w.heap.size (.slice y1 m1 d1) xs ∧ OwnS wr w.heap.size (.slice y2 m2 d2) ys) (fun _ i _ => m1 - (intOf i).toNat)
  case atStart => exact ⟨0, by omega, rfl, HO2.out, HB2.out, HX2.out, HY2.out⟩
  case round =>
    obtain ⟨k, hk, rfl, ho, hb, hx, hy⟩ := hrel
    have HO := Lib.hid ho; have HB := Lib.hid hb; have HX := Lib.hid hx; have HY := Lib.hid hy
    have hsz := hb.size
    clear ho hb hx hy HO2 HB2 HX2 HY2
    by_cases hlt : k < m1
    · have hkl : k < xs.length := by have := HLX.out; omega
      obtain ⟨b, off, rfl, hbb, hc⟩ := HX.out.lst'.atS hlt
      have hzk := HMX.out k
      have HST := Lib.hid (filt_yes (f := fun s => !(rdB l q s).2) (g := fun _ => 2) hkl); have HSN := Lib.hid (filt_no (f := fun s => !(rdB l q s).2) (g := fun _ => 2) hkl)
      have hfew := filt_few (xs := xs) (f := fun s => !(rdB l q s).2) (g := fun _ => 2) (show k ≤ 27 by omega)
      obtain ⟨s, hs⟩ : ∃ s, s = nthS xs k := ⟨_, rfl⟩
      rw [← hs] at hc hzk HST HSN
      have HS := Lib.hid hs
      clear hs
      go_wp2_with fail
      refine (specReadAt_any x n cap l q s B _ (HH.out.below HB.out hB) (Nat.le_trans hB hsz) HZ.out hzk).mono ?_
      rintro e w3 ⟨rfl, hb3⟩
      have HB3 := Lib.hid (HB.out.trans (hb3.mono hsz)); have HO3 := Lib.hid (HO.out.below hb3); have HX3 := Lib.hid (HX.out.below hb3); have HY3 := Lib.hid (HY.out.below hb3)
      have hsz3 := HB3.out.size
      obtain ⟨b', off', e', _, hc'⟩ := HX3.out.lst'.atS hlt
      simp only [Option.some.injEq, Addr.mk.injEq, and_true] at e'
      obtain ⟨rfl, rfl⟩ := e'
      rw [← HS.out] at hc'
      clear hb3 HO HX HY
      obtain ⟨⟨t, g⟩, hR⟩ : ∃ R, rdB l q s = R := ⟨_, rfl⟩
      rw [hR] at HST HSN ⊢
      clear hR
      cases g
      · have HE := Lib.hid (HST.out rfl)
        clear HST HSN
        go_wp2_with (at_builtin; refine wpList_app1L eltCh encEn (s, 2) _ rfl HO3.out (by omega) hsz3 rfl _ _ rfl rfl rfl ?_; intro v' w' hown hgrow; have HW := Lib.hid hown; have HGR := Lib.hid hgrow; have HXN := Lib.hid (World.ownsRow.kept HX3.out hgrow (own_ne HX3.out HO3.out (by decide))); have HYN := Lib.hid (World.ownsRow.kept HY3.out hgrow (own_ne HY3.out HO3.out (by decide))); clear hown hgrow)
        go_roundw
        case rel => exact ⟨k + 1, by omega, by go_num, by rw [HE.out]; exact HW.out, HB3.out.grown HGR.out hsz3 HO3.out.at, HXN.out, HYN.out⟩
        case measure => simp [intOf]; omega
      · have HE := Lib.hid (HSN.out rfl)
        clear HST HSN
        go_wp2_with fail
        go_roundw
        case rel => exact ⟨k + 1, by omega, by go_num, by rw [HE.out]; exact HO3.out, HB3.out, HX3.out, HY3.out⟩
        case measure => simp [intOf]; omega
    · obtain rfl : k = m1 := by omega
      have hgone := filt_few (xs := xs) (f := fun s => !(rdB l q s).2) (g := fun _ => 2) hm1
      obtain ⟨G, hG⟩ : ∃ G, ((xs.take k).filter (fun s => !(rdB l q s).2)).map (fun s => (s, (2 : Int))) = G := ⟨_, rfl⟩
      rw [hG] at HO HEND hgone
      clear hG
      go_wp2_with fail
      go_loopw [7, 13] (fun v i wr => ∃ j : Nat, j ≤ m2 ∧ i = .int .i64 j ∧ OwnC wr w.heap.size v (G ++ ((ys.take j).filter (newT l p q)).map (fun s => (s, newK l p s))) ∧ Below w.heap.size w wr ∧ OwnS wr w.heap.size (.slice y2 m2 d2) ys) (fun _ i _ => m2 - (intOf i).toNat)
      case atStart => exact ⟨0, by omega, rfl, by simpa using HO.out, HB.out, HY.out⟩
      case round =>
        obtain ⟨j, hj, rfl, ho, hb, hy⟩ := hrel
        have HOW := Lib.hid ho; have HBW := Lib.hid hb; have HYW := Lib.hid hy
        have hszw := hb.size
        clear ho hb hy HO HB HX HY
        by_cases hlt2 : j < m2
        · have hjl : j < ys.length := by have := HLY.out; omega
          obtain ⟨b, off, rfl, hbb, hc⟩ := HYW.out.lst'.atS hlt2
          have hzk := HMY.out j
          have HST := Lib.hid (filt_yes (f := newT l p q) (g := newK l p) hjl); have HSN := Lib.hid (filt_no (f := newT l p q) (g := newK l p) hjl)
          have hfew := filt_few (xs := ys) (f := newT l p q) (g := newK l p) (show j ≤ 27 by omega)
          obtain ⟨s, hs⟩ : ∃ s, s = nthS ys j := ⟨_, rfl⟩
          rw [← hs] at hc hzk HST HSN
          have HS := Lib.hid hs
          clear hs
          have hlen : (G ++ ((ys.take j).filter (newT l p q)).map (fun s => (s, newK l p s))).length ≤ 2000000 := by rw [List.length_append]; omega
          have HLENG := Lib.hid hlen
          clear hlen hfew
          go_wp2_with fail
          refine (specReadAt_any x n cap l q s B _ (HH.out.below HBW.out hB) (Nat.le_trans hB hszw) HZ.out hzk).mono ?_
          rintro e w3 ⟨rfl, hb3⟩
          have HB3 := Lib.hid (HBW.out.trans (hb3.mono hszw)); have HO3 := Lib.hid (HOW.out.below hb3); have HY3 := Lib.hid (HYW.out.below hb3)
          have hsz3 := HB3.out.size
          obtain ⟨b', off', e', _, hc'⟩ := HY3.out.lst'.atS hlt2
          simp only [Option.some.injEq, Addr.mk.injEq, and_true] at e'
          obtain ⟨rfl, rfl⟩ := e'
          rw [← HS.out] at hc'
          clear hb3 HOW HYW
          obtain ⟨⟨t2, g2⟩, hR2⟩ : ∃ R, rdB l q s = R := ⟨_, rfl⟩
          have HR2 := Lib.hid hR2
          rw [hR2]
          clear hR2
          go_wp2_with fail
          refine (specReadAt_any x n cap l p s B _ (HH.out.below HB3.out hB) (Nat.le_trans hB hsz3) HZ.out hzk).mono ?_
          rintro e w4 ⟨rfl, hb4⟩
          have HB4 := Lib.hid (HB3.out.trans (hb4.mono hsz3)); have HO4 := Lib.hid (HO3.out.below hb4); have HY4 := Lib.hid (HY3.out.below hb4)
          have hsz4 := HB4.out.size
          obtain ⟨b', off', e', _, hc4⟩ := HY4.out.lst'.atS hlt2
          simp only [Option.some.injEq, Addr.mk.injEq, and_true] at e'
          obtain ⟨rfl, rfl⟩ := e'
          rw [← HS.out] at hc4
          clear hb4 HO3 HY3 hc hc'
          obtain ⟨⟨t1, g1⟩, hR1⟩ : ∃ R, rdB l p s = R := ⟨_, rfl⟩
          have HR1 := Lib.hid hR1
          rw [hR1]
          clear hR1
          cases g1
          · have HE := Lib.hid (HST.out (by unfold newT; rw [HR1.out]; rfl))
            have HK := Lib.hid (show newK l p s = 0 by unfold newK; rw [HR1.out]; rfl)
            clear HST HSN
            go_wp2_with (at_builtin; refine wpList_app1L eltCh encEn (s, 0) _ rfl HO4.out HLENG.out hsz4 rfl _ _ rfl rfl rfl ?_; intro v' w' hown hgrow; have HW := Lib.hid hown; have HGR := Lib.hid hgrow; have HYN := Lib.hid (World.ownsRow.kept HY4.out hgrow (own_ne HY4.out HO4.out (by decide))); clear hown hgrow)
            go_roundw
            case rel => exact ⟨j + 1, by omega, by go_num, by rw [HE.out, HK.out, ← List.append_assoc]; exact HW.out, HB4.out.grown HGR.out hsz4 HO4.out.at, HYN.out⟩
            case measure => simp [intOf]; omega
          · have HK := Lib.hid (show newK l p s = 1 by unfold newK; rw [HR1.out]; rfl)
            cases ht : (t1.toList == t2.toList)
            · have htn : (t1.toList != t2.toList) = true := by unfold bne; rw [ht]; rfl
              have HE := Lib.hid (HST.out (by unfold newT; rw [HR1.out, HR2.out]; simp only [Bool.not_true, Bool.false_or]; rw [str_beq] at ht; rw [ht]; rfl))
              clear HST HSN
              go_wp2_with (at_builtin; refine wpList_app1L eltCh encEn (s, 1) _ rfl HO4.out HLENG.out hsz4 rfl _ _ rfl rfl rfl ?_; intro v' w' hown hgrow; have HW := Lib.hid hown; have HGR := Lib.hid hgrow; have HYN := Lib.hid (World.ownsRow.kept HY4.out hgrow (own_ne HY4.out HO4.out (by decide))); clear hown hgrow)
              go_roundw
              case rel => exact ⟨j + 1, by omega, by go_num, by rw [HE.out, HK.out, ← List.append_assoc]; exact HW.out, HB4.out.grown HGR.out hsz4 HO4.out.at, HYN.out⟩
              case measure => simp [intOf]; omega
            · have htn : (t1.toList != t2.toList) = false := by unfold bne; rw [ht]; rfl
              have HE := Lib.hid (HSN.out (by unfold newT; rw [HR1.out, HR2.out]; simp only [Bool.not_true, Bool.false_or]; rw [str_beq] at ht; rw [ht]; rfl))
              clear HST HSN
              go_wp2_with fail
              go_roundw
              case rel => exact ⟨j + 1, by omega, by go_num, by rw [HE.out]; exact HO4.out, HB4.out, HY4.out⟩
              case measure => simp [intOf]; omega
        · obtain rfl : j = m2 := by omega
          go_wp2_with fail
          go_ret
          exact ⟨_, rfl, by rw [HEND.out]; exact HOW.out, HBW.out⟩
end Go.Proofs.Ytglajbmopiolhaa
