/-
  Chapter 13's model: what happened between two roots, and carrying it.
-/
import Derived.Test.YtglajbmopiolhaaGreatDoorMath13
import Derived.Test.YtglajbmopiolhaaGreatDoorChgs
import Derived.Test.YtglajbmopiolhaaGreatDoorDrop
namespace Go.Proofs.YtglajbmopiolhaaGreatDoor
open Go.RowKit
set_option linter.unusedVariables false
theorem filt_yes {xs : List ByteArray} {f : ByteArray → Bool} {g : ByteArray → Int} {k : Nat} (h : k < xs.length) (hf : f (nthS xs k) = true) : ((xs.take (k + 1)).filter f).map (fun s => (s, g s)) = ((xs.take k).filter f).map (fun s => (s, g s)) ++ [(nthS xs k, g (nthS xs k))] := by
  rw [take_snocS h, List.filter_append, List.map_append, List.filter_cons, if_pos hf]; rfl
theorem filt_no {xs : List ByteArray} {f : ByteArray → Bool} {g : ByteArray → Int} {k : Nat} (h : k < xs.length) (hf : f (nthS xs k) = false) : ((xs.take (k + 1)).filter f).map (fun s => (s, g s)) = ((xs.take k).filter f).map (fun s => (s, g s)) := by
  rw [take_snocS h, List.filter_append, List.filter_cons, if_neg (by rw [hf]; simp)]; simp
theorem filt_few {xs : List ByteArray} {f : ByteArray → Bool} {g : ByteArray → Int} {k : Nat} (h : k ≤ 27) : (((xs.take k).filter f).map (fun s => (s, g s))).length ≤ 27 := by
  rw [List.length_map]
  exact Nat.le_trans (List.length_filter_le _ _) (by rw [List.length_take]; omega)
set_option maxHeartbeats 2000000 in
set_option maxRecDepth 100000 in
theorem specChangesOf_any (x : Option Addr) (n cap : Nat) (l : List Pc) (p q : Int) (B : Nat) (w : World) (h : Pcs w B x n cap l) (hB : B ≤ w.heap.size) (hz : ∀ k, (nthP l k).2.size ≤ 1048576) :
    Calls Tryz.prog 17 #[.slice x n cap, .int .i64 p, .int .i64 q] w (NewC (chgB l p q) w) := by
  have HO0 := Lib.hid (OwnL.new enG 40 (size := 2) w)
  have HB0 := Lib.hid ((Below.refl w.heap.size w).alloc (Nat.le_refl _) (.cells #[] 40))
  have HH := Lib.hid h; have HZ := Lib.hid hz
  clear h hz
  go_enter Tryz.func17, Tryz.ntmps17
  go_wp2_with fail
  refine (specAllFiles_any x n cap l p B _ (HH.out.below HB0.out hB) (Nat.le_trans hB HB0.out.size) HZ.out).mono ?_
  rintro e w1 ⟨v1, rfl, ho, hb⟩
  obtain ⟨y1, m1, d1, rfl, hi⟩ := ho.lst
  have HB1 := Lib.hid (HB0.out.trans (hb.mono HB0.out.size)); have HO1 := Lib.hid (HO0.out.below hb); have HX1 := Lib.hid (ho.mono HB0.out.size); have HLX := Lib.hid hi.len
  have hm1 : m1 ≤ 27 := by have := all_many (l := l) (root := p); have := hi.len; omega
  clear hb ho hi HO0
  go_wp2_with fail
  refine (specAllFiles_any x n cap l q B _ (HH.out.below HB1.out hB) (Nat.le_trans hB HB1.out.size) HZ.out).mono ?_
  rintro e w2 ⟨v2, rfl, ho, hb⟩
  obtain ⟨y2, m2, d2, rfl, hi⟩ := ho.lst
  have HB2 := Lib.hid (HB1.out.trans (hb.mono HB1.out.size)); have HO2 := Lib.hid (HO1.out.below hb); have HX2 := Lib.hid (HX1.out.below hb); have HY2 := Lib.hid (ho.mono HB1.out.size); have HLY := Lib.hid hi.len
  have hm2 : m2 ≤ 27 := by have := all_many (l := l) (root := q); have := hi.len; omega
  clear hb ho hi HO1 HX1 HB0 HB1
  have HMX := Lib.hid (all_mil (l := l) (root := p)); have HMY := Lib.hid (all_mil (l := l) (root := q))
  have HEND := Lib.hid (show chgB l p q = (((allB l p).take m1).filter (fun s => !(rdB l q s).2)).map (fun s => (s, 2)) ++ (((allB l q).take m2).filter (newT l p q)).map (fun s => (s, newK l p s)) by
    rw [List.take_of_length_le (by have := HLX.out; omega), List.take_of_length_le (by have := HLY.out; omega)]; rfl)
  obtain ⟨xs, hxs⟩ : ∃ xs, allB l p = xs := ⟨_, rfl⟩
  obtain ⟨ys, hys⟩ : ∃ ys, allB l q = ys := ⟨_, rfl⟩
  rw [hxs] at HX2 HLX HMX HEND
  rw [hys] at HY2 HLY HMY HEND
  clear hxs hys
  go_wp2_with fail
  go_loopw [7, 10] (fun v i wr => ∃ k : Nat, k ≤ m1 ∧ i = .int .i64 k ∧ OwnC wr w.heap.size v (((xs.take k).filter (fun s => !(rdB l q s).2)).map (fun s => (s, 2))) ∧ Below w.heap.size w wr ∧ OwnS wr w.heap.size (.slice y1 m1 d1) xs ∧ OwnS wr w.heap.size (.slice y2 m2 d2) ys) (fun _ i _ => m1 - (intOf i).toNat)
  case atStart => exact ⟨0, by omega, rfl, HO2.out, HB2.out, HX2.out, HY2.out⟩
  case round =>
    obtain ⟨k, hk, rfl, ho, hb, hx, hy⟩ := hrel
    have HO := Lib.hid ho; have HB := Lib.hid hb; have HX := Lib.hid hx; have HY := Lib.hid hy
    have hsz := hb.size
    clear ho hb hx hy HO2 HB2 HX2 HY2
    by_cases hlt : k < m1
    · have hkl : k < xs.length := by have := HLX.out; omega
      obtain ⟨b, off, rfl, hbb, hc⟩ := HX.out.lst'.atS hlt
      have hzk := HMX.out k
      have HST := Lib.hid (filt_yes (f := fun s => !(rdB l q s).2) (g := fun _ => 2) hkl); have HSN := Lib.hid (filt_no (f := fun s => !(rdB l q s).2) (g := fun _ => 2) hkl)
      have hfew := filt_few (xs := xs) (f := fun s => !(rdB l q s).2) (g := fun _ => 2) (show k ≤ 27 by omega)
      obtain ⟨s, hs⟩ : ∃ s, s = nthS xs k := ⟨_, rfl⟩
      rw [← hs] at hc hzk HST HSN
      have HS := Lib.hid hs
      clear hs
      go_wp2_with fail
      refine (specReadAt_any x n cap l q s B _ (HH.out.below HB.out hB) (Nat.le_trans hB hsz) HZ.out hzk).mono ?_
      rintro e w3 ⟨rfl, hb3⟩
      have HB3 := Lib.hid (HB.out.trans (hb3.mono hsz)); have HO3 := Lib.hid (HO.out.below hb3); have HX3 := Lib.hid (HX.out.below hb3); have HY3 := Lib.hid (HY.out.below hb3)
      have hsz3 := HB3.out.size
      obtain ⟨b', off', e', _, hc'⟩ := HX3.out.lst'.atS hlt
      simp only [Option.some.injEq, Addr.mk.injEq, and_true] at e'
      obtain ⟨rfl, rfl⟩ := e'
      rw [← HS.out] at hc'
      clear hb3 HO HX HY
      obtain ⟨⟨t, g⟩, hR⟩ : ∃ R, rdB l q s = R := ⟨_, rfl⟩
      rw [hR] at HST HSN ⊢
      clear hR
      cases g
      · have HE := Lib.hid (HST.out rfl)
        clear HST HSN
        go_wp2_with (at_builtin; refine wpList_app1L eltCh encEn (s, 2) _ rfl HO3.out (by omega) hsz3 rfl _ _ rfl rfl rfl ?_; intro v' w' hown hgrow; have HW := Lib.hid hown; have HGR := Lib.hid hgrow; have HXN := Lib.hid (World.ownsRow.kept HX3.out hgrow (own_ne HX3.out HO3.out (by decide))); have HYN := Lib.hid (World.ownsRow.kept HY3.out hgrow (own_ne HY3.out HO3.out (by decide))); clear hown hgrow)
        go_roundw
        case rel => exact ⟨k + 1, by omega, by go_num, by rw [HE.out]; exact HW.out, HB3.out.grown HGR.out hsz3 HO3.out.at, HXN.out, HYN.out⟩
        case measure => simp [intOf]; omega
      · have HE := Lib.hid (HSN.out rfl)
        clear HST HSN
        go_wp2_with fail
        go_roundw
        case rel => exact ⟨k + 1, by omega, by go_num, by rw [HE.out]; exact HO3.out, HB3.out, HX3.out, HY3.out⟩
        case measure => simp [intOf]; omega
    · obtain rfl : k = m1 := by omega
      have hgone := filt_few (xs := xs) (f := fun s => !(rdB l q s).2) (g := fun _ => 2) hm1
      obtain ⟨G, hG⟩ : ∃ G, ((xs.take k).filter (fun s => !(rdB l q s).2)).map (fun s => (s, (2 : Int))) = G := ⟨_, rfl⟩
      rw [hG] at HO HEND hgone
      clear hG
      go_wp2_with fail
      go_loopw [7, 13] (fun v i wr => ∃ j : Nat, j ≤ m2 ∧ i = .int .i64 j ∧ OwnC wr w.heap.size v (G ++ ((ys.take j).filter (newT l p q)).map (fun s => (s, newK l p s))) ∧ Below w.heap.size w wr ∧ OwnS wr w.heap.size (.slice y2 m2 d2) ys) (fun _ i _ => m2 - (intOf i).toNat)
      case atStart => exact ⟨0, by omega, rfl, by simpa using HO.out, HB.out, HY.out⟩
      case round =>
        obtain ⟨j, hj, rfl, ho, hb, hy⟩ := hrel
        have HOW := Lib.hid ho; have HBW := Lib.hid hb; have HYW := Lib.hid hy
        have hszw := hb.size
        clear ho hb hy HO HB HX HY
        by_cases hlt2 : j < m2
        · have hjl : j < ys.length := by have := HLY.out; omega
          obtain ⟨b, off, rfl, hbb, hc⟩ := HYW.out.lst'.atS hlt2
          have hzk := HMY.out j
          have HST := Lib.hid (filt_yes (f := newT l p q) (g := newK l p) hjl); have HSN := Lib.hid (filt_no (f := newT l p q) (g := newK l p) hjl)
          have hfew := filt_few (xs := ys) (f := newT l p q) (g := newK l p) (show j ≤ 27 by omega)
          obtain ⟨s, hs⟩ : ∃ s, s = nthS ys j := ⟨_, rfl⟩
          rw [← hs] at hc hzk HST HSN
          have HS := Lib.hid hs
          clear hs
          have hlen : (G ++ ((ys.take j).filter (newT l p q)).map (fun s => (s, newK l p s))).length ≤ 2000000 := by rw [List.length_append]; omega
          have HLENG := Lib.hid hlen
          clear hlen hfew
          go_wp2_with fail
          refine (specReadAt_any x n cap l q s B _ (HH.out.below HBW.out hB) (Nat.le_trans hB hszw) HZ.out hzk).mono ?_
          rintro e w3 ⟨rfl, hb3⟩
          have HB3 := Lib.hid (HBW.out.trans (hb3.mono hszw)); have HO3 := Lib.hid (HOW.out.below hb3); have HY3 := Lib.hid (HYW.out.below hb3)
          have hsz3 := HB3.out.size
          obtain ⟨b', off', e', _, hc'⟩ := HY3.out.lst'.atS hlt2
          simp only [Option.some.injEq, Addr.mk.injEq, and_true] at e'
          obtain ⟨rfl, rfl⟩ := e'
          rw [← HS.out] at hc'
          clear hb3 HOW HYW
          obtain ⟨⟨t2, g2⟩, hR2⟩ : ∃ R, rdB l q s = R := ⟨_, rfl⟩
          have HR2 := Lib.hid hR2
          rw [hR2]
          clear hR2
          go_wp2_with fail
          refine (specReadAt_any x n cap l p s B _ (HH.out.below HB3.out hB) (Nat.le_trans hB hsz3) HZ.out hzk).mono ?_
          rintro e w4 ⟨rfl, hb4⟩
          have HB4 := Lib.hid (HB3.out.trans (hb4.mono hsz3)); have HO4 := Lib.hid (HO3.out.below hb4); have HY4 := Lib.hid (HY3.out.below hb4)
          have hsz4 := HB4.out.size
          obtain ⟨b', off', e', _, hc4⟩ := HY4.out.lst'.atS hlt2
          simp only [Option.some.injEq, Addr.mk.injEq, and_true] at e'
          obtain ⟨rfl, rfl⟩ := e'
          rw [← HS.out] at hc4
          clear hb4 HO3 HY3 hc hc'
          obtain ⟨⟨t1, g1⟩, hR1⟩ : ∃ R, rdB l p s = R := ⟨_, rfl⟩
          have HR1 := Lib.hid hR1
          rw [hR1]
          clear hR1
          cases g1
          · have HE := Lib.hid (HST.out (by unfold newT; rw [HR1.out]; rfl))
            have HK := Lib.hid (show newK l p s = 0 by unfold newK; rw [HR1.out]; rfl)
            clear HST HSN
            go_wp2_with (at_builtin; refine wpList_app1L eltCh encEn (s, 0) _ rfl HO4.out HLENG.out hsz4 rfl _ _ rfl rfl rfl ?_; intro v' w' hown hgrow; have HW := Lib.hid hown; have HGR := Lib.hid hgrow; have HYN := Lib.hid (World.ownsRow.kept HY4.out hgrow (own_ne HY4.out HO4.out (by decide))); clear hown hgrow)
            go_roundw
            case rel => exact ⟨j + 1, by omega, by go_num, by rw [HE.out, HK.out, ← List.append_assoc]; exact HW.out, HB4.out.grown HGR.out hsz4 HO4.out.at, HYN.out⟩
            case measure => simp [intOf]; omega
          · have HK := Lib.hid (show newK l p s = 1 by unfold newK; rw [HR1.out]; rfl)
            cases ht : (t1.toList == t2.toList)
            · have htn : (t1.toList != t2.toList) = true := by unfold bne; rw [ht]; rfl
              have HE := Lib.hid (HST.out (by unfold newT; rw [HR1.out, HR2.out]; simp only [Bool.not_true, Bool.false_or]; rw [str_beq] at ht; rw [ht]; rfl))
              clear HST HSN
              go_wp2_with (at_builtin; refine wpList_app1L eltCh encEn (s, 1) _ rfl HO4.out HLENG.out hsz4 rfl _ _ rfl rfl rfl ?_; intro v' w' hown hgrow; have HW := Lib.hid hown; have HGR := Lib.hid hgrow; have HYN := Lib.hid (World.ownsRow.kept HY4.out hgrow (own_ne HY4.out HO4.out (by decide))); clear hown hgrow)
              go_roundw
              case rel => exact ⟨j + 1, by omega, by go_num, by rw [HE.out, HK.out, ← List.append_assoc]; exact HW.out, HB4.out.grown HGR.out hsz4 HO4.out.at, HYN.out⟩
              case measure => simp [intOf]; omega
            · have htn : (t1.toList != t2.toList) = false := by unfold bne; rw [ht]; rfl
              have HE := Lib.hid (HSN.out (by unfold newT; rw [HR1.out, HR2.out]; simp only [Bool.not_true, Bool.false_or]; rw [str_beq] at ht; rw [ht]; rfl))
              clear HST HSN
              go_wp2_with fail
              go_roundw
              case rel => exact ⟨j + 1, by omega, by go_num, by rw [HE.out]; exact HO4.out, HB4.out, HY4.out⟩
              case measure => simp [intOf]; omega
        · obtain rfl : j = m2 := by omega
          go_wp2_with fail
          go_ret
          exact ⟨_, rfl, by rw [HEND.out]; exact HOW.out, HBW.out⟩
end Go.Proofs.YtglajbmopiolhaaGreatDoor
/-
  Chapter 13's model: carrying changes, and how many are of a kind.
-/
namespace Go.Proofs.YtglajbmopiolhaaGreatDoor
open Go.RowKit
set_option linter.unusedVariables false
theorem drop_carry {other : Int} {l : List Pc} {p : Int} {cs : List Ent} {k : Nat} (h : k < cs.length) : carryG other l p (cs.drop k) = carryG other l p (nthE cs k :: cs.drop (k + 1)) := by
  rw [List.drop_eq_getElem_cons h, ← nthE_get h]
theorem carry_end {other : Int} {l : List Pc} {p : Int} {cs : List Ent} {k : Nat} (h : cs.length ≤ k) : carryG other l p (cs.drop k) = some (l, p) := by
  rw [List.drop_of_length_le h]; rfl
set_option maxHeartbeats 4000000 in
set_option maxRecDepth 100000 in
theorem specCarryChanges_any (x : Option Addr) (n cap : Nat) (l : List Pc) (root : Int) (y : Option Addr) (m d : Nat) (cs : List Ent) (other : Int) (B B1 : Nat) (w : World) (h : Pcs w B x n cap l) (h1 : Ents w B1 y m d cs) (hB : B ≤ w.heap.size) (hB1 : B1 ≤ w.heap.size) (hz : ∀ k, (nthP l k).2.size ≤ 1048576) (hz1 : ∀ k, (nthE cs k).1.size ≤ 1048576) :
    Calls Tryz.prog 21 #[.slice x n cap, .int .i64 root, .slice y m d, .int .i64 other] w (RdPut (carryB l root cs other) w) := by
  have HH := Lib.hid h; have HZ := Lib.hid hz; have HC := Lib.hid h1; have HCZ := Lib.hid hz1
  have HLN := Lib.hid h.len; have HLC := Lib.hid h1.len
  have hle1 := h1.le
  have hmx1 := h1.max
  unfold maxLen at hmx1
  clear h h1 hz hz1
  cases hs : storeB l
  · have HF := Lib.hid (carryB_bad (l := l) (root := root) (cs := cs) (other := other) (.inl hs))
    go_enter Tryz.func21, Tryz.ntmps21
    go_wp2_with (go_at_call 39; refine (specStoreValid_any x n cap l B _ HH.out (mil_max HZ.out)).mono ?_; rintro e w1 hq; have hb := hq.below; obtain ⟨rfl, _⟩ := hq; rw [hs]; have HB1 := Lib.hid hb; clear hb)
    go_ret3
    exact rdPut_of HF.out (OwnL.lst' (OwnL.new pcG 57 (size := 2) w1)) (HB1.out.alloc HB1.out.size _)
  have HS := Lib.hid hs
  clear hs
  by_cases h30 : (30 : Int) < (m : Int)
  · have HF := Lib.hid (carryB_bad (l := l) (root := root) (cs := cs) (other := other) (.inr (by have := HLC.out; omega)))
    go_enter Tryz.func21, Tryz.ntmps21
    go_wp2_with (go_at_call 39; refine (specStoreValid_any x n cap l B _ HH.out (mil_max HZ.out)).mono ?_; rintro e w1 hq; have hb := hq.below; obtain ⟨rfl, _⟩ := hq; rw [HS.out]; have HB1 := Lib.hid hb; clear hb)
    go_ret3
    exact rdPut_of HF.out (OwnL.lst' (OwnL.new pcG 57 (size := 2) w1)) (HB1.out.alloc HB1.out.size _)
  have hn40 : n ≤ 2000000 := by have := (storeB_at HS.out).1; have := HLN.out; omega
  have H30 := Lib.hid (show ¬ 30 < cs.length by have := HLC.out; omega)
  go_enter Tryz.func21, Tryz.ntmps21
  go_wp2_with (first
    | (go_at_call 39; refine (specStoreValid_any x n cap l B _ HH.out (mil_max HZ.out)).mono ?_; rintro e w1 hq; have hb := hq.below; obtain ⟨rfl, _⟩ := hq; rw [HS.out]; have HB1 := Lib.hid hb; clear hb)
    | (at_builtin; refine wpList_fresh eltPc encPc (HH.out.below HB1.out hB) (Nat.le_trans hB HB1.out.size) hn40 rfl _ _ rfl rfl rfl ?_; intro v3 w3 hown hb3; obtain ⟨x3, n3, c3, rfl, hl3⟩ := hown.lst; have H3 := Lib.hid hl3; have HB3 := Lib.hid (HB1.out.trans (hb3.mono HB1.out.size)); clear hown hb3 hl3))
  have hw3 := HB3.out.size
  go_loopw [0, 12, 13] (fun sv pv kv wr => ∃ (k : Nat) (xs : Option Addr) (ns ks : Nat) (lk : List Pc) (pk : Int), k ≤ m ∧ sv = .slice xs ns ks ∧ pv = .int .i64 pk ∧ kv = .int .i64 k ∧ Hid (storeB lk = true) ∧ Pcs wr wr.heap.size xs ns ks lk ∧ Hid (carryG other l root cs = carryG other lk pk (cs.drop k)) ∧ Below w3.heap.size w3 wr) (fun _ _ kv _ => m - (intOf kv).toNat)
  case atStart => exact ⟨0, x, n, cap, l, root, by omega, rfl, rfl, rfl, HS, (HH.out.below HB3.out hB).more (Nat.le_trans hB hw3), Lib.hid (by rw [List.drop_zero]), Below.refl _ _⟩
  case round =>
    obtain ⟨k, xs, ns, ks, lk, pk, hk, rfl, rfl, rfl, HSK, hl, HCK, hb⟩ := hrel
    have HL := Lib.hid hl; have HBW := Lib.hid hb; have HBA := Lib.hid (HB3.out.trans (hb.mono hw3)); have HSA := Lib.hid ((H3.out.below hb (Nat.le_refl _)).more hb.size)
    have hsz := hb.size
    clear hl hb
    have HZK := Lib.hid (short_mil (store_short HSK.out))
    by_cases hlt : k < m
    · have hkl : k < cs.length := by have := HLC.out; omega
      obtain ⟨be, oe, rfl, hbe, hc0, hc1⟩ := (HC.out.below HBA.out hB1).atE hlt
      have hqz := HCZ.out k
      have HST := Lib.hid (HCK.out.trans (drop_carry hkl))
      obtain ⟨q, hq⟩ : ∃ q, q = nthE cs k := ⟨_, rfl⟩
      rw [← hq] at hc0 hc1 hqz HST
      have HQ := Lib.hid hq
      clear hq
      go_wp2_with fail
      refine (specReadAt_any xs ns ks lk other q.1 _ _ HL.out (Nat.le_refl _) HZK.out hqz).mono ?_
      rintro e w4 ⟨rfl, hb4⟩
      have HL4 := Lib.hid ((HL.out.below hb4 (Nat.le_refl _)).more hb4.size); have HB4 := Lib.hid (HBW.out.trans (hb4.mono hsz)); have HA4 := Lib.hid (HBA.out.trans (hb4.mono HBA.out.size))
      obtain ⟨b', o', e', _, d0, d1⟩ := (HC.out.below HA4.out hB1).atE hlt
      simp only [Option.some.injEq, Addr.mk.injEq, and_true] at e'
      obtain ⟨rfl, rfl⟩ := e'
      rw [← HQ.out] at d0 d1
      clear hb4 hc0 hc1 HL
      have hrm := rd_mil (root := other) (s := q.1) HZK.out
      obtain ⟨⟨t, g1⟩, hR⟩ : ∃ R, rdB lk other q.1 = R := ⟨_, rfl⟩
      have HR := Lib.hid hR
      rw [hR] at hrm ⊢
      simp only at hrm
      clear hR
      go_wp2_with fail
      refine (specDropAt_any xs ns ks lk pk q.1 _ _ HL4.out (Nat.le_refl _) (mil_max HZK.out) hqz).mono ?_
      rintro e w5 ⟨x5, n5, c5, rfl, hi5, hb5⟩
      have HL5 := Lib.hid ((HL4.out.below hb5 (Nat.le_refl _)).more hb5.size); have HB5 := Lib.hid (HB4.out.trans (hb5.mono HB4.out.size)); have HA5 := Lib.hid (HA4.out.trans (hb5.mono HA4.out.size)); have HI5 := Lib.hid hi5; have HSA5 := Lib.hid ((H3.out.below HB5.out (Nat.le_refl _)).more HB5.out.size)
      obtain ⟨b', o', e', _, c0, c1⟩ := (HC.out.below HA5.out hB1).atE hlt
      simp only [Option.some.injEq, Addr.mk.injEq, and_true] at e'
      obtain ⟨rfl, rfl⟩ := e'
      rw [← HQ.out] at c0 c1
      clear hb5 hi5 d0 d1 HL4
      by_cases hk2 : q.2 = 2
      · have hne : (q.2 != 2) = false := by simpa using hk2
        have HSTEP := Lib.hid (show stepC lk pk other q = dropAtB lk pk q.1 by unfold stepC; rw [if_pos hk2])
        have hin : in3 q.2 0 2 = true := in3_yes (by omega) (by omega)
        have HOK := Lib.hid (show okC lk pk other q = (dropAtB lk pk q.1).2.2 by unfold okC; rw [HSTEP.out, hin, Bool.and_true])
        obtain ⟨⟨ld, pd, gd⟩, hD⟩ : ∃ R, dropAtB lk pk q.1 = R := ⟨_, rfl⟩
        rw [hD] at HSTEP HOK HI5 ⊢
        clear hD hk2
        cases gd
        · have HF := Lib.hid (carryB_none (root := root) HS.out H30.out (HST.out.trans (carryG_stop HOK.out)))
          clear HST
          go_wp2_with fail
          go_ret3
          exact rdPut_of HF.out HSA5.out HA5.out
        · have HN := Lib.hid (show carryG other l root cs = carryG other ld pd (cs.drop (k + 1)) by rw [HST.out, carryG_go HOK.out, HSTEP.out])
          have HSN := Lib.hid (show storeB ld = true by have := (step_grows HOK.out).1; rw [HSTEP.out] at this; exact this)
          clear HST
          go_wp2_with (go_at_call 53; refine (l1In_any _ _ _ _).mono ?_; rintro e w' ⟨rfl, hw⟩; subst hw; rw [hin])
          go_roundw
          case rel => exact ⟨k + 1, x5, n5, c5, ld, pd, by omega, rfl, rfl, by go_num, HSN, HI5.out, HN, HB5.out⟩
          case measure => simp [intOf]; omega
      · have hne : (q.2 != 2) = true := by simpa using hk2
        have HSTEP := Lib.hid (show stepC lk pk other q = ((writeB lk pk q.1 t).1, (writeB lk pk q.1 t).2.1, (writeB lk pk q.1 t).2.2 && g1) by unfold stepC; rw [if_neg hk2, HR.out])
        have HOK := Lib.hid (show okC lk pk other q = ((writeB lk pk q.1 t).2.2 && g1 && in3 q.2 0 2) by unfold okC; rw [HSTEP.out])
        obtain ⟨hin, HIN⟩ : ∃ hin, Hid (in3 q.2 0 2 = hin) := ⟨_, Lib.hid rfl⟩
        rw [HIN.out] at HOK
        clear hk2 HI5
        go_wp2_with fail
        refine (specWriteAt_any xs ns ks lk pk q.1 t _ _ HL5.out (Nat.le_refl _) (mil_max HZK.out) hqz hrm).mono ?_
        rintro e w6 ⟨x6, n6, c6, rfl, hi6, hb6⟩
        have HB6 := Lib.hid (HB5.out.trans (hb6.mono HB5.out.size)); have HA6 := Lib.hid (HA5.out.trans (hb6.mono HA5.out.size)); have HI6 := Lib.hid hi6; have HSA6 := Lib.hid ((H3.out.below HB6.out (Nat.le_refl _)).more HB6.out.size)
        obtain ⟨b', o', e', _, a0, a1⟩ := (HC.out.below HA6.out hB1).atE hlt
        simp only [Option.some.injEq, Addr.mk.injEq, and_true] at e'
        obtain ⟨rfl, rfl⟩ := e'
        rw [← HQ.out] at a0 a1
        clear hb6 hi6 c0 c1
        obtain ⟨⟨lw, pw, gw⟩, hD⟩ : ∃ R, writeB lk pk q.1 t = R := ⟨_, rfl⟩
        rw [hD] at HSTEP HOK HI6 ⊢
        clear hD
        cases gw
        · have HF := Lib.hid (carryB_none (root := root) HS.out H30.out (HST.out.trans (carryG_stop (by rw [HOK.out]; rfl))))
          clear HST
          go_wp2_with fail
          go_ret3
          exact rdPut_of HF.out HSA6.out HA6.out
        cases g1
        · have HF := Lib.hid (carryB_none (root := root) HS.out H30.out (HST.out.trans (carryG_stop (by rw [HOK.out]; rfl))))
          clear HST
          go_wp2_with fail
          go_ret3
          exact rdPut_of HF.out HSA6.out HA6.out
        cases hin
        · have HF := Lib.hid (carryB_none (root := root) HS.out H30.out (HST.out.trans (carryG_stop (by rw [HOK.out]; rfl))))
          clear HST
          go_wp2_with (go_at_call 53; refine (l1In_any _ _ _ _).mono ?_; rintro e w' ⟨rfl, hw⟩; subst hw; rw [HIN.out])
          go_ret3
          exact rdPut_of HF.out HSA6.out HA6.out
        · have HOK2 := Lib.hid (show okC lk pk other q = true by rw [HOK.out]; rfl)
          have HN := Lib.hid (show carryG other l root cs = carryG other lw pw (cs.drop (k + 1)) by rw [HST.out, carryG_go HOK2.out, HSTEP.out])
          have HSN := Lib.hid (show storeB lw = true by have := (step_grows HOK2.out).1; rw [HSTEP.out] at this; exact this)
          clear HST
          go_wp2_with (go_at_call 53; refine (l1In_any _ _ _ _).mono ?_; rintro e w' ⟨rfl, hw⟩; subst hw; rw [HIN.out])
          go_roundw
          case rel => exact ⟨k + 1, x6, n6, c6, lw, pw, by omega, rfl, rfl, by go_num, HSN, HI6.out, HN, HB6.out⟩
          case measure => simp [intOf]; omega
    · have HF := Lib.hid (carryB_some (root := root) HS.out H30.out (HCK.out.trans (carry_end (by have := HLC.out; omega))))
      have hns : ns ≤ 2000000 := by have := (storeB_at HSK.out).1; have := HL.out.len; omega
      go_wp2_with (at_builtin; refine wpList_fresh eltPc encPc HL.out (Nat.le_refl _) hns rfl _ _ rfl rfl rfl ?_; intro v7 w7 hown hb7; obtain ⟨x7, n7, c7, rfl, hl7⟩ := hown.lst; have H7 := Lib.hid hl7; have HB7 := Lib.hid (HBA.out.trans (hb7.mono HBA.out.size)); clear hown hb7 hl7)
      go_ret3
      exact rdPut_of HF.out H7.out HB7.out
theorem count_yes {cs : List Ent} {k : Nat} {v : Int} (h : k < cs.length) (hv : (nthE cs k).2 = v) : countK (cs.take (k + 1)) v = countK (cs.take k) v + 1 := by
  rw [take_snocE h, count_add]
  congr 1
  unfold countK
  rw [List.filter_cons, if_pos (by simpa using hv)]; rfl
theorem count_no {cs : List Ent} {k : Nat} {v : Int} (h : k < cs.length) (hv : (nthE cs k).2 ≠ v) : countK (cs.take (k + 1)) v = countK (cs.take k) v := by
  rw [take_snocE h, count_add]
  unfold countK
  rw [List.filter_cons, if_neg (by simpa using hv)]; rfl
end Go.Proofs.YtglajbmopiolhaaGreatDoor
