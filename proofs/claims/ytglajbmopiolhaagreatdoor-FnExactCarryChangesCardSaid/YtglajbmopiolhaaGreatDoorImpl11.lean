/-
  Chapter 11's program: all files, how large they are, those with a name, and whether two roots have the same.
-/
import Derived.Test.YtglajbmopiolhaaGreatDoorMath11b
import Derived.Test.YtglajbmopiolhaaGreatDoorImpl10
namespace Go.Proofs.YtglajbmopiolhaaGreatDoor
open Go.RowKit
set_option linter.unusedVariables false
set_option maxHeartbeats 1000000 in
set_option maxRecDepth 100000 in
theorem filesBelow_any (l : List Pc) (x : Option Addr) (n cap : Nat) (hz : ∀ k, (nthP l k).2.size ≤ 1048576) : ∀ (d : Nat) (p : Int) (a : ByteArray) (B : Nat) (w : World), d ≤ 3 → a.size + 9 * d ≤ 27 → Pcs w B x n cap l → B ≤ w.heap.size → Calls Tryz.prog 65 #[.slice x n cap, .int .i64 p, .string a, .int .i64 d] w (NewS (underP l d p a) w)
  | 0, p, a, B, w, hd, ha, h, hB => by
    go_enter Tryz.func65, Tryz.ntmps65
    go_wp2_with fail
    go_ret
    exact ⟨_, rfl, OwnL.nil _ _ _ _ _, Below.refl _ _⟩
  | d + 1, p, a, B, w, hd, ha, h, hB => by
    have ih := Lib.hid (filesBelow_any l x n cap hz d)
    have HH := Lib.hid h; have HZ := Lib.hid hz
    have HF := Lib.hid (underP_succ l d p a)
    have HEN := Lib.hid (ents_ok (fold_ents (s := gotT l p)))
    obtain ⟨m, hm⟩ : ∃ m, m = d + 1 := ⟨_, rfl⟩
    have hm0 : ((m : Int) == 0) = false := by simp; omega
    have hmw : IntKind.i64.wrap ((m : Int) - 1) = (d : Int) := by rw [IntKind.wrap_i64]; omega
    have hd2 : d ≤ 2 := by omega
    have hd3 : d ≤ 3 := by omega
    rw [← hm] at HF ⊢
    have HM := Lib.hid hm
    clear h hz hm hd filesBelow_any
    go_enter Tryz.func65, Tryz.ntmps65
    go_wp2_with fail
    refine (getFolder_any x n cap l p B _ HH.out hB HZ.out).mono ?_
    rintro e w1 ⟨v1, rfl, ho, hb⟩
    obtain ⟨x1, n1, c1, rfl, hi⟩ := ho.lst
    have HB1 := Lib.hid hb; have HI := Lib.hid hi; have HL1 := Lib.hid (HH.out.below hb hB)
    have hs1 := hb.size
    have HLEN := Lib.hid hi.len
    have h3 : n1 ≤ 3 := by have := foldL_len (gotT l p); have := hi.len; omega
    have hle1 := hi.le
    have hmx1 := hi.max
    unfold maxLen at hmx1
    have HN := Lib.hid (OwnL.nil strG 9 1 w1 w1.heap.size)
    clear ho hb hi
    obtain ⟨E, hE⟩ : ∃ E, foldL (gotT l p) = E := ⟨_, rfl⟩
    rw [hE] at HI HF HEN HLEN
    clear hE
    go_wp2_with fail
    go_loopw [11, 13, 14, 15, 16, 27] (fun v _ _ _ _ i wr => ∃ k : Nat, k ≤ n1 ∧ i = .int .i64 k ∧ OwnS wr w1.heap.size v ((E.take k).flatMap (entP l d a)) ∧ Below w1.heap.size w1 wr) (fun _ _ _ _ _ i _ => n1 - (intOf i).toNat)
    case atStart => exact ⟨0, by omega, rfl, HN.out, Below.refl _ _⟩
    case round =>
      obtain ⟨k, hk, rfl, ho, hb⟩ := hrel
      have HO := Lib.hid ho; have HB := Lib.hid hb
      have hsz := hb.size
      clear ho hb
      by_cases hlt : k < n1
      · obtain ⟨be, oe, rfl, hbe, hc0, hc1⟩ := (HI.out.below HB.out (Nat.le_refl _)).atE hlt
        have hkE : k < E.length := by have := HLEN.out; omega
        have HST := Lib.hid (entP_step (l := l) (d := d) (a := a) hkE)
        have HYF := Lib.hid (entP_file (l := l) (d := d) (a := a) (q := nthE E k)); have HYN := Lib.hid (entP_fold (l := l) (d := d) (a := a) (q := nthE E k))
        have HACC := Lib.hid (show ((E.take k).flatMap (entP l d a)).length ≤ 2000000 from flat_many (by rw [List.length_take]; omega) (fun q => entP_many (by omega)))
        obtain ⟨acc, hacc⟩ : ∃ acc, (E.take k).flatMap (entP l d a) = acc := ⟨_, rfl⟩
        rw [hacc] at HO HACC HST
        clear hacc
        have hq8 := word_size (HEN.out (nthE E k) (by rw [nthE_get hkE]; exact List.getElem_mem _)).1
        obtain ⟨q, hq⟩ : ∃ q, nthE E k = q := ⟨_, rfl⟩
        rw [hq] at hc0 hc1 HST hq8 HYF HYN
        clear hq
        have hone : (ByteArray.mk #[47]).size = 1 := rfl
        have hps : (a ++ ⟨#[47]⟩ ++ q.1).size + 9 * d ≤ 27 := by rw [ByteArray.size_append, ByteArray.size_append]; have := HM.out; omega
        have HOA := Lib.hid (HO.out.alloc (.cells #[.string q.1, .int .i64 q.2] 108)); have HBA := Lib.hid (HB.out.alloc hsz (.cells #[.string q.1, .int .i64 q.2] 108))
        have HNEW := Lib.hid (heap_alloc_new wr (.cells #[.string q.1, .int .i64 q.2] 108))
        have HWA := Lib.hid (HB1.out.trans (HBA.out.mono hs1))
        go_wp2_with fail
        refine (getFile_any x n cap l q.2 B _ (HH.out.below HWA.out hB) (Nat.le_trans hB HWA.out.size) HZ.out).mono ?_
        rintro e w2 ⟨rfl, hb2⟩
        obtain ⟨c0, c1, f0, f1⟩ := two_at ((hb2.block wr.heap.size (by simp)).trans HNEW.out)
        have HB2 := Lib.hid (HBA.out.trans (hb2.mono HBA.out.size)); have HO2 := Lib.hid (HOA.out.below hb2)
        have hsz2 := HB2.out.size
        have HW2 := Lib.hid (HB1.out.trans (HB2.out.mono hs1))
        clear hb2
        cases hf : isFile (gotT l q.2)
        · have HST2 := Lib.hid (show (E.take (k + 1)).flatMap (entP l d a) = acc ++ underP l d q.2 (a ++ ⟨#[47]⟩ ++ q.1) by rw [HST.out, HYN.out hf])
          have hbl := underP_many (l := l) (p := q.2) (a := a ++ ⟨#[47]⟩ ++ q.1) (show d ≤ 3 by omega)
          clear HST HYF HYN hf
          go_wp2_with fail
          have hcall := ih.out q.2 (a ++ ⟨#[47]⟩ ++ q.1) B w2 hd3 hps (HH.out.below HW2.out hB) (Nat.le_trans hB HW2.out.size)
          refine hcall.mono ?_
          clear hcall
          rintro e w3 ⟨v3, rfl, ho3, hb3⟩
          obtain ⟨x3, n3, c3, rfl, hi3⟩ := ho3.lst
          have h27 : n3 ≤ 27 := by have := hi3.len; omega
          have HI3 := Lib.hid hi3; have HB3 := Lib.hid (HB2.out.trans (hb3.mono hsz2)); have HO3 := Lib.hid (HO2.out.below hb3)
          have hsz3 := HB3.out.size
          clear ho3 hb3 hi3
          go_wp2_with (at_builtin; refine wpList_appL eltStr encStr HO3.out HI3.out HACC.out (by omega) hsz3 rfl _ _ rfl rfl rfl ?_; intro v' w' hown hgrow hat; have HW := Lib.hid hown; have HGR := Lib.hid hgrow; clear hown hgrow hat)
          go_roundw
          case rel => exact ⟨k + 1, by omega, by go_num, by rw [HST2.out]; exact HW.out, HB3.out.grown HGR.out hsz3 HO3.out.at⟩
          case measure => simp [intOf]; omega
        · have HST2 := Lib.hid (show (E.take (k + 1)).flatMap (entP l d a) = acc ++ [a ++ ⟨#[47]⟩ ++ q.1] by rw [HST.out, HYF.out hf])
          clear HST HYF HYN hf
          go_wp2_with (at_builtin; refine wpList_app1L eltStr encStr (a ++ ⟨#[47]⟩ ++ q.1) _ rfl HO2.out HACC.out hsz2 rfl _ _ rfl rfl rfl ?_; intro v' w' hown hgrow; have HW := Lib.hid hown; have HGR := Lib.hid hgrow; clear hown hgrow)
          go_roundw
          case rel => exact ⟨k + 1, by omega, by go_num, by rw [HST2.out]; exact HW.out, HB2.out.grown HGR.out hsz2 HO2.out.at⟩
          case measure => simp [intOf]; omega
      · obtain rfl : k = n1 := by omega
        have HE := Lib.hid (show E.take k = E from List.take_of_length_le (by have := HLEN.out; omega))
        go_wp2_with fail
        go_ret
        exact ⟨_, rfl, by rw [HF.out]; rw [HE.out] at HO; exact HO.out.mono hs1, HB1.out.trans (HB.out.mono hs1)⟩
theorem implAllFiles_any (x : Option Addr) (n cap : Nat) (l : List Pc) (root : Int) (B : Nat) (w : World) (h : Pcs w B x n cap l) (hB : B ≤ w.heap.size) (hz : ∀ k, (nthP l k).2.size ≤ 1048576) :
    Calls Tryz.prog 35 #[.slice x n cap, .int .i64 root] w (NewS (allB l root) w) := by
  have HC := Lib.hid (filesBelow_any l x n cap hz 3 root ByteArray.empty B w (Nat.le_refl _) (by decide) h hB)
  have HF := Lib.hid (all_below l root)
  clear h hz
  go_enter Tryz.func35, Tryz.ntmps35
  go_wp2_with fail
  refine HC.out.mono ?_
  rintro e w1 ⟨v, rfl, ho, hb⟩
  have HO := Lib.hid ho; have HB := Lib.hid hb
  clear ho hb
  go_wp2_with fail
  go_ret
  exact ⟨_, rfl, by rw [HF.out]; exact HO.out, HB.out⟩
/-! ### the same files -/
theorem same_lists {l : List Pc} {p q : Int} (h : allB l p ≠ allB l q) : sameF l p q = false := by
  unfold sameF
  rw [decide_eq_false, Bool.and_false]
  intro e
  have h1 := congrArg (List.map Prod.fst) e
  unfold pairsB at h1
  rw [List.map_map, List.map_map] at h1
  have f : ∀ r : Int, (Prod.fst ∘ fun s : ByteArray => (s, (rdB l r s).1)) = id := fun r => rfl
  rw [f p, f q, List.map_id, List.map_id] at h1
  exact h h1
theorem same_in {l : List Pc} {p q : Int} {xs : List ByteArray} (hp : allB l p = xs) (hq : allB l q = xs) {k : Nat} (h : k < xs.length) (hn : (rdB l p (nthS xs k)).1 ≠ (rdB l q (nthS xs k)).1) : sameF l p q = false :=
  same_no (k := k) (by rw [hp]; exact h) (by rw [hq]; exact h) (.inr (by rw [hp, hq]; exact hn))
theorem same_all {l : List Pc} {p q : Int} {xs : List ByteArray} (hs : storeB l = true) (hp : allB l p = xs) (hq : allB l q = xs) (h : ∀ k, k < xs.length → (rdB l p (nthS xs k)).1 = (rdB l q (nthS xs k)).1) : sameF l p q = true :=
  same_yes hs (by rw [hp, hq]) (fun k hk => by rw [hp] at hk; rw [hp, hq]; exact ⟨rfl, h k hk⟩)
/-- Whether two roots have the same at a path. -/
theorem sameContent_any (x : Option Addr) (n cap : Nat) (l : List Pc) (p q : Int) (s : ByteArray) (B : Nat) (w : World) (h : Pcs w B x n cap l) (hB : B ≤ w.heap.size) (hz : ∀ k, (nthP l k).2.size ≤ 1048576) (hs : s.size ≤ 1048576) :
    Calls Tryz.prog 37 #[.slice x n cap, .int .i64 p, .int .i64 q, .string s] w (BelowB (decide ((rdB l p s).1 = (rdB l q s).1)) w) := by
  have HH := Lib.hid h
  have HZ := Lib.hid hz
  clear h hz
  go_enter Tryz.func37, Tryz.ntmps37
  go_wp2_with fail
  refine (implReadAt_any x n cap l p s B _ HH.out hB HZ.out hs).mono ?_
  rintro e w1 ⟨rfl, hb⟩
  have HB1 := Lib.hid hb
  clear hb
  go_wp2_with fail
  refine (implReadAt_any x n cap l q s B _ (HH.out.below HB1.out hB) (Nat.le_trans hB HB1.out.size) HZ.out hs).mono ?_
  rintro e w2 ⟨rfl, hb⟩
  have HB2 := Lib.hid (HB1.out.trans (hb.mono HB1.out.size))
  clear hb
  obtain ⟨⟨t1, g1⟩, hR1⟩ : ∃ R, rdB l p s = R := ⟨_, rfl⟩
  obtain ⟨⟨t2, g2⟩, hR2⟩ : ∃ R, rdB l q s = R := ⟨_, rfl⟩
  have HF := Lib.hid (show decide ((rdB l p s).1 = (rdB l q s).1) = decide (t1 = t2) by rw [hR1, hR2])
  rw [hR1, hR2]
  clear hR1 hR2
  go_wp2_with fail
  go_ret
  exact ⟨ret_bool ((str_beq _ _).trans HF.out.symm), HB2.out⟩
set_option maxHeartbeats 1000000 in
set_option maxRecDepth 100000 in
theorem implSameFiles_any (x : Option Addr) (n cap : Nat) (l : List Pc) (p q : Int) (B : Nat) (w : World) (h : Pcs w B x n cap l) (hB : B ≤ w.heap.size) (hz : ∀ k, (nthP l k).2.size ≤ 1048576) :
    Calls Tryz.prog 10 #[.slice x n cap, .int .i64 p, .int .i64 q] w (BelowB (sameF l p q) w) := by
  have HH := Lib.hid h
  have HZ := Lib.hid hz
  clear h hz
  go_enter Tryz.func10, Tryz.ntmps10
  go_wp2_with fail
  refine (implStoreValid_any x n cap l B _ HH.out hB (mil_max HZ.out)).mono ?_
  rintro e w1 ⟨rfl, hb⟩
  have HB1 := Lib.hid hb
  have hw1 := hb.size
  clear hb
  cases hst : storeB l
  · have HF := Lib.hid (same_store (l := l) (p := p) (q := q) hst)
    clear hst
    go_wp2_with fail
    go_ret
    exact ⟨ret_bool HF.out.symm, HB1.out⟩
  have HST := Lib.hid hst
  clear hst
  go_wp2_with fail
  refine (implAllFiles_any x n cap l p B _ (HH.out.below HB1.out hB) (Nat.le_trans hB hw1) HZ.out).mono ?_
  rintro e w2 ⟨v1, rfl, ho, hb⟩
  obtain ⟨y1, m1, d1, rfl, hi⟩ := ho.lst
  have HB2 := Lib.hid (HB1.out.trans (hb.mono hw1)); have HX1 := Lib.hid hi
  have hw2 := HB2.out.size
  have hm1 : m1 ≤ 27 := by have := all_many (l := l) (root := p); have := hi.len; omega
  have hle1 := hi.le
  have hmx1 := hi.max
  unfold maxLen at hmx1
  clear hb ho hi
  go_wp2_with fail
  refine (implAllFiles_any x n cap l q B _ (HH.out.below HB2.out hB) (Nat.le_trans hB hw2) HZ.out).mono ?_
  rintro e w3 ⟨v2, rfl, ho, hb⟩
  obtain ⟨y2, m2, d2, rfl, hi⟩ := ho.lst
  have HB3 := Lib.hid (HB2.out.trans (hb.mono hw2)); have HX2 := Lib.hid hi; have HX1' := Lib.hid ((HX1.out.below hb (Nat.le_refl _)).more hb.size)
  have hw3 := HB3.out.size
  clear hb ho hi HX1
  go_wp2_with fail
  refine (equalS_any y1 y2 m1 m2 d1 d2 _ _ _ _ _ HX1'.out HX2.out).mono ?_
  rintro e w' ⟨rfl, nd, rfl⟩
  have HB4 := Lib.hid (below_drewN HB3.out nd); have HX := Lib.hid (HX1'.out.below (below_drewN (Below.refl w3.heap.size w3) nd) (Nat.le_refl _))
  cases he : decide (allB l p = allB l q)
  · have HF := Lib.hid (same_lists (l := l) (p := p) (q := q) (by simpa using he))
    clear he
    go_wp2_with fail
    go_ret
    exact ⟨ret_bool HF.out.symm, HB4.out⟩
  have hpq : allB l p = allB l q := by simpa using he
  have HLEN := Lib.hid HX.out.len
  have HM := Lib.hid (all_mil (l := l) (root := p))
  have HSN := Lib.hid (fun k hk hn => same_in (l := l) (p := p) (q := q) (xs := allB l p) (k := k) rfl hpq.symm hk hn)
  have HSY := Lib.hid (same_all (l := l) (p := p) (q := q) (xs := allB l p) HST.out rfl hpq.symm)
  clear he hpq HX1' HX2
  obtain ⟨xs, hxs⟩ : ∃ xs, allB l p = xs := ⟨_, rfl⟩
  rw [hxs] at HX HLEN HM HSN HSY
  clear hxs
  have hw34 := (below_drewN (Below.refl w3.heap.size w3) nd).size
  obtain ⟨w4, hw4⟩ : ∃ w4, w3.drewN nd = w4 := ⟨_, rfl⟩
  rw [hw4] at HB4 HX hw34 ⊢
  have hw4 := HB4.out.size
  go_wp2_with fail
  go_loopw [9, 24] (fun _ i wr => ∃ k : Nat, k ≤ m1 ∧ i = .int .i64 k ∧ (∀ j, j < k → (rdB l p (nthS xs j)).1 = (rdB l q (nthS xs j)).1) ∧ Below w4.heap.size w4 wr) (fun _ i _ => m1 - (intOf i).toNat)
  case atStart => exact ⟨0, by omega, rfl, (fun j hj => by omega), Below.refl _ _⟩
  case round =>
    obtain ⟨k, hk, rfl, hall, hb⟩ := hrel
    have HBW := Lib.hid hb; have HALL := Lib.hid hall
    have hsz := hb.size
    clear hb hall
    have HBA := Lib.hid (HB4.out.trans (HBW.out.mono hw4))
    by_cases hlt : k < m1
    · have hkl : k < xs.length := by have := HLEN.out; omega
      obtain ⟨b1, o1, rfl, hb1, hc1⟩ := (HX.out.below HBW.out hw34).atS hlt
      have hzk := HM.out k
      have HNO := Lib.hid (HSN.out k hkl)
      go_wp2_with fail
      refine (sameContent_any x n cap l p q (nthS xs k) B _ (HH.out.below HBA.out hB) (Nat.le_trans hB HBA.out.size) HZ.out hzk).mono ?_
      rintro e w5 ⟨rfl, hb⟩
      have HB5 := Lib.hid (HBW.out.trans (hb.mono hsz)); have HA5 := Lib.hid (HBA.out.trans (hb.mono HBA.out.size))
      clear hb
      cases ht : decide ((rdB l p (nthS xs k)).1 = (rdB l q (nthS xs k)).1)
      · have HF := Lib.hid (HNO.out (of_decide_eq_false ht))
        clear ht
        go_wp2_with fail
        go_ret
        exact ⟨ret_bool HF.out.symm, HA5.out⟩
      · have HTE := Lib.hid (of_decide_eq_true ht)
        clear ht
        go_wp2_with fail
        go_roundw
        case rel => exact ⟨k + 1, by omega, by go_num, fun j hj => by
          rcases Nat.lt_succ_iff_lt_or_eq.1 hj with h | rfl
          · exact HALL.out j h
          · exact HTE.out, HB5.out⟩
        case measure => simp [intOf]; omega
    · have HF := Lib.hid (HSY.out (fun j hj => HALL.out j (by have := HLEN.out; omega)))
      go_wp2_with fail
      go_ret
      exact ⟨ret_bool HF.out.symm, HBA.out⟩
end Go.Proofs.YtglajbmopiolhaaGreatDoor
