/-
  Chapter 11's model: TotalSize, FilesNamed, SameFiles.
-/
import Derived.Test.YtglajbmopiolhaaGreatDoorMath11
namespace Go.Proofs.YtglajbmopiolhaaGreatDoor
open Go.RowKit
set_option linter.unusedVariables false
/-! ### files with a name -/
theorem all_mil {l : List Pc} {root : Int} : ∀ k, (nthS (allB l root) k).size ≤ 1048576 := fun k => nthS_all (fun q hq => Nat.le_trans (all_small q hq) (by decide)) k
/-! ### how large all files are -/
theorem rd_mil {l : List Pc} {root : Int} {s : ByteArray} (hz : ∀ k, (nthP l k).2.size ≤ 1048576) : (rdB l root s).1.size ≤ 1048576 := by
  unfold rdB
  split
  · show (fileT _).size ≤ 1048576
    have := gotT_size (p := (wtB l root s).1) hz
    unfold fileT
    split
    · rw [ByteArray.size_extract]; omega
    · simp
  · simp
/-! ### the same files -/
def pairsB (l : List Pc) (root : Int) : List (ByteArray × ByteArray) := (allB l root).map fun s => (s, (rdB l root s).1)
def sameF (l : List Pc) (p q : Int) : Bool := storeB l && decide (pairsB l p = pairsB l q)
theorem same_store {l : List Pc} {p q : Int} (h : storeB l = false) : sameF l p q = false := by unfold sameF; rw [h]; rfl
theorem same_len {l : List Pc} {p q : Int} (h : (allB l p).length ≠ (allB l q).length) : sameF l p q = false := by
  unfold sameF
  rw [decide_eq_false, Bool.and_false]
  intro e
  have := congrArg List.length e
  unfold pairsB at this
  rw [List.length_map, List.length_map] at this
  exact h this
theorem pairs_at {l : List Pc} {p : Int} {k : Nat} (h : k < (allB l p).length) : (pairsB l p)[k]? = some (nthS (allB l p) k, (rdB l p (nthS (allB l p) k)).1) := by
  unfold pairsB
  rw [List.getElem?_map, List.getElem?_eq_getElem h, nthS_get h]; rfl
theorem same_no {l : List Pc} {p q : Int} {k : Nat} (h : k < (allB l p).length) (h' : k < (allB l q).length) (hn : nthS (allB l p) k ≠ nthS (allB l q) k ∨ (rdB l p (nthS (allB l p) k)).1 ≠ (rdB l q (nthS (allB l q) k)).1) : sameF l p q = false := by
  unfold sameF
  rw [decide_eq_false, Bool.and_false]
  intro e
  have h1 := pairs_at h
  rw [e, pairs_at h'] at h1
  simp only [Option.some.injEq, Prod.mk.injEq] at h1
  rcases hn with hn | hn
  · exact hn h1.1.symm
  · exact hn h1.2.symm
theorem same_yes {l : List Pc} {p q : Int} (hs : storeB l = true) (hl : (allB l p).length = (allB l q).length) (h : ∀ k, k < (allB l p).length → nthS (allB l p) k = nthS (allB l q) k ∧ (rdB l p (nthS (allB l p) k)).1 = (rdB l q (nthS (allB l q) k)).1) : sameF l p q = true := by
  unfold sameF
  rw [hs, Bool.true_and, decide_eq_true_eq]
  refine List.ext_getElem? fun k => ?_
  by_cases hk : k < (allB l p).length
  · rw [pairs_at hk, pairs_at (by omega), (h k hk).1, ← (h k hk).2, (h k hk).1]
  · have e1 : (pairsB l p).length = (allB l p).length := List.length_map _
    have e2 : (pairsB l q).length = (allB l q).length := List.length_map _
    rw [List.getElem?_eq_none (by omega), List.getElem?_eq_none (by omega)]
set_option maxHeartbeats 1000000 in
set_option maxRecDepth 100000 in
theorem specSameFiles_any (x : Option Addr) (n cap : Nat) (l : List Pc) (p q : Int) (B : Nat) (w : World) (h : Pcs w B x n cap l) (hB : B ≤ w.heap.size) (hz : ∀ k, (nthP l k).2.size ≤ 1048576) :
    Calls Tryz.prog 11 #[.slice x n cap, .int .i64 p, .int .i64 q] w (BelowB (sameF l p q) w) := by
  have HH := Lib.hid h
  have HZ := Lib.hid hz
  clear h hz
  go_enter Tryz.func11, Tryz.ntmps11
  go_wp2_with fail
  refine (specAllFiles_any x n cap l p B _ HH.out hB HZ.out).mono ?_
  rintro e w1 ⟨v1, rfl, ho, hb⟩
  obtain ⟨y1, m1, d1, rfl, hi⟩ := ho.lst
  have HB1 := Lib.hid hb; have HX1 := Lib.hid hi; have HLEN1 := Lib.hid hi.len
  have hw1 := hb.size
  have hm1 : m1 ≤ 27 := by have := all_many (l := l) (root := p); have := hi.len; omega
  clear hb ho hi
  go_wp2_with fail
  refine (specAllFiles_any x n cap l q B _ (HH.out.below HB1.out hB) (Nat.le_trans hB hw1) HZ.out).mono ?_
  rintro e w2 ⟨v2, rfl, ho, hb⟩
  obtain ⟨y2, m2, d2, rfl, hi⟩ := ho.lst
  have HB2 := Lib.hid (HB1.out.trans (hb.mono hw1)); have HX2 := Lib.hid hi; have HLEN2 := Lib.hid hi.len; have HX1' := Lib.hid ((HX1.out.below hb (Nat.le_refl _)).more hb.size)
  have hw2 := HB2.out.size
  clear hb ho hi HX1
  have HM1 := Lib.hid (all_mil (l := l) (root := p)); have HM2 := Lib.hid (all_mil (l := l) (root := q))
  have HST := Lib.hid (same_store (l := l) (p := p) (q := q)); have HSL := Lib.hid (same_len (l := l) (p := p) (q := q)); have HSN := Lib.hid (fun k h1 h2 hn => same_no (l := l) (p := p) (q := q) (k := k) h1 h2 hn); have HSY := Lib.hid (same_yes (l := l) (p := p) (q := q))
  go_wp2_with fail
  refine (specStoreValid_any x n cap l B _ (HH.out.below HB2.out hB) (mil_max HZ.out)).mono ?_
  rintro e w3 hqu
  have hb := hqu.below
  obtain ⟨rfl, _⟩ := hqu
  have HB3 := Lib.hid (HB2.out.trans (hb.mono hw2)); have HX13 := Lib.hid ((HX1'.out.below hb (Nat.le_refl _)).more hb.size); have HX23 := Lib.hid ((HX2.out.below hb (Nat.le_refl _)).more hb.size)
  have hw3 := HB3.out.size
  clear hb HX1' HX2
  cases hst : storeB l
  · have HF := Lib.hid (HST.out hst)
    clear hst
    go_wp2_with fail
    go_ret
    exact ⟨ret_bool HF.out.symm, HB3.out⟩
  by_cases hml : m1 = m2
  rotate_left
  · have HF := Lib.hid (HSL.out (by have h1 := HLEN1.out; have h2 := HLEN2.out; omega))
    have hmm : ((m1 : Int) != m2) = true := by simpa using fun e => hml (by omega)
    clear hst
    go_wp2_with fail
    go_ret
    exact ⟨ret_bool HF.out.symm, HB3.out⟩
  have HY := Lib.hid (HSY.out hst (by have h1 := HLEN1.out; have h2 := HLEN2.out; omega))
  subst hml
  clear hst HSY HST HSL
  obtain ⟨xs, hxs⟩ : ∃ xs, allB l p = xs := ⟨_, rfl⟩
  obtain ⟨ys, hys⟩ : ∃ ys, allB l q = ys := ⟨_, rfl⟩
  rw [hxs] at HX13 HLEN1 HM1 HSN HY
  rw [hys] at HX23 HLEN2 HM2 HSN HY
  clear hxs hys
  go_wp2_with fail
  go_loopw [9] (fun i wr => ∃ k : Nat, k ≤ m1 ∧ i = .int .i64 k ∧ (∀ j, j < k → nthS xs j = nthS ys j ∧ (rdB l p (nthS xs j)).1 = (rdB l q (nthS ys j)).1) ∧ Below w3.heap.size w3 wr) (fun i _ => m1 - (intOf i).toNat)
  case atStart => exact ⟨0, by omega, rfl, (fun j hj => by omega), Below.refl _ _⟩
  case round =>
    obtain ⟨k, hk, rfl, hall, hb⟩ := hrel
    have HBW := Lib.hid hb; have HALL := Lib.hid hall
    have hsz := hb.size
    clear hb hall
    have HBA := Lib.hid (HB3.out.trans (HBW.out.mono hw3))
    by_cases hlt : k < m1
    · have hk1 : k < xs.length := by have := HLEN1.out; omega
      have hk2 : k < ys.length := by have := HLEN2.out; omega
      obtain ⟨b1, o1, rfl, hb1, hc1⟩ := (HX13.out.below HBW.out (Nat.le_refl _)).atS hlt
      obtain ⟨b2, o2, rfl, hb2, hc2⟩ := (HX23.out.below HBW.out (Nat.le_refl _)).atS hlt
      have hz1 := HM1.out k; have hz2 := HM2.out k
      have HNO := Lib.hid (HSN.out k hk1 hk2)
      go_wp2_with fail
      refine (specReadAt_any x n cap l p (nthS xs k) B _ (HH.out.below HBA.out hB) (Nat.le_trans hB HBA.out.size) HZ.out hz1).mono ?_
      rintro e w4 ⟨rfl, hb4⟩
      have HB4 := Lib.hid (HBW.out.trans (hb4.mono hsz)); have HA4 := Lib.hid (HBA.out.trans (hb4.mono HBA.out.size))
      have hd2 := (hb4.cell (p := ⟨b2, o2 + k, none⟩) (show b2 < _ from Nat.lt_of_lt_of_le hb2 hsz)).trans hc2
      have hd1 := (hb4.cell (p := ⟨b1, o1 + k, none⟩) (show b1 < _ from Nat.lt_of_lt_of_le hb1 hsz)).trans hc1
      clear hb4 hc1 hc2
      go_wp2_with fail
      refine (specReadAt_any x n cap l q (nthS ys k) B _ (HH.out.below HA4.out hB) (Nat.le_trans hB HA4.out.size) HZ.out hz2).mono ?_
      rintro e w5 ⟨rfl, hb5⟩
      have HB5 := Lib.hid (HB4.out.trans (hb5.mono HB4.out.size)); have HA5 := Lib.hid (HA4.out.trans (hb5.mono HA4.out.size))
      have he1 := (hb5.cell (p := ⟨b1, o1 + k, none⟩) (show b1 < _ from Nat.lt_of_lt_of_le hb1 HB4.out.size)).trans hd1
      have he2 := (hb5.cell (p := ⟨b2, o2 + k, none⟩) (show b2 < _ from Nat.lt_of_lt_of_le hb2 HB4.out.size)).trans hd2
      clear hb5 hd1 hd2
      obtain ⟨⟨t1, g1⟩, hR1⟩ : ∃ R, rdB l p (nthS xs k) = R := ⟨_, rfl⟩
      obtain ⟨⟨t2, g2⟩, hR2⟩ : ∃ R, rdB l q (nthS ys k) = R := ⟨_, rfl⟩
      have HR1 := Lib.hid hR1; have HR2 := Lib.hid hR2
      rw [hR1] at HNO ⊢
      rw [hR2] at HNO ⊢
      clear hR1 hR2
      obtain ⟨u1, hu1⟩ : ∃ u, nthS xs k = u := ⟨_, rfl⟩
      obtain ⟨u2, hu2⟩ : ∃ u, nthS ys k = u := ⟨_, rfl⟩
      rw [hu1] at he1 HNO HR1
      rw [hu2] at he2 HNO HR2
      have HU1 := Lib.hid hu1; have HU2 := Lib.hid hu2
      clear hu1 hu2
      cases hu : (u1.toList == u2.toList)
      · have hun : (u1.toList != u2.toList) = true := by unfold bne; rw [hu]; rfl
        have HF := Lib.hid (HNO.out (.inl (by rw [str_beq, decide_eq_false_iff_not] at hu; exact hu)))
        go_wp2
        go_quiet (fail)
        go_wp2
        go_ret
        exact ⟨ret_bool HF.out.symm, below_drewN HA5.out _⟩
      have hun : (u1.toList != u2.toList) = false := by unfold bne; rw [hu]; rfl
      have HUE := Lib.hid (show u1 = u2 by rw [str_beq, decide_eq_true_eq] at hu; exact hu)
      cases ht : (t1.toList == t2.toList)
      · have htn : (t1.toList != t2.toList) = true := by unfold bne; rw [ht]; rfl
        have HF := Lib.hid (HNO.out (.inr (by rw [str_beq, decide_eq_false_iff_not] at ht; exact ht)))
        go_wp2
        go_quiet (fail)
        go_wp2
        go_ret
        exact ⟨ret_bool HF.out.symm, below_drewN HA5.out _⟩
      · have htn : (t1.toList != t2.toList) = false := by unfold bne; rw [ht]; rfl
        have HTE := Lib.hid (show t1 = t2 by rw [str_beq, decide_eq_true_eq] at ht; exact ht)
        go_wp2
        go_quiet (fail)
        go_wp2
        go_roundw
        case rel => exact ⟨k + 1, by omega, by go_num, fun j hj => by
          rcases Nat.lt_succ_iff_lt_or_eq.1 hj with h | rfl
          · exact HALL.out j h
          · rw [HU1.out, HU2.out, HR1.out, HR2.out]; exact ⟨HUE.out, HTE.out⟩, below_drewN HB5.out _⟩
        case measure => simp [intOf]; omega
    · have HF := Lib.hid (HY.out (fun j hj => HALL.out j (by have := HLEN1.out; omega)))
      go_wp2_with fail
      go_ret
      exact ⟨ret_bool HF.out.symm, HBA.out⟩
end Go.Proofs.YtglajbmopiolhaaGreatDoor
