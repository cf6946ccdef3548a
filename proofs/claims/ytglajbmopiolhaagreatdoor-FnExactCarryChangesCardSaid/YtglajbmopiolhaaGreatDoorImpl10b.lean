/-
  Contracts of chapter 10's program: drops along paths.
-/
import Derived.Test.YtglajbmopiolhaaGreatDoorImpl10
import Derived.Deep.CutRange
import Derived.Deep.CutBlock
namespace Go.Proofs.YtglajbmopiolhaaGreatDoor
open Go.RowKit
set_option linter.unusedVariables false
theorem dropAtB_bad {l : List Pc} {root : Int} {path : ByteArray} (h : (namesB l path).2 = false) : dropAtB l root path = ([], -1, false) := by
  unfold dropAtB
  rw [if_pos]
  unfold namesB at h
  split at h
  · cases h
  · rename_i h1
    rwa [Bool.not_eq_true] at h1
theorem dropAtB_none {l : List Pc} {root : Int} {path : ByteArray} (h : (storeB l && isPath path && !decide (partsB path = [])) = true) (hw : (walkB l root (partsB path)).2 = false) : dropAtB l root path = (l, root, false) := by
  unfold dropAtB
  rw [if_neg (by rw [h]; simp), if_pos hw]
/-- What holds of what the operations of DropAt's last statement yield. -/
def DuF (base : Nat) (x : Option Addr) (n cap : Nat) (root : Int) (xf : Option Addr) (nf cf k : Nat) (xs : Option Addr) (d : Nat) (xk : Option Addr) (nk ck : Nat) (T : ByteArray) (UL : List Pc) (Up : Int) (Ub : Bool) : Nat → Value → World → Prop
  | 0, v, _ => v = .slice x n cap
  | 1, v, _ => v = .int .i64 root
  | 2, v, _ => v = .slice xf nf cf
  | 3, v, _ => v = .int .i64 (k : Nat)
  | 4, v, _ => v = .slice xf k cf
  | 5, v, _ => v = .slice xs nf d
  | 6, v, _ => v = .int .i64 (k : Nat)
  | 7, v, _ => v = .slice xs k d
  | 8, v, _ => v = .slice xk nk ck
  | 9, v, _ => v = .string T
  | 10, v, w => ∃ u, v = .tuple #[u, .int .i64 Up, .bool Ub] ∧ OwnP w base u UL
  | 11, v, w => OwnP w base v UL
  | 12, v, _ => v = .int .i64 Up
  | 13, v, _ => v = .bool Ub
  | 14, v, w => OwnP w base v UL
  | 15, v, _ => v = .int .i64 Up
  | _, v, _ => v = .bool Ub
theorem duF_mono {base : Nat} {x : Option Addr} {n cap : Nat} {root : Int} {xf : Option Addr} {nf cf k : Nat} {xs : Option Addr} {d : Nat} {xk : Option Addr} {nk ck : Nat} {T : ByteArray} {UL : List Pc} {Up : Int} {Ub : Bool} : ∀ (j : Nat) (v : Value) (w w' : World), Below w.heap.size w w' → DuF base x n cap root xf nf cf k xs d xk nk ck T UL Up Ub j v w → DuF base x n cap root xf nf cf k xs d xk nk ck T UL Up Ub j v w'
  | 0, v, w, w', hb, h => h
  | 1, v, w, w', hb, h => h
  | 2, v, w, w', hb, h => h
  | 3, v, w, w', hb, h => h
  | 4, v, w, w', hb, h => h
  | 5, v, w, w', hb, h => h
  | 6, v, w, w', hb, h => h
  | 7, v, w, w', hb, h => h
  | 8, v, w, w', hb, h => h
  | 9, v, w, w', hb, h => h
  | 10, v, w, w', hb, h => by obtain ⟨u, e, ho⟩ := h; exact ⟨u, e, OwnL.below ho hb⟩
  | 11, v, w, w', hb, h => OwnL.below h hb
  | 12, v, w, w', hb, h => h
  | 13, v, w, w', hb, h => h
  | 14, v, w, w', hb, h => OwnL.below h hb
  | 15, v, w, w', hb, h => h
  | _ + 16, v, w, w', hb, h => h
set_option maxHeartbeats 4000000 in
set_option maxRecDepth 100000 in
theorem implDropAt_any (x : Option Addr) (n cap : Nat) (l : List Pc) (root : Int) (path : ByteArray) (B : Nat) (w : World) (h : Pcs w B x n cap l) (hB : B ≤ w.heap.size) (hz : ∀ k, (nthP l k).2.size ≤ 1048576) (hs : path.size ≤ 1048576) :
    Calls Tryz.prog 76 #[.slice x n cap, .int .i64 root, .string path] w (NewPut (dropAtB l root path).1 (dropAtB l root path).2.1 (dropAtB l root path).2.2 w) := by
  have HH := Lib.hid h; have HZ := Lib.hid hz
  have HBAD := Lib.hid (dropAtB_bad (l := l) (root := root) (path := path))
  have HTRUE := Lib.hid (namesB_true (l := l) (path := path))
  clear h hz
  go_enter Tryz.func76, Tryz.ntmps76
  go_wp2_with fail
  refine (namesToChange_any x n cap l path B _ HH.out hB HZ.out hs).mono ?_
  rintro e w1 ⟨v1, rfl, ho, hb⟩
  obtain ⟨x1, m, d, rfl, hi⟩ := ho.lst
  have HB1 := Lib.hid hb; have HL1 := Lib.hid (HH.out.below hb hB); have HN1 := Lib.hid hi
  have hs1 := hb.size
  clear hb ho hi
  obtain ⟨⟨ns, g⟩, hR⟩ : ∃ R, namesB l path = R := ⟨_, rfl⟩
  rw [hR] at HBAD HTRUE HN1 ⊢
  clear hR
  cases g
  · have HF := Lib.hid (HBAD.out rfl)
    go_wp2_with fail
    go_ret3
    exact newPut_at HF.out (OwnL.nil _ _ _ _ _) HB1.out
  obtain ⟨hns, hcond⟩ := HTRUE.out rfl
  have hns : ns = partsB path := hns
  subst hns
  replace HN1 : Hid (Strs w1 w1.heap.size x1 m d (partsB path)) := HN1
  have HC := Lib.hid hcond
  have HST := Lib.hid (cond_facts hcond).1
  have hm3 : m ≤ 3 := by have := (parts_small (s := path)).1; have := HN1.out.len; omega
  have hm0 : 0 < m := by
    have h1 := List.length_pos_iff.2 (cond_facts hcond).2.2
    have := HN1.out.len; omega
  have HWT := Lib.hid (wtB_yes (root := root) (cond_facts hcond).2.1 (cond_facts hcond).1)
  clear hcond HTRUE HBAD
  go_wp2_with fail
  refine (implWalkTo_any x n cap l root path B _ HL1.out (Nat.le_trans hB hs1) HZ.out hs).mono ?_
  rintro e w2 ⟨rfl, hb⟩
  have HB2 := Lib.hid (HB1.out.trans (hb.mono hs1)); have HL2 := Lib.hid (HL1.out.below hb (Nat.le_trans hB hs1)); have HN2 := Lib.hid ((HN1.out.below hb (Nat.le_refl _)).more hb.size)
  have hs2 := HB2.out.size
  clear hb
  rw [HWT.out]
  cases hw : (walkB l root (partsB path)).2
  · have HF := Lib.hid (dropAtB_none HC.out hw)
    go_wp2_with (go_at_call 49; refine (copyB_any x n cap l B _ HL2.out (Nat.le_trans hB hs2) HST.out).mono ?_; rintro e w4 ⟨v, rfl, ho, hb⟩; have HOC := Lib.hid (ho.mono hs2); have HBC := Lib.hid (HB2.out.trans (hb.mono hs2)); clear ho hb)
    go_ret3
    exact newPut_at HF.out HOC.out HBC.out
  have HWAY := Lib.hid (show (isFold (getT l root) && waysB l root (partsB path)) = true by
    rw [walk_ways HST.out hw, Bool.and_true]
    have hne := (cond_facts HC.out).2.2
    cases hp : partsB path with
    | nil => exact absurd hp hne
    | cons nm r => rw [hp] at hw; exact (walk_step HST.out hw).1)
  have HUP := Lib.hid (fun k => dropAt_up (l := l) (root := root) (path := path) (k := k) HC.out hw)
  clear hw
  obtain ⟨i, hi⟩ : ∃ i, m = i + 1 := ⟨m - 1, by omega⟩
  have HI := Lib.hid hi
  clear hi
  go_wp2_with fail
  refine (foldersAlong_any x n cap l root x1 m d (partsB path) B _ _ HL2.out (Nat.le_trans hB hs2) HZ.out HST.out HN2.out (Nat.le_refl _) i HI.out (by omega)).mono ?_
  rintro e w3 ⟨v3, rfl, hf3, hb3⟩
  have HB3 := Lib.hid (HB2.out.trans (hb3.mono hs2)); have HL3 := Lib.hid (HL2.out.below hb3 (Nat.le_trans hB hs2)); have HN3 := Lib.hid ((HN2.out.below hb3 (Nat.le_refl _)).more hb3.size)
  have hs3 := HB3.out.size
  obtain ⟨xf, nf, cf, rfl, hfo⟩ := (hf3 HWAY.out).fols
  have hnf : nf = m := by
    have h1 := hfo.len
    have h2 := HN1.out.len
    rw [List.length_map, wayZ_len] at h1; omega
  subst hnf
  have HFO := Lib.hid hfo
  clear hb3 hf3 hfo
  rw [HWAY.out]
  obtain ⟨zs, hzs⟩ : ∃ zs, wayZ l root (partsB path) = zs := ⟨_, rfl⟩
  have HZL := Lib.hid (show zs.length = nf by rw [← hzs, wayZ_len]; exact HN1.out.len)
  have HM2 := Lib.hid (show zs.map (·.2) = partsB path by rw [← hzs]; exact wayZ_map2 l _ _)
  have HVZ := Lib.hid (show ∀ k, entsB (nthZ zs k).1 = true from fun k => by rw [← hzs]; exact wayZ_ents l _ _ k)
  have HVA := Lib.hid (show ∀ z ∈ zs, entsB z.1 = true from fun z hz => by rw [← hzs] at hz; exact way_ents z hz)
  have HPL := Lib.hid (show (partsB path).length = nf from HN1.out.len)
  rw [hzs] at HFO HUP
  clear hzs HN1 HN2
  have HSM := Lib.hid (show ∀ k, (nthZ zs k).2.size ≤ 1000000 from fun k => by
    by_cases hk : k < zs.length
    · rw [← nthS_map hk, HM2.out]
      exact Nat.le_trans ((parts_small (s := path)).2 k) (by decide)
    · unfold nthZ; rw [List.getD_eq_getElem?_getD, List.getElem?_eq_none (by omega)]; simp)
  have HAT := Lib.hid (show ∀ W, Below w3.heap.size w3 W → ∀ k, k < nf → ∃ bf of yE mE dE bs os, xf = some ⟨bf, of, none⟩ ∧ x1 = some ⟨bs, os, none⟩ ∧ W.cell? ⟨bf, of + k, none⟩ = some (.slice yE mE dE) ∧ W.cell? ⟨bs, os + k, none⟩ = some (.string (nthZ zs k).2) ∧ Hid (Ents W w3.heap.size yE mE dE (nthZ zs k).1) from fun W hb k hk => by
    obtain ⟨bf, of, yE, mE, dE, e1, _, hcf, hEE⟩ := (HFO.out.below hb (Nat.le_refl _)).at hk
    obtain ⟨bs, os, e2, _, hcs⟩ := (HN3.out.below hb (Nat.le_refl _)).atS hk
    rw [nthF_map (by have := HZL.out; omega)] at hEE
    rw [← HM2.out, nthS_map (by have := HZL.out; omega)] at hcs
    exact ⟨bf, of, yE, mE, dE, bs, os, e1, e2, hcf, hcs, Lib.hid hEE⟩)
  have HZEN := Lib.hid (show ∀ k j, (nthE (nthZ zs k).1 j).1.size ≤ maxLen from fun k j => Nat.le_trans (ents_sizes (HVZ.out k) j) (by unfold maxLen; omega))
  have HLEFT := Lib.hid (show ∀ k, (dropE (nthZ zs k).1 (nthZ zs k).2).1 = leftZ zs k from fun k => by rw [dropE_ok (HVZ.out k)]; rfl)
  have hw1 : IntKind.i64.wrap ((nf : Int) - 1) = (i : Int) := by have := HI.out; rw [IntKind.wrap_i64]; omega
  have hi0 : (0 : Int) ≤ (i : Int) := by omega
  have him : (i : Int) < (nf : Int) := by have := HI.out; omega
  have him2 : i < nf := by omega
  go_upto_region 9 with fail
  go_cut [16] from 48 to 59 (fun s16 wx => ∃ xl nl cl, s16 = .slice xl nl cl ∧ OwnE wx w3.heap.size (.slice xl nl cl) (leftZ zs i) ∧ Below w3.heap.size w3 wx)
  case first =>
    obtain ⟨bf, of, yE, mE, dE, bs, os, rfl, rfl, hcf, hcs, HE⟩ := HAT.out w3 (Below.refl _ _) i him2
    go_region_law (go_simp; go_at_call 100; refine (implDropEntry_any yE mE dE (nthZ zs i).1 (nthZ zs i).2 w3.heap.size _ ?_ ?_ (HZEN.out i)).mono ?_; (focus (first | exact HE.out | exact HE.out.drewN 1 | exact HE.out.drewN 2 | exact HE.out.drewN 3)); (focus exact Nat.le_refl _); rintro e w' ⟨v2, rfl, ho, hb⟩; obtain ⟨x2, n2, c2, rfl, _⟩ := ho.lst; have HBX := Lib.hid (below_ofDrew hb); have HOX := Lib.hid ho; clear ho hb)
    all_goals
      go_wp2_with fail
      go_meet
      case rel => exact ⟨_, _, _, rfl, by rw [← HLEFT.out]; exact HOX.out, HBX.out⟩
  case rest =>
    rename World => w4
    obtain ⟨xl, nl, cl, rfl, ho, hb⟩ := hcut
    have HO4 := Lib.hid ho; have HB4 := Lib.hid hb
    clear ho hb hw1 hi0 him him2
    go_wp2_with fail
    go_loopw [15, 16] (fun la lf wr => ∃ (k : Nat) (xl : Option Addr) (nl cl : Nat), k ≤ i ∧ la = .int .i64 k ∧ lf = .slice xl nl cl ∧ OwnE wr w3.heap.size (.slice xl nl cl) (leftZ zs k) ∧ Hid (∀ j, k < j → j < nf → leftZ zs j = []) ∧ Below w3.heap.size w3 wr) (fun la _ _ => (intOf la).toNat)
    case atStart => exact ⟨i, xl, nl, cl, Nat.le_refl _, rfl, rfl, HO4.out, Lib.hid (fun j hj hj' => by have := HI.out; omega), HB4.out⟩
    case round =>
      obtain ⟨k, xk, nk, ck, hk, rfl, rfl, ho, HA, hb⟩ := hrel
      have HO := Lib.hid ho; have HB := Lib.hid hb
      have hsz := hb.size
      have HNL := Lib.hid (show (leftZ zs k).length = nk from ho.lst'.len)
      clear ho hb
      by_cases hgo : nk = 0 ∧ 0 < k
      · obtain ⟨a, rfl⟩ : ∃ a, k = a + 1 := ⟨k - 1, by omega⟩
        have hnk : nk = 0 := hgo.1
        subst hnk
        have HL0 := Lib.hid (List.eq_nil_of_length_eq_zero HNL.out)
        have hka : (0 : Int) < ((a + 1 : Nat) : Int) := by omega
        have hw2 : IntKind.i64.wrap (((a + 1 : Nat) : Int) - 1) = (a : Int) := by
          have e : (((a + 1 : Nat) : Int) - 1) = (a : Int) := by omega
          rw [e]; exact IntWalk.i64_in _ (by have := HI.out; omega)
        have ha : a < nf := by have := HI.out; omega
        have hai : (a : Int) < (nf : Int) := by omega
        have ha0 : (0 : Int) ≤ (a : Int) := by omega
        clear hgo
        go_upto_region 12 with fail
        obtain ⟨bf, of, yE, mE, dE, bs, os, rfl, rfl, hcf, hcs, HE⟩ := HAT.out _ HB.out a ha
        go_region_law (go_simp; go_at_call 100; refine (implDropEntry_any yE mE dE (nthZ zs a).1 (nthZ zs a).2 w3.heap.size _ ?_ ?_ (HZEN.out a)).mono ?_; (focus (first | exact HE.out | exact HE.out.drewN 1 | exact HE.out.drewN 2 | exact HE.out.drewN 3)); (focus exact hsz); rintro e w' ⟨v2, rfl, ho, hb⟩; obtain ⟨x2, n2, c2, rfl, _⟩ := ho.lst; have HBX := Lib.hid (HB.out.trans ((below_ofDrew hb).mono hsz)); have HOX := Lib.hid (OwnL.mono ho hsz); clear ho hb)
        all_goals
          (try go_simp)
          go_roundw
          case rel =>
            (repeat apply Exists.intro)
            refine ⟨?_, rfl⟩
            exact ⟨a, _, _, _, by omega, by go_num, rfl, by rw [← HLEFT.out]; exact HOX.out, Lib.hid (fun j hj hj' => by
              by_cases hja : j = a + 1
              · rw [hja]; exact HL0.out
              · exact HA.out j (by omega) hj'), HBX.out⟩
          case measure => simp [intOf] <;> omega
      · have hstop : k = 0 ∨ leftZ zs k ≠ [] := by
          by_cases h0 : k = 0
          · exact .inl h0
          · right; intro e
            have := HNL.out
            rw [e] at this
            simp at this
            exact hgo ⟨this.symm, by omega⟩
        have HF := Lib.hid (HUP.out k (by have := HPL.out; have := HI.out; omega) (fun j hj hj' => HA.out j hj (by have := HPL.out; omega)) hstop)
        have HBT := Lib.hid (HB3.out.trans (HB.out.mono hs3)); have HLT := Lib.hid (HL3.out.below HB.out (Nat.le_trans hB hs3))
        have hszT := HBT.out.size
        have hkn : k ≤ nf := by have := HI.out; omega
        have HFK := Lib.hid ((HFO.out.below HB.out (Nat.le_refl _)).cut hkn)
        have HNK := Lib.hid ((HN3.out.below HB.out (Nat.le_refl _)).cut hkn)
        have hfc := HFO.out.le
        have hnc := HN3.out.le
        have hzl : ∀ j, (nthE (leftZ zs k) j).1.size ≤ maxLen := fun j => by
          rw [← HLEFT.out]; exact drop_names (HZEN.out k) j
        have HZL2 := Lib.hid hzl
        have hft : (folderB (leftZ zs k)).size ≤ maxLen := Nat.le_trans (folderB_size _) (by unfold maxLen; omega)
        obtain ⟨bf, of, _, _, _, bs, os, rfl, rfl, _⟩ := HAT.out _ HB.out 0 (by omega)
        have hkc : (k : Int) ≤ (cf : Int) := by omega
        have hkd : (k : Int) ≤ (d : Int) := by omega
        have hk0 : (0 : Int) ≤ (k : Int) := by omega
        have HSK := Lib.hid (show ∀ j, (nthZ (zs.take k) j).2.size ≤ 1000000 from fun j => by
          by_cases hj : j < k
          · have e : nthZ (zs.take k) j = nthZ zs j := by
              unfold nthZ; rw [List.getD_eq_getElem?_getD, List.getD_eq_getElem?_getD, List.getElem?_take, if_pos hj]
            rw [e]; exact HSM.out j
          · unfold nthZ; rw [List.getD_eq_getElem?_getD, List.getElem?_eq_none (by rw [List.length_take]; omega)]; simp)
        have HVK := Lib.hid (show ∀ z ∈ zs.take k, entsB z.1 = true from fun z hz => HVA.out z (List.mem_of_mem_take hz))
        rw [← List.map_take] at HFK
        rw [← HM2.out, ← List.map_take] at HNK
        have HKEEP := Lib.hid (show ∀ W, Below wr.heap.size wr W → Pcs W B x n cap l ∧ Fols W wr.heap.size (some ⟨bf, of, none⟩) k cf ((zs.take k).map (·.1)) ∧ Strs W wr.heap.size (some ⟨bs, os, none⟩) k d ((zs.take k).map (·.2)) ∧ Below w.heap.size w W from fun W hb =>
          ⟨HLT.out.below hb (Nat.le_trans hB hszT), (HFK.out.below hb hsz).more hsz, (HNK.out.below hb hsz).more hsz, HBT.out.trans (hb.mono hszT)⟩)
        clear hzl hstop HUP
        obtain ⟨T, hT⟩ : ∃ T, folderB (leftZ zs k) = T := ⟨_, rfl⟩
        rw [hT] at HF hft
        have HT := Lib.hid hT
        have HFT := Lib.hid hft
        clear hT hft
        have hd : ((nk : Int) == 0) = false ∨ ((nk : Int) == 0) = true ∧ decide (0 < k) = false := by
          by_cases h1 : nk = 0
          · right
            refine ⟨by simp [h1], ?_⟩
            rw [decide_eq_false_iff_not]
            intro h2; exact hgo ⟨h1, h2⟩
          · left; simp; omega
        have hw0 : w.heap.size ≤ wr.heap.size := hszT
        have hk1000 : k ≤ 1000 := by omega
        obtain ⟨⟨UL, Up, Ub⟩, hU⟩ : ∃ U, upR l root (upO l T (zs.take k)) = U := ⟨_, rfl⟩
        rw [hU] at HF
        have HU := Lib.hid hU
        clear hgo hU
        rcases hd with hd | ⟨hd, hd2⟩
        all_goals
          go_upto_region 13 with fail
          refine region_facts (fun w w' => Below w.heap.size w w') (fun _ ww => Below wr.heap.size wr ww) (DuF wr.heap.size x n cap root (some ⟨bf, of, none⟩) nf cf k (some ⟨bs, os, none⟩) d xk nk ck T UL Up Ub) (by kernel_rfl) (by kernel_rfl) (by kernel_rfl) duF_mono (Below.drew (Below.refl _ _)) ?_ ?_
          · refine ⟨?_, ?_, ?_, ?_, ?_, ?_, ?_, ?_, ?_, ?_, ?_, ?_, ?_, ?_, ?_, ?_, ?_, trivial⟩
            · intro L v aa ww hA hG hF hl hd K hK
              have HK := Lib.hid hK; have HGG := Lib.hid (show Below _ _ ww from hG)
              have k0 := hA.keep 0 (.slice x n cap) rfl rfl
              clear hA hG hF hl hd hK
              go_simp
              exact HK.out _ _ ⟨_, rfl, Below.refl _ _, HGG.out, rfl⟩
            · intro L v aa ww hA hG hF hl hd K hK
              have HK := Lib.hid hK; have HGG := Lib.hid (show Below _ _ ww from hG)
              have k0 := hA.keep 1 (.int .i64 root) rfl rfl
              clear hA hG hF hl hd hK
              go_simp
              exact HK.out _ _ ⟨_, rfl, Below.refl _ _, HGG.out, rfl⟩
            · intro L v aa ww hA hG hF hl hd K hK
              have HK := Lib.hid hK; have HGG := Lib.hid (show Below _ _ ww from hG)
              have k0 := hA.keep 13 (.slice (some ⟨bf, of, none⟩) nf cf) rfl rfl
              clear hA hG hF hl hd hK
              go_simp
              exact HK.out _ _ ⟨_, rfl, Below.refl _ _, HGG.out, rfl⟩
            · intro L v aa ww hA hG hF hl hd K hK
              have HK := Lib.hid hK; have HGG := Lib.hid (show Below _ _ ww from hG)
              have k0 := hA.keep 15 (.int .i64 (k : Nat)) rfl rfl
              clear hA hG hF hl hd hK
              go_simp
              exact HK.out _ _ ⟨_, rfl, Below.refl _ _, HGG.out, rfl⟩
            · intro L v aa ww hA hG hF hl hd K hK
              have HK := Lib.hid hK; have HGG := Lib.hid (show Below _ _ ww from hG)
              have l2 : L 2 = true := by have h := hd; simp [Region.binds] at h; simp [h]
              have f2 := hF 2 l2
              have b2 := hA.at' 2 _ 83 rfl rfl rfl
              have l3 : L 3 = true := by have h := hd; simp [Region.binds] at h; simp [h]
              have f3 := hF 3 l3
              have b3 := hA.at' 3 _ 84 rfl rfl rfl
              rw [show v 2 = _ from f2] at b2
              rw [show v 3 = _ from f3] at b3
              clear hA hG hF hl hd hK f2 l2 f3 l3
              go_simp
              exact HK.out _ _ ⟨_, rfl, Below.refl _ _, HGG.out, rfl⟩
            · intro L v aa ww hA hG hF hl hd K hK
              have HK := Lib.hid hK; have HGG := Lib.hid (show Below _ _ ww from hG)
              have k0 := hA.keep 9 (.slice (some ⟨bs, os, none⟩) nf d) rfl rfl
              clear hA hG hF hl hd hK
              go_simp
              exact HK.out _ _ ⟨_, rfl, Below.refl _ _, HGG.out, rfl⟩
            · intro L v aa ww hA hG hF hl hd K hK
              have HK := Lib.hid hK; have HGG := Lib.hid (show Below _ _ ww from hG)
              have k0 := hA.keep 15 (.int .i64 (k : Nat)) rfl rfl
              clear hA hG hF hl hd hK
              go_simp
              exact HK.out _ _ ⟨_, rfl, Below.refl _ _, HGG.out, rfl⟩
            · intro L v aa ww hA hG hF hl hd K hK
              have HK := Lib.hid hK; have HGG := Lib.hid (show Below _ _ ww from hG)
              have l5 : L 5 = true := by have h := hd; simp [Region.binds] at h; simp [h]
              have f5 := hF 5 l5
              have b5 := hA.at' 5 _ 86 rfl rfl rfl
              have l6 : L 6 = true := by have h := hd; simp [Region.binds] at h; simp [h]
              have f6 := hF 6 l6
              have b6 := hA.at' 6 _ 87 rfl rfl rfl
              rw [show v 5 = _ from f5] at b5
              rw [show v 6 = _ from f6] at b6
              clear hA hG hF hl hd hK f5 l5 f6 l6
              go_simp
              exact HK.out _ _ ⟨_, rfl, Below.refl _ _, HGG.out, rfl⟩
            · intro L v aa ww hA hG hF hl hd K hK
              have HK := Lib.hid hK; have HGG := Lib.hid (show Below _ _ ww from hG)
              have k0 := hA.keep 16 (.slice xk nk ck) rfl rfl
              clear hA hG hF hl hd hK
              go_simp
              exact HK.out _ _ ⟨_, rfl, Below.refl _ _, HGG.out, rfl⟩
            · intro L v aa ww hA hG hF hl hd K hK
              have HK := Lib.hid hK; have HGG := Lib.hid (show Below _ _ ww from hG)
              have l8 : L 8 = true := by have h := hd; simp [Region.binds] at h; simp [h]
              have f8 := hF 8 l8
              have b8 := hA.at' 8 _ 89 rfl rfl rfl
              rw [show v 8 = _ from f8] at b8
              clear hA hG hF hl hd hK f8 l8
              go_simp
              go_at_call 102
              refine (implFolderText_any xk nk ck (leftZ zs k) _ _ (HO.out.lst'.below HGG.out (Nat.le_refl _)) HGG.out.size HZL2.out).mono ?_
              rintro e w6 ⟨rfl, hb⟩
              rw [HT.out]
              exact HK.out _ _ ⟨_, rfl, hb, HGG.out.trans (hb.mono HGG.out.size), rfl⟩
            · intro L v aa ww hA hG hF hl hd K hK
              have HK := Lib.hid hK; have HGG := Lib.hid (show Below _ _ ww from hG)
              have l0 : L 0 = true := by have h := hd; simp [Region.binds] at h; simp [h]
              have f0 := hF 0 l0
              have b0 := hA.at' 0 _ 81 rfl rfl rfl
              have l1 : L 1 = true := by have h := hd; simp [Region.binds] at h; simp [h]
              have f1 := hF 1 l1
              have b1 := hA.at' 1 _ 82 rfl rfl rfl
              have l4 : L 4 = true := by have h := hd; simp [Region.binds] at h; simp [h]
              have f4 := hF 4 l4
              have b4 := hA.at' 4 _ 85 rfl rfl rfl
              have l7 : L 7 = true := by have h := hd; simp [Region.binds] at h; simp [h]
              have f7 := hF 7 l7
              have b7 := hA.at' 7 _ 88 rfl rfl rfl
              have l9 : L 9 = true := by have h := hd; simp [Region.binds] at h; simp [h]
              have f9 := hF 9 l9
              have b9 := hA.at' 9 _ 90 rfl rfl rfl
              rw [show v 0 = _ from f0] at b0
              rw [show v 1 = _ from f1] at b1
              rw [show v 4 = _ from f4] at b4
              rw [show v 7 = _ from f7] at b7
              rw [show v 9 = _ from f9] at b9
              clear hA hG hF hl hd hK f0 l0 f1 l1 f4 l4 f7 l7 f9 l9
              go_simp
              obtain ⟨g1, g2, g3, g4⟩ := HKEEP.out ww HGG.out
              go_at_call 101
              refine (putUp_any x n cap l root (some ⟨bf, of, none⟩) cf (some ⟨bs, os, none⟩) k d (zs.take k) T B wr.heap.size wr.heap.size _ g1 (Nat.le_trans (Nat.le_trans hB hw0) HGG.out.size) HZ.out HST.out g2 HGG.out.size g3 HGG.out.size hk1000 HVK.out HSK.out HFT.out).mono ?_
              rintro e w7 ⟨u, rfl, ho, hb⟩
              rw [HU.out] at ho ⊢
              exact HK.out _ _ ⟨_, rfl, hb, HGG.out.trans (hb.mono HGG.out.size), ⟨u, rfl, ho.mono HGG.out.size⟩⟩
            · intro L v aa ww hA hG hF hl hd K hK
              have HK := Lib.hid hK; have HGG := Lib.hid (show Below _ _ ww from hG)
              have l10 : L 10 = true := by have h := hd; simp [Region.binds] at h; simp [h]
              have f10 := hF 10 l10
              have b10 := hA.at' 10 _ 91 rfl rfl rfl
              obtain ⟨u, e10, ho⟩ := (show ∃ u, v 10 = .tuple #[u, .int .i64 Up, .bool Ub] ∧ OwnP ww _ u _ from f10)
              obtain ⟨y9, m9, c9, rfl, _⟩ := ho.lst
              rw [e10] at b10
              have HO9 := Lib.hid ho; clear ho e10
              clear hA hG hF hl hd hK f10 l10
              go_simp
              exact HK.out _ _ ⟨_, rfl, Below.refl _ _, HGG.out, HO9.out⟩
            · intro L v aa ww hA hG hF hl hd K hK
              have HK := Lib.hid hK; have HGG := Lib.hid (show Below _ _ ww from hG)
              have l10 : L 10 = true := by have h := hd; simp [Region.binds] at h; simp [h]
              have f10 := hF 10 l10
              have b10 := hA.at' 10 _ 91 rfl rfl rfl
              obtain ⟨u, e10, ho⟩ := (show ∃ u, v 10 = .tuple #[u, .int .i64 Up, .bool Ub] ∧ OwnP ww _ u _ from f10)
              obtain ⟨y9, m9, c9, rfl, _⟩ := ho.lst
              rw [e10] at b10
              have HO9 := Lib.hid ho; clear ho e10
              clear hA hG hF hl hd hK f10 l10
              go_simp
              exact HK.out _ _ ⟨_, rfl, Below.refl _ _, HGG.out, rfl⟩
            · intro L v aa ww hA hG hF hl hd K hK
              have HK := Lib.hid hK; have HGG := Lib.hid (show Below _ _ ww from hG)
              have l10 : L 10 = true := by have h := hd; simp [Region.binds] at h; simp [h]
              have f10 := hF 10 l10
              have b10 := hA.at' 10 _ 91 rfl rfl rfl
              obtain ⟨u, e10, ho⟩ := (show ∃ u, v 10 = .tuple #[u, .int .i64 Up, .bool Ub] ∧ OwnP ww _ u _ from f10)
              obtain ⟨y9, m9, c9, rfl, _⟩ := ho.lst
              rw [e10] at b10
              have HO9 := Lib.hid ho; clear ho e10
              clear hA hG hF hl hd hK f10 l10
              go_simp
              exact HK.out _ _ ⟨_, rfl, Below.refl _ _, HGG.out, rfl⟩
            · intro L v aa ww hA hG hF hl hd K hK
              have HK := Lib.hid hK; have HGG := Lib.hid (show Below _ _ ww from hG)
              have l11 : L 11 = true := by have h := hd; simp [Region.binds] at h; simp [h]
              have f11 := hF 11 l11
              have b11 := hA.at' 11 _ 92 rfl rfl rfl
              have ho := (show OwnP ww _ (v 11) _ from f11)
              obtain ⟨y9, m9, c9, e11, _⟩ := ho.lst
              rw [e11] at b11 ho
              have HO9 := Lib.hid ho; clear ho e11
              clear hA hG hF hl hd hK f11 l11
              go_simp
              exact HK.out _ _ ⟨_, rfl, Below.refl _ _, HGG.out, HO9.out⟩
            · intro L v aa ww hA hG hF hl hd K hK
              have HK := Lib.hid hK; have HGG := Lib.hid (show Below _ _ ww from hG)
              have l12 : L 12 = true := by have h := hd; simp [Region.binds] at h; simp [h]
              have f12 := hF 12 l12
              have b12 := hA.at' 12 _ 93 rfl rfl rfl
              rw [show v 12 = _ from f12] at b12
              clear hA hG hF hl hd hK f12 l12
              go_simp
              exact HK.out _ _ ⟨_, rfl, Below.refl _ _, HGG.out, rfl⟩
            · intro L v aa ww hA hG hF hl hd K hK
              have HK := Lib.hid hK; have HGG := Lib.hid (show Below _ _ ww from hG)
              have l13 : L 13 = true := by have h := hd; simp [Region.binds] at h; simp [h]
              have f13 := hF 13 l13
              have b13 := hA.at' 13 _ 94 rfl rfl rfl
              rw [show v 13 = _ from f13] at b13
              clear hA hG hF hl hd hK f13 l13
              go_simp
              exact HK.out _ _ ⟨_, rfl, Below.refl _ _, HGG.out, rfl⟩
          · intro L v w7 hF hL hG
            have f14 := hF 14 (by decide); have f15 := hF 15 (by decide); have f16 := hF 16 (by decide)
            have ho := (show OwnP w7 _ (v 14) UL from f14)
            obtain ⟨y9, m9, c9, e14, _⟩ := ho.lst
            rw [e14] at ho
            have HO7 := Lib.hid (OwnL.mono ho hw0); have HB7 := Lib.hid (HBT.out.trans (Below.mono (show Below wr.heap.size wr w7 from hG) hw0))
            simp only [frameOf, Act.put, List.setIfInBounds_toArray, List.set_cons_succ, List.set_cons_zero]
            rw [e14, show v 15 = _ from f15, show v 16 = _ from f16]
            clear f14 f15 f16 e14 ho hF hL hG
            go_wp2_with fail
            go_ret3
            exact newPut_at HF.out HO7.out HB7.out
end Go.Proofs.YtglajbmopiolhaaGreatDoor
