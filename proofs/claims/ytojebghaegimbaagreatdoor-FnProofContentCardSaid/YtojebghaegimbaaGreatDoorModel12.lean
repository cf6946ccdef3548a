/-
  Chapter 12's model: texts on the way, and what they prove.
-/
import Derived.Test.YtojebghaegimbaaGreatDoorMath12
import Derived.BigQuiet
namespace Go.Proofs.YtojebghaegimbaaGreatDoor
open Go.RowKit
set_option linter.unusedVariables false
theorem apart_rows12 {v u : Value} {a b : Nat} (h1 : ∀ k, v.ownBlock = some k → a < k ∧ k < b) (h2 : ∀ k, u.ownBlock = some k → k = a ∨ b ≤ k) : v.ownBlock = none ∨ v.ownBlock ≠ u.ownBlock := by
  cases hv : v.ownBlock with
  | none => exact .inl rfl
  | some k => right; intro e; have := h1 k hv; have := h2 k e.symm; omega
theorem newS_of {l l' : List ByteArray} {w w' : World} {v : Value} (h : l = l') (ho : OwnS w' w.heap.size v l') (hb : Below w.heap.size w w') : NewS l w (.returned v) w' := by subst h; exact ⟨v, rfl, ho, hb⟩
set_option maxHeartbeats 1000000 in
set_option maxRecDepth 100000 in
theorem specPathProof_any (x : Option Addr) (n cap : Nat) (l : List Pc) (root : Int) (path : ByteArray) (B : Nat) (w : World) (h : Pcs w B x n cap l) (hB : B ≤ w.heap.size) (hz : ∀ k, (nthP l k).2.size ≤ 1048576) (hs : path.size ≤ 1048576) :
    Calls Tryz.prog 10 #[.slice x n cap, .int .i64 root, .string path] w (NewS (ppTexts l root path) w) := by
  have HO0 := Lib.hid (OwnL.new strG 9 (size := 1) w)
  have HB0 := Lib.hid ((Below.refl w.heap.size w).alloc (Nat.le_refl _) (.cells #[] 9))
  have HL0 := Lib.hid (h.below ((Below.refl w.heap.size w).alloc (Nat.le_refl _) (.cells #[] 9)) hB)
  have HZ := Lib.hid hz; have HH := Lib.hid h
  clear h hz
  go_enter Tryz.func10, Tryz.ntmps10
  go_wp2_with fail
  refine (specPathParts_any path _ hs).mono ?_
  rintro e w1 ⟨v1, rfl, ho, hb⟩
  obtain ⟨y, m, d, rfl, hi⟩ := ho.lst
  have HB1 := Lib.hid (HB0.out.trans (hb.mono HB0.out.size)); have HO1 := Lib.hid (HO0.out.below hb); have HX := Lib.hid (ho.mono (show w.heap.size + 1 ≤ _ by simp)); have HLEN := Lib.hid hi.len
  have HL1 := Lib.hid (HL0.out.below hb (by simp; omega))
  have HAP := Lib.hid (show ∀ k, (Value.slice y m d).ownBlock = some k → w.heap.size < k ∧ k < w1.heap.size from fun k hk => ⟨by have := ho.at k hk; simp at this; omega, OwnL.ltSize ho hk⟩)
  have hw1 := HB1.out.size
  have hle := hi.le
  have hmx := hi.max
  unfold maxLen at hmx
  clear hb ho hi HB0 HO0 HL0
  go_wp2_with fail
  refine (specWalkTo_any x n cap l root path B _ HL1.out (Nat.le_trans hB hw1) HZ.out hs).mono ?_
  rintro e w2 ⟨rfl, hb⟩
  have HB2 := Lib.hid (HB1.out.trans (hb.mono hw1)); have HO2 := Lib.hid (HO1.out.below hb); have HX2 := Lib.hid (HX.out.below hb); have HL2 := Lib.hid (HL1.out.below hb (Nat.le_trans hB hw1))
  have h12 := hb.size
  have hm3 : m ≤ 3 := by have := (parts_small (s := path)).1; have := HLEN.out; omega
  clear hb HL1 HO1 HX
  have HT0 := Lib.hid (show (wtB l root path).2 = false → ppTexts l root path = [] from fun e => by unfold ppTexts; rw [if_neg (by rw [e]; simp)])
  have HT1 := Lib.hid (show (wtB l root path).2 = true → ppTexts l root path = textsW l root (partsB path) ∧ storeB l = true ∧ (walkB l root (partsB path)).2 = true from fun e => by
    obtain ⟨_, h2, h3, _⟩ := wt_ok e
    exact ⟨by unfold ppTexts; rw [if_pos e], h2, h3⟩)
  obtain ⟨⟨t0, g⟩, hR⟩ : ∃ R, wtB l root path = R := ⟨_, rfl⟩
  rw [hR] at HT0 HT1 ⊢
  clear hR
  cases g
  · have HF := Lib.hid (HT0.out rfl)
    go_wp2_with fail
    go_loopw [7, 12] (fun v i wr => i = .int .i64 0 ∧ OwnS wr w.heap.size v [] ∧ Below w.heap.size w wr) (fun _ i _ => (intOf i).toNat)
    case atStart => exact ⟨rfl, HO2.out, HB2.out⟩
    case round =>
      obtain ⟨rfl, ho, hb⟩ := hrel
      have HO := Lib.hid ho; have HB := Lib.hid hb
      clear ho hb
      have h0 : (0 : Int) ≤ (m : Int) := by omega
      go_wp2_with fail
      go_ret
      exact newS_of HF.out HO.out HB.out
  obtain ⟨hpt, hst, hwk⟩ := HT1.out rfl
  have HPT := Lib.hid hpt
  have HNTH := Lib.hid (fun k hk => textsW_nth (k := k) hst hwk hk)
  have HTL := Lib.hid (show (textsW l root (partsB path)).length = m + 1 by rw [textsW_len, HLEN.out])
  obtain ⟨T, hT⟩ : ∃ T, textsW l root (partsB path) = T := ⟨_, rfl⟩
  rw [hT] at HPT HNTH HTL
  clear hpt hst hwk hT HT0 HT1
  have HPS := Lib.hid (fun k => Nat.le_trans ((parts_small (s := path)).2 k) (show 8 ≤ 1048576 by decide))
  obtain ⟨ps, hps⟩ : ∃ ps, partsB path = ps := ⟨_, rfl⟩
  rw [hps] at HLEN HX2 HNTH HPS
  clear hps
  go_wp2_with fail
  go_loopw [7, 12] (fun v i wr => ∃ k : Nat, k ≤ m + 1 ∧ i = .int .i64 k ∧ OwnS wr w.heap.size v (T.take k) ∧ Below w.heap.size w wr ∧ OwnS wr (w.heap.size + 1) (.slice y m d) ps ∧ w1.heap.size ≤ wr.heap.size ∧ ∀ b, v.ownBlock = some b → b = w.heap.size ∨ w1.heap.size ≤ b) (fun _ i _ => m + 1 - (intOf i).toNat)
  case atStart => exact ⟨0, by omega, rfl, HO2.out, HB2.out, HX2.out, h12, fun b e => .inl (by simp [Value.ownBlock] at e; exact e.symm)⟩
  case round =>
    obtain ⟨k, hk, rfl, ho, hb, hx, h1, ha⟩ := hrel
    have HO := Lib.hid ho; have HB := Lib.hid hb; have HXW := Lib.hid hx; have HA := Lib.hid ha
    have hsz := hb.size
    clear ho hb hx ha
    by_cases hlt : k ≤ m
    · have hki : (k : Int) ≤ (m : Int) := by omega
      have hkd : (k : Int) ≤ (d : Int) := by omega
      have hk0 : (0 : Int) ≤ (k : Int) := by omega
      have hkl : k ≤ ps.length := by have := HLEN.out; omega
      obtain ⟨hwk, hnt⟩ := HNTH.out k hkl
      have HNT := Lib.hid hnt
      have HTK := Lib.hid (show T.take (k + 1) = T.take k ++ [nthS T k] from take_snocS (by have := HTL.out; omega))
      have hlk : (T.take k).length ≤ 2000000 := by rw [List.length_take]; omega
      have HXC := Lib.hid (HXW.out.lst'.cut (m := k) (by omega))
      have hpsz : ∀ j, (nthS (ps.take k) j).size ≤ 1048576 := fun j => by
        by_cases hj : j < k
        · unfold nthS; rw [List.getD_eq_getElem?_getD, List.getElem?_take, if_pos hj, ← List.getD_eq_getElem?_getD]; exact HPS.out j
        · unfold nthS; rw [List.getD_eq_getElem?_getD, List.getElem?_eq_none (by rw [List.length_take]; omega)]; simp
      clear hnt hkl
      go_wp2_with fail
      refine (specWalk_any x _ n cap _ _ l (ps.take k) root B _ _ (HH.out.below HB.out hB) HXC.out (Nat.le_trans hB hsz) (Nat.le_refl _) HZ.out).mono ?_
      rintro e w3 ⟨rfl, hb3⟩
      have HB3 := Lib.hid (HB.out.trans (hb3.mono hsz)); have HO3 := Lib.hid (HO.out.below hb3); have HX3 := Lib.hid (HXW.out.below hb3)
      have h13 : w1.heap.size ≤ w3.heap.size := Nat.le_trans h1 hb3.size
      clear hb3 HXC
      obtain ⟨⟨c, g⟩, hR⟩ : ∃ R, walkB l root (ps.take k) = R := ⟨_, rfl⟩
      rw [hR] at HNT hwk ⊢
      have hwk : g = true := hwk
      subst hwk
      clear hR
      go_wp2_with fail
      refine (specL4Get_any x n cap l c B _ (HH.out.below HB3.out hB)).mono ?_
      rintro e w' ⟨rfl, hw⟩
      subst hw
      have HB3s := HB3.out.size
      have HOA := Lib.hid (HO3.out.alloc (.cells #[.string (getT l c)] 9)); have HXA := Lib.hid (HX3.out.alloc (.cells #[.string (getT l c)] 9))
      have HONE := Lib.hid (one_str (w := w3.alloc (.cells #[.string (getT l c)] 9)) (cell_new w3 _ _ 0 _ rfl) (by simp))
      go_wp2_with (at_builtin; refine wpList_appL eltStr encStr HOA.out HONE.out hlk (by omega) (by simp; omega) rfl _ _ rfl rfl rfl ?_; intro v' w' hown hgrow hat; have HW := Lib.hid hown; have HGR := Lib.hid hgrow; have HAT := Lib.hid hat; have HXN := Lib.hid (World.ownsRow.kept HXA.out hgrow (apart_rows12 HAP.out HA.out)); clear hown hgrow hat)
      go_roundw
      case rel => exact ⟨k + 1, by omega, by go_num, by rw [HTK.out, HNT.out]; exact HW.out, (HB3.out.alloc HB3s _).grown HGR.out (by simp; omega) HO3.out.at, HXN.out, by have := HGR.out.size; simp at this; omega, fun b e => by rcases HAT.out with e2 | e2; exact HA.out b (e2.symm.trans e); right; rw [e2] at e; simp at e; omega⟩
      case measure => simp [intOf] <;> omega
    · have hki : ¬ ((k : Int) ≤ (m : Int)) := by omega
      have HE := Lib.hid (show T.take k = T from List.take_of_length_le (by have := HTL.out; omega))
      go_wp2_with fail
      go_ret
      exact newS_of (HPT.out.trans HE.out.symm) HO.out HB.out
set_option maxHeartbeats 1000000 in
set_option maxRecDepth 100000 in
theorem specL12Way_any (root : Int) (x : Option Addr) (n c : Nat) (ps : List ByteArray) (y : Option Addr) (m d : Nat) (L : List ByteArray) (B B1 : Nat) (w : World) (hP : Strs w B x n c ps) (hB : B ≤ w.heap.size) (hL : Strs w B1 y m d L) (hB1 : B1 ≤ w.heap.size) (hz : ∀ k, (nthS L k).size ≤ 1048576) (hlen : m ≤ n + 1) (hn : n ≤ 1000) :
    Calls Tryz.prog 65 #[.int .i64 root, .slice x n c, .slice y m d] w (BelowB (wayPB root ps L) w) := by
  have HP := Lib.hid hP; have HL := Lib.hid hL; have HZ := Lib.hid hz
  have HLN := Lib.hid hP.len; have HLM := Lib.hid hL.len
  clear hP hL hz
  go_enter Tryz.func65, Tryz.ntmps65
  go_wp2_with fail
  go_loopw [7, 8] (fun pv iv wr => ∃ (k : Nat) (p : Int), k ≤ m ∧ iv = .int .i64 k ∧ pv = .int .i64 p ∧ Hid (wayPB root ps L = wayPB p (ps.drop k) (L.drop k)) ∧ Below w.heap.size w wr) (fun _ iv _ => m - (intOf iv).toNat)
  case atStart => exact ⟨0, root, by omega, rfl, rfl, Lib.hid (by rw [List.drop_zero, List.drop_zero]), Below.refl _ _⟩
  case round =>
    obtain ⟨k, p, hk, rfl, rfl, HW, hb⟩ := hrel
    have HB := Lib.hid hb
    have hsz := hb.size
    clear hb
    rename World => W
    by_cases hlt : k < m
    · have hki : (k : Int) < (m : Int) := by omega
      have hk0 : (0 : Int) ≤ (k : Int) := by omega
      have hkl : k < L.length := by have := HLM.out; omega
      obtain ⟨b, off, rfl, hb, hc⟩ := (HL.out.below HB.out hB1).atS hlt
      have hzk := HZ.out k
      have hzm : (nthS L k).size ≤ maxLen := Nat.le_trans hzk (by unfold maxLen; omega)
      have HEND := Lib.hid (fun h => HW.out.trans (wayP_end (p := p) (ps := ps) (L := L) (k := k) h)); have HSTEP := Lib.hid (fun h => HW.out.trans (wayP_step (p := p) (ps := ps) (L := L) (k := k) h))
      obtain ⟨t, ht⟩ : ∃ t, nthS L k = t := ⟨_, rfl⟩
      rw [ht] at hc hzk hzm HEND HSTEP
      clear ht
      have hwk : IntKind.i64.wrap ((k : Int) + 1) = (k : Int) + 1 := IntWalk.i64_in _ (by have := HL.out.le; have := HL.out.max; unfold maxLen at this; omega)
      by_cases hpt : printB t = p
      · have hd : (printB t != p) = false := by simp [hpt]
        by_cases hlast : k + 1 = m
        · have HF := Lib.hid ((HEND.out (by have := HLM.out; omega)).trans (decide_eq_true hpt))
          have hd2 : ((k : Int) + 1 == (m : Int)) = true := by simp; omega
          clear hlast hpt
          go_wp2_with (go_at_call 69; refine (specPrintOf_any t _ hzm).mono ?_; rintro e w' ⟨rfl, hw⟩; subst hw)
          go_ret
          exact ⟨ret_bool HF.out.symm, HB.out⟩
        · have hd2 : ((k : Int) + 1 == (m : Int)) = false := by simp; omega
          have HST := Lib.hid ((HSTEP.out (by have := HLM.out; omega)).trans (by rw [decide_eq_true hpt, Bool.true_and]))
          have hkn : k < n := by omega
          clear hpt
          go_wp2_with (first
            | (go_at_call 69; refine (specPrintOf_any t _ hzm).mono ?_; rintro e w' ⟨rfl, hw⟩; subst hw)
            | (go_at_call 54; refine (specReadFolder_any t _ hzk).mono ?_; rintro e w2 ⟨v2, rfl, ho, hb2⟩; obtain ⟨xo, no, co, rfl, hlo⟩ := ho.lst; have HLO := Lib.hid hlo; have HB2 := Lib.hid (HB.out.trans (hb2.mono hsz)); clear ho hb2 hlo))
          obtain ⟨bs, os, rfl, hbs, hcs⟩ := (HP.out.below HB2.out hB).atS hkn
          have HCS := Lib.hid hcs
          have HLE := Lib.hid HLO.out.len
          have hno3 : no ≤ 3 := by have := foldL_len t; have := HLE.out; omega
          obtain ⟨nm, hnm⟩ : ∃ nm, nthS ps k = nm := ⟨_, rfl⟩
          rw [hnm] at HST HCS
          obtain ⟨E, hE⟩ : ∃ E, foldL t = E := ⟨_, rfl⟩
          rw [hE] at HST HLO HLE
          clear hnm hE hcs
          go_loopw [7, 11] (fun cv jv wq => ∃ (j : Nat) (c : Int), j ≤ no ∧ jv = .int .i64 j ∧ cv = .int .i64 c ∧ lastE nm (-2) E = lastE nm c (E.drop j) ∧ ∃ q, wq = w2.drewN q) (fun _ jv _ => no - (intOf jv).toNat)
          case atStart => exact ⟨0, -2, by omega, rfl, rfl, by rw [List.drop_zero], 0, rfl⟩
          case round =>
            obtain ⟨j, c, hj, rfl, rfl, hf, hq⟩ := hrel
            have HFL := Lib.hid hf; have HQ := Lib.hid hq; clear hf hq
            have HBR := Lib.hid (show Below w2.heap.size w2 wr by obtain ⟨q, rfl⟩ := HQ.out; exact below_drewN (Below.refl _ _) q)
            have hcs : wr.cell? ⟨bs, os + k, none⟩ = some (.string nm) := by obtain ⟨q, rfl⟩ := HQ.out; exact HCS.out
            by_cases hjl : j < no
            · have hjl2 : j < E.length := by have := HLE.out; omega
              have hji : (j : Int) < (no : Int) := by omega
              have hkni : (k : Int) < (n : Int) := by omega
              obtain ⟨b, off, rfl, hb, hc0, hcp⟩ := (HLO.out.below HBR.out (Nat.le_refl _)).atE hjl
              cases hmn : ((nthE E j).1.toList == nm.toList)
              · have HST := Lib.hid (HFL.out.trans (lastE_no hjl2 hmn))
                go_wp2
                go_quiet (fail)
                go_wp2
                go_roundw
                case rel => exact ⟨j + 1, _, by omega, by go_num, rfl, HST.out, by obtain ⟨q, rfl⟩ := HQ.out; exact ⟨_, by rw [World.drewN_drewN]⟩⟩
                case measure => simp [intOf] <;> omega
              · have HST := Lib.hid (HFL.out.trans (lastE_yes hjl2 hmn))
                go_wp2
                go_quiet (fail)
                go_wp2
                go_roundw
                case rel => exact ⟨j + 1, _, by omega, by go_num, rfl, HST.out, by obtain ⟨q, rfl⟩ := HQ.out; exact ⟨_, by rw [World.drewN_drewN]⟩⟩
                case measure => simp [intOf] <;> omega
            · have HEE := Lib.hid (HFL.out.trans (lastE_end (show E.length ≤ j by have := HLE.out; omega)))
              go_wp2_with fail
              go_roundw
              case rel => exact ⟨k + 1, c, by omega, by go_num, rfl, Lib.hid (by rw [HST.out, HEE.out]), HB2.out.trans (HBR.out.mono HB2.out.size)⟩
              case measure => simp [intOf] <;> omega
      · have hd : (printB t != p) = true := by simp [hpt]
        have HF := Lib.hid (show wayPB root ps L = false by
          by_cases hlast : k + 1 = m
          · rw [HEND.out (by have := HLM.out; omega), decide_eq_false hpt]
          · rw [HSTEP.out (by have := HLM.out; omega), decide_eq_false hpt, Bool.false_and])
        clear hpt
        go_wp2_with (go_at_call 69; refine (specPrintOf_any t _ hzm).mono ?_; rintro e w' ⟨rfl, hw⟩; subst hw)
        go_ret
        exact ⟨ret_bool HF.out.symm, HB.out⟩
    · have hki : ¬ ((k : Int) < (m : Int)) := by omega
      have HF := Lib.hid (HW.out.trans (wayP_none (show L.length ≤ k by have := HLM.out; omega)))
      go_wp2_with fail
      go_ret
      exact ⟨ret_bool HF.out.symm, HB.out⟩
end Go.Proofs.YtojebghaegimbaaGreatDoor
