/-
  Chapter 10's model: a name is dropped.
-/
import Derived.Test.YtikmmhccgmmneaaGreatDoorSet
namespace Go.Proofs.YtikmmhccgmmneaaGreatDoor
open Go.RowKit
set_option linter.unusedVariables false
/-- The entries that are left of a folder. -/
def leftE (l : List Ent) (nm : ByteArray) (p : Int) : List Ent := if 0 ≤ p then (putE l (nm, p)).1 else (dropE l nm).1
def endB (l : List Pc) (r : List Ent) : List Pc × Int × Bool := if r = [] then (l, -1, true) else putB l (folderB r)
def dropB : List Pc → Int → List ByteArray → List Pc × Int × Bool
  | l, p, [] => (l, -1, false)
  | l, p, nm :: r =>
    if lastE nm (-1) (foldL (getT l p)) < 0 then (l, -1, false)
    else if r = [] then endB l (leftE (foldL (getT l p)) nm (-1))
    else if (dropB l (lastE nm (-1) (foldL (getT l p))) r).2.2 = false then (l, -1, false)
    else endB (dropB l (lastE nm (-1) (foldL (getT l p))) r).1 (leftE (foldL (getT l p)) nm (dropB l (lastE nm (-1) (foldL (getT l p))) r).2.1)
theorem end_short {m : Nat} (hm : 49 ≤ m) {l : List Pc} {r : List Ent} (h : Short m l) : Short m (endB l r).1 := by
  unfold endB
  split
  · exact h
  · exact put_short h (Nat.le_trans (folderB_size _) hm)
theorem drop_short {m : Nat} (hm : 49 ≤ m) : ∀ {ps : List ByteArray} {l : List Pc} {p : Int}, Short m l → Short m (dropB l p ps).1
  | [], l, p, h => h
  | nm :: r, l, p, h => by
    have ih := drop_short hm (ps := r) (p := lastE nm (-1) (foldL (getT l p))) h
    rw [dropB]
    split
    · exact h
    split
    · exact end_short hm h
    split
    · exact h
    · exact end_short hm ih
theorem drop_names {l : List Ent} {nm : ByteArray} {m : Nat} (hz : ∀ k, (nthE l k).1.size ≤ m) : ∀ k, (nthE (dropE l nm).1 k).1.size ≤ m := by
  unfold dropE
  split
  · exact nthE_all.2 fun q hq => nthE_all.1 hz q ((List.mem_filter.1 hq).1)
  · intro k; simp [nthE]
set_option maxHeartbeats 2000000 in
set_option maxRecDepth 100000 in
theorem specDrop_any : ∀ (N : Nat) (ps : List ByteArray) (x y : Option Addr) (n cap m d : Nat) (l : List Pc) (p : Int) (B B1 : Nat) (w : World) (h : Pcs w B x n cap l) (h1 : Strs w B1 y m d ps) (hB : B ≤ w.heap.size) (hB1 : B1 ≤ w.heap.size) (hz : Short 1048576 l) (hz1 : ∀ k, (nthS ps k).size ≤ 1048576) (hm : m ≤ 1000) (h0 : 0 < ps.length) (hN : ps.length ≤ N),
    Calls Tryz.prog 93 #[.slice x n cap, .int .i64 p, .slice y m d] w (RdPut (dropB l p ps) w) := by
  intro N
  induction N with
  | zero => intro ps x y n cap m d l p B B1 w h h1 hB hB1 hz hz1 hm h0 hN; omega
  | succ N ih =>
    intro ps x y n cap m d l p B B1 w h h1 hB hB1 hz hz1 hm h0 hN
    obtain ⟨nm, r, rfl⟩ : ∃ nm r, ps = nm :: r := by
      cases ps with
      | nil => simp at h0
      | cons a b => exact ⟨a, b, rfl⟩
    have hm1 : m = r.length + 1 := by rw [← h1.len]; rfl
    have hle1 := h1.le
    have hmx1 := h1.max
    unfold maxLen at hmx1
    obtain ⟨b1, o1, rfl, hb1, hc1'⟩ := h1.atS (k := 0) (by omega)
    have hc1 : w.cell? ⟨b1, o1, none⟩ = some (.string nm) := hc1'
    have hNr : r.length ≤ N := by simp at hN; omega
    have HM1 := Lib.hid hm1
    have hmp : 0 < m := by omega
    have hmpi : (0 : Int) < (m : Int) := by omega
    clear hc1' hm1 h0 hN
    have hgz : (getT l p).size ≤ 1048576 := getT_size (short_nth hz)
    cases hok : isFold (getT l p)
    · have HE00 := Lib.hid (show (foldL (getT l p)).length = 0 by unfold foldL; rw [hok]; rfl)
      have HLS := Lib.hid h
      go_enter Tryz.func93, Tryz.ntmps93
      go_wp2_with (first
        | (go_at_call 45; refine (specL4Get_any x n cap l p B _ HLS.out).mono ?_; rintro e w' ⟨rfl, rfl⟩)
        | (go_at_call 30; refine (specReadFolder_any _ _ hgz).mono ?_; rintro e WX ⟨v, rfl, ho, hb2⟩; rw [hok]; obtain ⟨xo, no, co, rfl, hlo⟩ := ho.lst; have HLO := Lib.hid hlo; have HBX0 := Lib.hid hb2; clear ho hb2 hlo))
      have HBW := Lib.hid (show Below w.heap.size w WX from HBX0.out)
      have hwX : w.heap.size ≤ WX.heap.size := HBX0.out.size
      have HPC := Lib.hid (show ∀ w', Below WX.heap.size WX w' → w'.cell? ⟨b1, o1, none⟩ = some (.string nm) from fun w' hb => by
        have hbb := HBW.out.trans (hb.mono hwX)
        exact (World.cell?_of_block (w := w) (w' := w') (a := ⟨b1, o1, none⟩) (hbb.block b1 (by omega))).trans hc1)
      have HLSF := Lib.hid (show ∀ w', Below WX.heap.size WX w' → Pcs w' B x n cap l from fun w' hb => h.below (HBW.out.trans (hb.mono hwX)) hB)
      have HPSF := Lib.hid (show ∀ w', Below WX.heap.size WX w' → Strs w' B1 (some ⟨b1, o1, none⟩) m d (nm :: r) from fun w' hb => h1.below (HBW.out.trans (hb.mono hwX)) hB1)
      have HZS := Lib.hid (ents_sizes (fold_ents (s := getT l p)))
      have HEL := Lib.hid (entsB_at (fold_ents (s := getT l p))).1
      obtain ⟨E, hE⟩ : ∃ E, foldL (getT l p) = E := ⟨_, rfl⟩
      have HDEF := Lib.hid (show dropB l p (nm :: r) = if lastE nm (-1) E < 0 then (l, -1, false)
          else if r = [] then endB l (leftE E nm (-1))
          else if (dropB l (lastE nm (-1) E) r).2.2 = false then (l, -1, false)
          else endB (dropB l (lastE nm (-1) E) r).1 (leftE E nm (dropB l (lastE nm (-1) E) r).2.1) by rw [dropB, hE])
      have HE0 := Lib.hid (show E.length = 0 by rw [← hE]; exact HE00.out)
      rw [hE] at HLO HZS HEL
      clear hE
      have hlol := HLO.out.len
      have hloc := HLO.out.le
      have hlom := HLO.out.max
      unfold maxLen at hlom
      have hno3 : no ≤ 3 := by have := HEL.out; omega
      have HLOL := Lib.hid hlol
      clear h h1 hc1 hlol
      go_loopw [13, 14] (fun cv jv wq => ∃ (j : Nat) (c : Int), j ≤ no ∧ jv = .int .i64 j ∧ cv = .int .i64 c ∧ lastE nm (-1) E = lastE nm c (E.drop j) ∧ ∃ q, wq = WX.drewN q) (fun _ jv _ => no - (intOf jv).toNat)
      case atStart => exact ⟨0, -1, by omega, rfl, rfl, by rw [List.drop_zero], 0, rfl⟩
      case round =>
        obtain ⟨j, c, hj, rfl, rfl, hf, hq⟩ := hrel
        have HFL := Lib.hid hf; have HQ := Lib.hid hq; clear hf hq
        have HB1 := Lib.hid (show Below WX.heap.size WX wr by obtain ⟨q, rfl⟩ := HQ.out; exact below_drewN (Below.refl _ _) q)
        have hpc := HPC.out _ HB1.out
        by_cases hjl : j < no
        · exfalso; have := HLOL.out; have := HE0.out; omega
        · have HCH := Lib.hid (show lastE nm (-1) E = c from HFL.out.trans (lastE_end (by have := HLOL.out; omega)))
          rw [HCH.out] at HDEF
          clear HFL HCH
          by_cases hcn : c < 0
          · have HF := Lib.hid (HDEF.out.trans (if_pos hcn))
            go_wp2
            go_ret3
            exact rdPut_of HF.out ((HLSF.out _ HB1.out).more (Nat.le_trans hB (Nat.le_trans hwX HB1.out.size))) (HBW.out.trans (HB1.out.mono hwX))
          have hc0 : 0 ≤ c := by omega
          by_cases hr : r = []
          · have HD := Lib.hid (show dropB l p (nm :: r) = endB l (leftE E nm (-1)) by rw [HDEF.out, if_neg hcn, if_pos hr])
            have hmm : ¬ (1 : Int) < (m : Int) := by have h2 := HM1.out; rw [hr] at h2; simp at h2; omega
            clear hr
            have hzE : ∀ k, (nthE E k).1.size ≤ maxLen := fun k => Nat.le_trans (HZS.out k) (by unfold maxLen; omega)
            have hnmz : nm.size ≤ maxLen := Nat.le_trans (hz1 0) (by unfold maxLen; omega)
            have hft : ∀ {L : List Ent}, (folderB L).size ≤ maxLen := fun {L} => Nat.le_trans (folderB_size L) (by unfold maxLen; omega)
            have hzL : ∀ k, (nthP l k).2.size ≤ maxLen := fun k => Nat.le_trans (short_nth (hz) k) (by unfold maxLen; omega)
            have hzM : ∀ k, (nthE (dropE E nm).1 k).1.size ≤ maxLen := drop_names hzE
            have HLF := Lib.hid (show leftE E nm (-1) = (dropE E nm).1 from if_neg (by omega))
            rcases Classical.em ((dropE E nm).1 = []) with hre | hre
            all_goals have HRE := Lib.hid hre
            all_goals clear hre
            · have HF := Lib.hid (HD.out.trans (show endB l (leftE E nm (-1)) = (l, -1, true) by unfold endB; rw [HLF.out, if_pos HRE.out]))
              go_wp2_with (first
                | (go_at_call 103; refine (specDropEntry_any xo no co E nm WX.heap.size _ (HLO.out.below HB1.out (Nat.le_refl _)) HB1.out.size hzE hnmz).mono ?_; rintro e w6 ⟨v6, rfl, ho6, hb6⟩; obtain ⟨x6, n6, c6, rfl, hlo6⟩ := ho6.lst; have HB6 := Lib.hid (HB1.out.trans (hb6.mono HB1.out.size)); have HSS6 := Lib.hid (Lst.more (HLSF.out _ (HB1.out.trans (hb6.mono HB1.out.size))) (Nat.le_trans hB (Nat.le_trans hwX (Nat.le_trans HB1.out.size hb6.size)))); have hpc6 := HPC.out _ HB6.out; have HLO6 := Lib.hid hlo6; have hnr : ((n6 : Int) == 0) = true := (by have h9 := hlo6.len; rw [HRE.out] at h9; simp at h9; simp; omega); clear ho6 hb6 hlo6))
              go_ret3
              exact rdPut_of HF.out HSS6.out (HBW.out.trans (HB6.out.mono hwX))
            · have HF := Lib.hid (HD.out.trans (show endB l (leftE E nm (-1)) = putB l (folderB ((dropE E nm).1)) by unfold endB; rw [HLF.out, if_neg HRE.out]))
              go_wp2_with (first
                | (go_at_call 103; refine (specDropEntry_any xo no co E nm WX.heap.size _ (HLO.out.below HB1.out (Nat.le_refl _)) HB1.out.size hzE hnmz).mono ?_; rintro e w6 ⟨v6, rfl, ho6, hb6⟩; obtain ⟨x6, n6, c6, rfl, hlo6⟩ := ho6.lst; have HB6 := Lib.hid (HB1.out.trans (hb6.mono HB1.out.size)); have HSS6 := Lib.hid (Lst.more (HLSF.out _ (HB1.out.trans (hb6.mono HB1.out.size))) (Nat.le_trans hB (Nat.le_trans hwX (Nat.le_trans HB1.out.size hb6.size)))); have hpc6 := HPC.out _ HB6.out; have HLO6 := Lib.hid hlo6; have hnr : ((n6 : Int) == 0) = false := (by have h9 := hlo6.len; have h10 := List.length_pos_iff.2 HRE.out; simp; omega); clear ho6 hb6 hlo6)
                | (go_at_call 59; refine (specFolderText_any _ _ _ _ _ _ HLO6.out hzM).mono ?_; rintro e w8 ⟨rfl, q8, rfl⟩)
                | (go_at_call 78; refine (specPutText_any x n cap _ _ w6.heap.size _ (HSS6.out.drewN _) (le_drewN (Nat.le_refl _)) hzL hft).mono ?_; rintro e w9 ⟨v9, rfl, ho9, hb9⟩; obtain ⟨x9, n9, c9, rfl, hlo9⟩ := ho9.lst; have H9 := Lib.hid hlo9; have HB9 := Lib.hid ((below_drewN HB6.out _).trans (hb9.mono (le_drewN HB6.out.size))); clear ho9 hb9 hlo9))
              go_ret3
              exact rdPut_of HF.out H9.out (HBW.out.trans (HB9.out.mono hwX))
          · have hrl : 0 < r.length := List.length_pos_iff.2 hr
            have hmm : (1 : Int) < (m : Int) := by have h2 := HM1.out; omega
            have hd1 : ¬ d = 1 := by have h2 := HM1.out; omega
            have hml1 : (1 : Int) ≤ (m : Int) := by omega
            have hzr : ∀ k, (nthS r k).size ≤ 1048576 := fun k => hz1 (k + 1)
            have hmr : m - 1 ≤ 1000 := by omega
            have HRF := Lib.hid (show ∀ w', Below WX.heap.size WX w' → Strs w' B1 (some ⟨b1, o1 + 1, none⟩) (m - 1) (d - 1) r from fun w' hb => Lst.rest encStr (HPSF.out w' hb) (m := 1) (by omega))
            cases hok5 : (dropB l c r).2.2
            · have HF := Lib.hid (HDEF.out.trans (show _ = (l, -1, false) by rw [if_neg hcn, if_neg hr, if_pos hok5]))
              clear hr
              go_wp2_with (first
                | (go_at_call 93; refine (ih r _ _ n cap _ _ l c B B1 _ (HLSF.out _ HB1.out) (HRF.out _ HB1.out) (Nat.le_trans hB (Nat.le_trans hwX HB1.out.size)) (Nat.le_trans hB1 (Nat.le_trans hwX HB1.out.size)) hz hzr hmr hrl hNr).mono ?_; rintro e w5 ⟨x5, n5, c5, rfl, h5, hb5⟩; rw [hok5]; have H5 := Lib.hid h5; have HB5 := Lib.hid (HB1.out.trans (hb5.mono HB1.out.size)); have hpc5 := HPC.out _ HB5.out; clear h5 hb5))
              go_ret3
              exact rdPut_of HF.out ((HLSF.out _ HB5.out).more (Nat.le_trans hB (Nat.le_trans hwX HB5.out.size))) (HBW.out.trans (HB5.out.mono hwX))
            obtain ⟨LV, hLV⟩ : ∃ LV, (dropB l c r).2.1 = LV := ⟨_, rfl⟩
            have HD := Lib.hid (show dropB l p (nm :: r) = endB (dropB l c r).1 (leftE E nm LV) by rw [HDEF.out, if_neg hcn, if_neg hr, if_neg (by rw [hok5]; simp), hLV])
            clear hr
            by_cases hlv : 0 ≤ LV
            · skip
              have hzE : ∀ k, (nthE E k).1.size ≤ maxLen := fun k => Nat.le_trans (HZS.out k) (by unfold maxLen; omega)
              have hnmz : nm.size ≤ maxLen := Nat.le_trans (hz1 0) (by unfold maxLen; omega)
              have hft : ∀ {L : List Ent}, (folderB L).size ≤ maxLen := fun {L} => Nat.le_trans (folderB_size L) (by unfold maxLen; omega)
              have hzL : ∀ k, (nthP (dropB l c r).1 k).2.size ≤ maxLen := fun k => Nat.le_trans (short_nth (drop_short (m := 1048576) (by decide) hz) k) (by unfold maxLen; omega)
              have hzM : ∀ k, (nthE (putE E (nm, LV)).1 k).1.size ≤ maxLen := put_names hzE hnmz
              have HLF := Lib.hid (show leftE E nm LV = (putE E (nm, LV)).1 from if_pos hlv)
              rcases Classical.em ((putE E (nm, LV)).1 = []) with hre | hre
              all_goals have HRE := Lib.hid hre
              all_goals clear hre
              · have HF := Lib.hid (HD.out.trans (show endB (dropB l c r).1 (leftE E nm LV) = ((dropB l c r).1, -1, true) by unfold endB; rw [HLF.out, if_pos HRE.out]))
                go_wp2_with (first
                  | (go_at_call 93; refine (ih r _ _ n cap _ _ l c B B1 _ (HLSF.out _ HB1.out) (HRF.out _ HB1.out) (Nat.le_trans hB (Nat.le_trans hwX HB1.out.size)) (Nat.le_trans hB1 (Nat.le_trans hwX HB1.out.size)) hz hzr hmr hrl hNr).mono ?_; rintro e w5 ⟨x5, n5, c5, rfl, h5, hb5⟩; rw [hok5]; have H5 := Lib.hid h5; have HB5 := Lib.hid (HB1.out.trans (hb5.mono HB1.out.size)); have hpc5 := HPC.out _ HB5.out; rw [hLV]; clear h5 hb5)
                  | (go_at_call 103; refine (specDropEntry_any xo no co E nm WX.heap.size _ (HLO.out.below HB5.out (Nat.le_refl _)) HB5.out.size hzE hnmz).mono ?_; rintro e w6 ⟨v6, rfl, ho6, hb6⟩; obtain ⟨x6, n6, c6, rfl, hlo6⟩ := ho6.lst; have HB6 := Lib.hid (HB5.out.trans (hb6.mono HB5.out.size)); have HSS6 := Lib.hid (Lst.more (Lst.below H5.out hb6 (Nat.le_refl _)) hb6.size); have hpc6 := HPC.out _ HB6.out; have HLO6 := Lib.hid hlo6; clear ho6 hb6 hlo6)
                  | (go_at_call 104; refine (specPutEntry_any xo no co E (nm, LV) WX.heap.size _ (HLO.out.below HB6.out (Nat.le_refl _)) HB6.out.size hzE hnmz).mono ?_; rintro e w7 ⟨v7, rfl, ho7, hb7⟩; obtain ⟨x7, n7, c7, rfl, hlo7⟩ := ho7.lst; have HB7 := Lib.hid (HB6.out.trans (hb7.mono HB6.out.size)); have HSS7 := Lib.hid (Lst.more (Lst.below HSS6.out hb7 (Nat.le_refl _)) hb7.size); have HLO7 := Lib.hid hlo7; have hnr : ((n7 : Int) == 0) = true := (by have h9 := hlo7.len; rw [HRE.out] at h9; simp at h9; simp; omega); clear ho7 hb7 hlo7))
                go_ret3
                exact rdPut_of HF.out HSS7.out (HBW.out.trans (HB7.out.mono hwX))
              · have HF := Lib.hid (HD.out.trans (show endB (dropB l c r).1 (leftE E nm LV) = putB (dropB l c r).1 (folderB ((putE E (nm, LV)).1)) by unfold endB; rw [HLF.out, if_neg HRE.out]))
                go_wp2_with (first
                  | (go_at_call 93; refine (ih r _ _ n cap _ _ l c B B1 _ (HLSF.out _ HB1.out) (HRF.out _ HB1.out) (Nat.le_trans hB (Nat.le_trans hwX HB1.out.size)) (Nat.le_trans hB1 (Nat.le_trans hwX HB1.out.size)) hz hzr hmr hrl hNr).mono ?_; rintro e w5 ⟨x5, n5, c5, rfl, h5, hb5⟩; rw [hok5]; have H5 := Lib.hid h5; have HB5 := Lib.hid (HB1.out.trans (hb5.mono HB1.out.size)); have hpc5 := HPC.out _ HB5.out; rw [hLV]; clear h5 hb5)
                  | (go_at_call 103; refine (specDropEntry_any xo no co E nm WX.heap.size _ (HLO.out.below HB5.out (Nat.le_refl _)) HB5.out.size hzE hnmz).mono ?_; rintro e w6 ⟨v6, rfl, ho6, hb6⟩; obtain ⟨x6, n6, c6, rfl, hlo6⟩ := ho6.lst; have HB6 := Lib.hid (HB5.out.trans (hb6.mono HB5.out.size)); have HSS6 := Lib.hid (Lst.more (Lst.below H5.out hb6 (Nat.le_refl _)) hb6.size); have hpc6 := HPC.out _ HB6.out; have HLO6 := Lib.hid hlo6; clear ho6 hb6 hlo6)
                  | (go_at_call 104; refine (specPutEntry_any xo no co E (nm, LV) WX.heap.size _ (HLO.out.below HB6.out (Nat.le_refl _)) HB6.out.size hzE hnmz).mono ?_; rintro e w7 ⟨v7, rfl, ho7, hb7⟩; obtain ⟨x7, n7, c7, rfl, hlo7⟩ := ho7.lst; have HB7 := Lib.hid (HB6.out.trans (hb7.mono HB6.out.size)); have HSS7 := Lib.hid (Lst.more (Lst.below HSS6.out hb7 (Nat.le_refl _)) hb7.size); have HLO7 := Lib.hid hlo7; have hnr : ((n7 : Int) == 0) = false := (by have h9 := hlo7.len; have h10 := List.length_pos_iff.2 HRE.out; simp; omega); clear ho7 hb7 hlo7)
                  | (go_at_call 59; refine (specFolderText_any _ _ _ _ _ _ HLO7.out hzM).mono ?_; rintro e w8 ⟨rfl, q8, rfl⟩)
                  | (go_at_call 78; refine (specPutText_any x5 n5 c5 _ _ w7.heap.size _ (HSS7.out.drewN _) (le_drewN (Nat.le_refl _)) hzL hft).mono ?_; rintro e w9 ⟨v9, rfl, ho9, hb9⟩; obtain ⟨x9, n9, c9, rfl, hlo9⟩ := ho9.lst; have H9 := Lib.hid hlo9; have HB9 := Lib.hid ((below_drewN HB7.out _).trans (hb9.mono (le_drewN HB7.out.size))); clear ho9 hb9 hlo9))
                go_ret3
                exact rdPut_of HF.out H9.out (HBW.out.trans (HB9.out.mono hwX))
            · skip
              have hzE : ∀ k, (nthE E k).1.size ≤ maxLen := fun k => Nat.le_trans (HZS.out k) (by unfold maxLen; omega)
              have hnmz : nm.size ≤ maxLen := Nat.le_trans (hz1 0) (by unfold maxLen; omega)
              have hft : ∀ {L : List Ent}, (folderB L).size ≤ maxLen := fun {L} => Nat.le_trans (folderB_size L) (by unfold maxLen; omega)
              have hzL : ∀ k, (nthP (dropB l c r).1 k).2.size ≤ maxLen := fun k => Nat.le_trans (short_nth (drop_short (m := 1048576) (by decide) hz) k) (by unfold maxLen; omega)
              have hzM : ∀ k, (nthE (dropE E nm).1 k).1.size ≤ maxLen := drop_names hzE
              have HLF := Lib.hid (show leftE E nm LV = (dropE E nm).1 from if_neg (by omega))
              rcases Classical.em ((dropE E nm).1 = []) with hre | hre
              all_goals have HRE := Lib.hid hre
              all_goals clear hre
              · have HF := Lib.hid (HD.out.trans (show endB (dropB l c r).1 (leftE E nm LV) = ((dropB l c r).1, -1, true) by unfold endB; rw [HLF.out, if_pos HRE.out]))
                go_wp2_with (first
                  | (go_at_call 93; refine (ih r _ _ n cap _ _ l c B B1 _ (HLSF.out _ HB1.out) (HRF.out _ HB1.out) (Nat.le_trans hB (Nat.le_trans hwX HB1.out.size)) (Nat.le_trans hB1 (Nat.le_trans hwX HB1.out.size)) hz hzr hmr hrl hNr).mono ?_; rintro e w5 ⟨x5, n5, c5, rfl, h5, hb5⟩; rw [hok5]; have H5 := Lib.hid h5; have HB5 := Lib.hid (HB1.out.trans (hb5.mono HB1.out.size)); have hpc5 := HPC.out _ HB5.out; rw [hLV]; clear h5 hb5)
                  | (go_at_call 103; refine (specDropEntry_any xo no co E nm WX.heap.size _ (HLO.out.below HB5.out (Nat.le_refl _)) HB5.out.size hzE hnmz).mono ?_; rintro e w6 ⟨v6, rfl, ho6, hb6⟩; obtain ⟨x6, n6, c6, rfl, hlo6⟩ := ho6.lst; have HB6 := Lib.hid (HB5.out.trans (hb6.mono HB5.out.size)); have HSS6 := Lib.hid (Lst.more (Lst.below H5.out hb6 (Nat.le_refl _)) hb6.size); have hpc6 := HPC.out _ HB6.out; have HLO6 := Lib.hid hlo6; have hnr : ((n6 : Int) == 0) = true := (by have h9 := hlo6.len; rw [HRE.out] at h9; simp at h9; simp; omega); clear ho6 hb6 hlo6))
                go_ret3
                exact rdPut_of HF.out HSS6.out (HBW.out.trans (HB6.out.mono hwX))
              · have HF := Lib.hid (HD.out.trans (show endB (dropB l c r).1 (leftE E nm LV) = putB (dropB l c r).1 (folderB ((dropE E nm).1)) by unfold endB; rw [HLF.out, if_neg HRE.out]))
                go_wp2_with (first
                  | (go_at_call 93; refine (ih r _ _ n cap _ _ l c B B1 _ (HLSF.out _ HB1.out) (HRF.out _ HB1.out) (Nat.le_trans hB (Nat.le_trans hwX HB1.out.size)) (Nat.le_trans hB1 (Nat.le_trans hwX HB1.out.size)) hz hzr hmr hrl hNr).mono ?_; rintro e w5 ⟨x5, n5, c5, rfl, h5, hb5⟩; rw [hok5]; have H5 := Lib.hid h5; have HB5 := Lib.hid (HB1.out.trans (hb5.mono HB1.out.size)); have hpc5 := HPC.out _ HB5.out; rw [hLV]; clear h5 hb5)
                  | (go_at_call 103; refine (specDropEntry_any xo no co E nm WX.heap.size _ (HLO.out.below HB5.out (Nat.le_refl _)) HB5.out.size hzE hnmz).mono ?_; rintro e w6 ⟨v6, rfl, ho6, hb6⟩; obtain ⟨x6, n6, c6, rfl, hlo6⟩ := ho6.lst; have HB6 := Lib.hid (HB5.out.trans (hb6.mono HB5.out.size)); have HSS6 := Lib.hid (Lst.more (Lst.below H5.out hb6 (Nat.le_refl _)) hb6.size); have hpc6 := HPC.out _ HB6.out; have HLO6 := Lib.hid hlo6; have hnr : ((n6 : Int) == 0) = false := (by have h9 := hlo6.len; have h10 := List.length_pos_iff.2 HRE.out; simp; omega); clear ho6 hb6 hlo6)
                  | (go_at_call 59; refine (specFolderText_any _ _ _ _ _ _ HLO6.out hzM).mono ?_; rintro e w8 ⟨rfl, q8, rfl⟩)
                  | (go_at_call 78; refine (specPutText_any x5 n5 c5 _ _ w6.heap.size _ (HSS6.out.drewN _) (le_drewN (Nat.le_refl _)) hzL hft).mono ?_; rintro e w9 ⟨v9, rfl, ho9, hb9⟩; obtain ⟨x9, n9, c9, rfl, hlo9⟩ := ho9.lst; have H9 := Lib.hid hlo9; have HB9 := Lib.hid ((below_drewN HB6.out _).trans (hb9.mono (le_drewN HB6.out.size))); clear ho9 hb9 hlo9))
                go_ret3
                exact rdPut_of HF.out H9.out (HBW.out.trans (HB9.out.mono hwX))
    · have HLS := Lib.hid h
      go_enter Tryz.func93, Tryz.ntmps93
      go_wp2_with (first
        | (go_at_call 45; refine (specL4Get_any x n cap l p B _ HLS.out).mono ?_; rintro e w' ⟨rfl, rfl⟩)
        | (go_at_call 30; refine (specReadFolder_any _ _ hgz).mono ?_; rintro e WX ⟨v, rfl, ho, hb2⟩; rw [hok]; obtain ⟨xo, no, co, rfl, hlo⟩ := ho.lst; have HLO := Lib.hid hlo; have HBX0 := Lib.hid hb2; clear ho hb2 hlo))
      have HBW := Lib.hid (show Below w.heap.size w WX from HBX0.out)
      have hwX : w.heap.size ≤ WX.heap.size := HBX0.out.size
      have HPC := Lib.hid (show ∀ w', Below WX.heap.size WX w' → w'.cell? ⟨b1, o1, none⟩ = some (.string nm) from fun w' hb => by
        have hbb := HBW.out.trans (hb.mono hwX)
        exact (World.cell?_of_block (w := w) (w' := w') (a := ⟨b1, o1, none⟩) (hbb.block b1 (by omega))).trans hc1)
      have HLSF := Lib.hid (show ∀ w', Below WX.heap.size WX w' → Pcs w' B x n cap l from fun w' hb => h.below (HBW.out.trans (hb.mono hwX)) hB)
      have HPSF := Lib.hid (show ∀ w', Below WX.heap.size WX w' → Strs w' B1 (some ⟨b1, o1, none⟩) m d (nm :: r) from fun w' hb => h1.below (HBW.out.trans (hb.mono hwX)) hB1)
      have HZS := Lib.hid (ents_sizes (fold_ents (s := getT l p)))
      have HEL := Lib.hid (entsB_at (fold_ents (s := getT l p))).1
      obtain ⟨E, hE⟩ : ∃ E, foldL (getT l p) = E := ⟨_, rfl⟩
      have HDEF := Lib.hid (show dropB l p (nm :: r) = if lastE nm (-1) E < 0 then (l, -1, false)
          else if r = [] then endB l (leftE E nm (-1))
          else if (dropB l (lastE nm (-1) E) r).2.2 = false then (l, -1, false)
          else endB (dropB l (lastE nm (-1) E) r).1 (leftE E nm (dropB l (lastE nm (-1) E) r).2.1) by rw [dropB, hE])
      rw [hE] at HLO HZS HEL
      clear hE
      have hlol := HLO.out.len
      have hloc := HLO.out.le
      have hlom := HLO.out.max
      unfold maxLen at hlom
      have hno3 : no ≤ 3 := by have := HEL.out; omega
      have HLOL := Lib.hid hlol
      clear h h1 hc1 hlol
      go_loopw [13, 14] (fun cv jv wq => ∃ (j : Nat) (c : Int), j ≤ no ∧ jv = .int .i64 j ∧ cv = .int .i64 c ∧ lastE nm (-1) E = lastE nm c (E.drop j) ∧ ∃ q, wq = WX.drewN q) (fun _ jv _ => no - (intOf jv).toNat)
      case atStart => exact ⟨0, -1, by omega, rfl, rfl, by rw [List.drop_zero], 0, rfl⟩
      case round =>
        obtain ⟨j, c, hj, rfl, rfl, hf, hq⟩ := hrel
        have HFL := Lib.hid hf; have HQ := Lib.hid hq; clear hf hq
        have HB1 := Lib.hid (show Below WX.heap.size WX wr by obtain ⟨q, rfl⟩ := HQ.out; exact below_drewN (Below.refl _ _) q)
        have hpc := HPC.out _ HB1.out
        by_cases hjl : j < no
        · have hjl2 : j < E.length := by have := HLOL.out; omega
          obtain ⟨b, off, rfl, hb, hc0, hcp⟩ := (HLO.out.below HB1.out (Nat.le_refl _)).atE hjl
          cases hmn : ((nthE E j).1.toList == nm.toList)
          · have HST := Lib.hid (HFL.out.trans (lastE_no hjl2 hmn))
            go_wp2
            go_quiet (fail)
            go_wp2
            go_roundw
            case rel => exact ⟨j + 1, _, by omega, by go_num, rfl, HST.out, by obtain ⟨q, rfl⟩ := HQ.out; exact ⟨_, by rw [World.drewN_drewN]⟩⟩
            case measure => simp [intOf]; omega
          · have HST := Lib.hid (HFL.out.trans (lastE_yes hjl2 hmn))
            go_wp2
            go_quiet (fail)
            go_wp2
            go_roundw
            case rel => exact ⟨j + 1, _, by omega, by go_num, rfl, HST.out, by obtain ⟨q, rfl⟩ := HQ.out; exact ⟨_, by rw [World.drewN_drewN]⟩⟩
            case measure => simp [intOf]; omega
        · have HCH := Lib.hid (show lastE nm (-1) E = c from HFL.out.trans (lastE_end (by have := HLOL.out; omega)))
          rw [HCH.out] at HDEF
          clear HFL HCH
          by_cases hcn : c < 0
          · have HF := Lib.hid (HDEF.out.trans (if_pos hcn))
            go_wp2
            go_ret3
            exact rdPut_of HF.out ((HLSF.out _ HB1.out).more (Nat.le_trans hB (Nat.le_trans hwX HB1.out.size))) (HBW.out.trans (HB1.out.mono hwX))
          have hc0 : 0 ≤ c := by omega
          by_cases hr : r = []
          · have HD := Lib.hid (show dropB l p (nm :: r) = endB l (leftE E nm (-1)) by rw [HDEF.out, if_neg hcn, if_pos hr])
            have hmm : ¬ (1 : Int) < (m : Int) := by have h2 := HM1.out; rw [hr] at h2; simp at h2; omega
            clear hr
            have hzE : ∀ k, (nthE E k).1.size ≤ maxLen := fun k => Nat.le_trans (HZS.out k) (by unfold maxLen; omega)
            have hnmz : nm.size ≤ maxLen := Nat.le_trans (hz1 0) (by unfold maxLen; omega)
            have hft : ∀ {L : List Ent}, (folderB L).size ≤ maxLen := fun {L} => Nat.le_trans (folderB_size L) (by unfold maxLen; omega)
            have hzL : ∀ k, (nthP l k).2.size ≤ maxLen := fun k => Nat.le_trans (short_nth (hz) k) (by unfold maxLen; omega)
            have hzM : ∀ k, (nthE (dropE E nm).1 k).1.size ≤ maxLen := drop_names hzE
            have HLF := Lib.hid (show leftE E nm (-1) = (dropE E nm).1 from if_neg (by omega))
            rcases Classical.em ((dropE E nm).1 = []) with hre | hre
            all_goals have HRE := Lib.hid hre
            all_goals clear hre
            · have HF := Lib.hid (HD.out.trans (show endB l (leftE E nm (-1)) = (l, -1, true) by unfold endB; rw [HLF.out, if_pos HRE.out]))
              go_wp2_with (first
                | (go_at_call 103; refine (specDropEntry_any xo no co E nm WX.heap.size _ (HLO.out.below HB1.out (Nat.le_refl _)) HB1.out.size hzE hnmz).mono ?_; rintro e w6 ⟨v6, rfl, ho6, hb6⟩; obtain ⟨x6, n6, c6, rfl, hlo6⟩ := ho6.lst; have HB6 := Lib.hid (HB1.out.trans (hb6.mono HB1.out.size)); have HSS6 := Lib.hid (Lst.more (HLSF.out _ (HB1.out.trans (hb6.mono HB1.out.size))) (Nat.le_trans hB (Nat.le_trans hwX (Nat.le_trans HB1.out.size hb6.size)))); have hpc6 := HPC.out _ HB6.out; have HLO6 := Lib.hid hlo6; have hnr : ((n6 : Int) == 0) = true := (by have h9 := hlo6.len; rw [HRE.out] at h9; simp at h9; simp; omega); clear ho6 hb6 hlo6))
              go_ret3
              exact rdPut_of HF.out HSS6.out (HBW.out.trans (HB6.out.mono hwX))
            · have HF := Lib.hid (HD.out.trans (show endB l (leftE E nm (-1)) = putB l (folderB ((dropE E nm).1)) by unfold endB; rw [HLF.out, if_neg HRE.out]))
              go_wp2_with (first
                | (go_at_call 103; refine (specDropEntry_any xo no co E nm WX.heap.size _ (HLO.out.below HB1.out (Nat.le_refl _)) HB1.out.size hzE hnmz).mono ?_; rintro e w6 ⟨v6, rfl, ho6, hb6⟩; obtain ⟨x6, n6, c6, rfl, hlo6⟩ := ho6.lst; have HB6 := Lib.hid (HB1.out.trans (hb6.mono HB1.out.size)); have HSS6 := Lib.hid (Lst.more (HLSF.out _ (HB1.out.trans (hb6.mono HB1.out.size))) (Nat.le_trans hB (Nat.le_trans hwX (Nat.le_trans HB1.out.size hb6.size)))); have hpc6 := HPC.out _ HB6.out; have HLO6 := Lib.hid hlo6; have hnr : ((n6 : Int) == 0) = false := (by have h9 := hlo6.len; have h10 := List.length_pos_iff.2 HRE.out; simp; omega); clear ho6 hb6 hlo6)
                | (go_at_call 59; refine (specFolderText_any _ _ _ _ _ _ HLO6.out hzM).mono ?_; rintro e w8 ⟨rfl, q8, rfl⟩)
                | (go_at_call 78; refine (specPutText_any x n cap _ _ w6.heap.size _ (HSS6.out.drewN _) (le_drewN (Nat.le_refl _)) hzL hft).mono ?_; rintro e w9 ⟨v9, rfl, ho9, hb9⟩; obtain ⟨x9, n9, c9, rfl, hlo9⟩ := ho9.lst; have H9 := Lib.hid hlo9; have HB9 := Lib.hid ((below_drewN HB6.out _).trans (hb9.mono (le_drewN HB6.out.size))); clear ho9 hb9 hlo9))
              go_ret3
              exact rdPut_of HF.out H9.out (HBW.out.trans (HB9.out.mono hwX))
          · have hrl : 0 < r.length := List.length_pos_iff.2 hr
            have hmm : (1 : Int) < (m : Int) := by have h2 := HM1.out; omega
            have hd1 : ¬ d = 1 := by have h2 := HM1.out; omega
            have hml1 : (1 : Int) ≤ (m : Int) := by omega
            have hzr : ∀ k, (nthS r k).size ≤ 1048576 := fun k => hz1 (k + 1)
            have hmr : m - 1 ≤ 1000 := by omega
            have HRF := Lib.hid (show ∀ w', Below WX.heap.size WX w' → Strs w' B1 (some ⟨b1, o1 + 1, none⟩) (m - 1) (d - 1) r from fun w' hb => Lst.rest encStr (HPSF.out w' hb) (m := 1) (by omega))
            cases hok5 : (dropB l c r).2.2
            · have HF := Lib.hid (HDEF.out.trans (show _ = (l, -1, false) by rw [if_neg hcn, if_neg hr, if_pos hok5]))
              clear hr
              go_wp2_with (first
                | (go_at_call 93; refine (ih r _ _ n cap _ _ l c B B1 _ (HLSF.out _ HB1.out) (HRF.out _ HB1.out) (Nat.le_trans hB (Nat.le_trans hwX HB1.out.size)) (Nat.le_trans hB1 (Nat.le_trans hwX HB1.out.size)) hz hzr hmr hrl hNr).mono ?_; rintro e w5 ⟨x5, n5, c5, rfl, h5, hb5⟩; rw [hok5]; have H5 := Lib.hid h5; have HB5 := Lib.hid (HB1.out.trans (hb5.mono HB1.out.size)); have hpc5 := HPC.out _ HB5.out; clear h5 hb5))
              go_ret3
              exact rdPut_of HF.out ((HLSF.out _ HB5.out).more (Nat.le_trans hB (Nat.le_trans hwX HB5.out.size))) (HBW.out.trans (HB5.out.mono hwX))
            obtain ⟨LV, hLV⟩ : ∃ LV, (dropB l c r).2.1 = LV := ⟨_, rfl⟩
            have HD := Lib.hid (show dropB l p (nm :: r) = endB (dropB l c r).1 (leftE E nm LV) by rw [HDEF.out, if_neg hcn, if_neg hr, if_neg (by rw [hok5]; simp), hLV])
            clear hr
            by_cases hlv : 0 ≤ LV
            · skip
              have hzE : ∀ k, (nthE E k).1.size ≤ maxLen := fun k => Nat.le_trans (HZS.out k) (by unfold maxLen; omega)
              have hnmz : nm.size ≤ maxLen := Nat.le_trans (hz1 0) (by unfold maxLen; omega)
              have hft : ∀ {L : List Ent}, (folderB L).size ≤ maxLen := fun {L} => Nat.le_trans (folderB_size L) (by unfold maxLen; omega)
              have hzL : ∀ k, (nthP (dropB l c r).1 k).2.size ≤ maxLen := fun k => Nat.le_trans (short_nth (drop_short (m := 1048576) (by decide) hz) k) (by unfold maxLen; omega)
              have hzM : ∀ k, (nthE (putE E (nm, LV)).1 k).1.size ≤ maxLen := put_names hzE hnmz
              have HLF := Lib.hid (show leftE E nm LV = (putE E (nm, LV)).1 from if_pos hlv)
              rcases Classical.em ((putE E (nm, LV)).1 = []) with hre | hre
              all_goals have HRE := Lib.hid hre
              all_goals clear hre
              · have HF := Lib.hid (HD.out.trans (show endB (dropB l c r).1 (leftE E nm LV) = ((dropB l c r).1, -1, true) by unfold endB; rw [HLF.out, if_pos HRE.out]))
                go_wp2_with (first
                  | (go_at_call 93; refine (ih r _ _ n cap _ _ l c B B1 _ (HLSF.out _ HB1.out) (HRF.out _ HB1.out) (Nat.le_trans hB (Nat.le_trans hwX HB1.out.size)) (Nat.le_trans hB1 (Nat.le_trans hwX HB1.out.size)) hz hzr hmr hrl hNr).mono ?_; rintro e w5 ⟨x5, n5, c5, rfl, h5, hb5⟩; rw [hok5]; have H5 := Lib.hid h5; have HB5 := Lib.hid (HB1.out.trans (hb5.mono HB1.out.size)); have hpc5 := HPC.out _ HB5.out; rw [hLV]; clear h5 hb5)
                  | (go_at_call 103; refine (specDropEntry_any xo no co E nm WX.heap.size _ (HLO.out.below HB5.out (Nat.le_refl _)) HB5.out.size hzE hnmz).mono ?_; rintro e w6 ⟨v6, rfl, ho6, hb6⟩; obtain ⟨x6, n6, c6, rfl, hlo6⟩ := ho6.lst; have HB6 := Lib.hid (HB5.out.trans (hb6.mono HB5.out.size)); have HSS6 := Lib.hid (Lst.more (Lst.below H5.out hb6 (Nat.le_refl _)) hb6.size); have hpc6 := HPC.out _ HB6.out; have HLO6 := Lib.hid hlo6; clear ho6 hb6 hlo6)
                  | (go_at_call 104; refine (specPutEntry_any xo no co E (nm, LV) WX.heap.size _ (HLO.out.below HB6.out (Nat.le_refl _)) HB6.out.size hzE hnmz).mono ?_; rintro e w7 ⟨v7, rfl, ho7, hb7⟩; obtain ⟨x7, n7, c7, rfl, hlo7⟩ := ho7.lst; have HB7 := Lib.hid (HB6.out.trans (hb7.mono HB6.out.size)); have HSS7 := Lib.hid (Lst.more (Lst.below HSS6.out hb7 (Nat.le_refl _)) hb7.size); have HLO7 := Lib.hid hlo7; have hnr : ((n7 : Int) == 0) = true := (by have h9 := hlo7.len; rw [HRE.out] at h9; simp at h9; simp; omega); clear ho7 hb7 hlo7))
                go_ret3
                exact rdPut_of HF.out HSS7.out (HBW.out.trans (HB7.out.mono hwX))
              · have HF := Lib.hid (HD.out.trans (show endB (dropB l c r).1 (leftE E nm LV) = putB (dropB l c r).1 (folderB ((putE E (nm, LV)).1)) by unfold endB; rw [HLF.out, if_neg HRE.out]))
                go_wp2_with (first
                  | (go_at_call 93; refine (ih r _ _ n cap _ _ l c B B1 _ (HLSF.out _ HB1.out) (HRF.out _ HB1.out) (Nat.le_trans hB (Nat.le_trans hwX HB1.out.size)) (Nat.le_trans hB1 (Nat.le_trans hwX HB1.out.size)) hz hzr hmr hrl hNr).mono ?_; rintro e w5 ⟨x5, n5, c5, rfl, h5, hb5⟩; rw [hok5]; have H5 := Lib.hid h5; have HB5 := Lib.hid (HB1.out.trans (hb5.mono HB1.out.size)); have hpc5 := HPC.out _ HB5.out; rw [hLV]; clear h5 hb5)
                  | (go_at_call 103; refine (specDropEntry_any xo no co E nm WX.heap.size _ (HLO.out.below HB5.out (Nat.le_refl _)) HB5.out.size hzE hnmz).mono ?_; rintro e w6 ⟨v6, rfl, ho6, hb6⟩; obtain ⟨x6, n6, c6, rfl, hlo6⟩ := ho6.lst; have HB6 := Lib.hid (HB5.out.trans (hb6.mono HB5.out.size)); have HSS6 := Lib.hid (Lst.more (Lst.below H5.out hb6 (Nat.le_refl _)) hb6.size); have hpc6 := HPC.out _ HB6.out; have HLO6 := Lib.hid hlo6; clear ho6 hb6 hlo6)
                  | (go_at_call 104; refine (specPutEntry_any xo no co E (nm, LV) WX.heap.size _ (HLO.out.below HB6.out (Nat.le_refl _)) HB6.out.size hzE hnmz).mono ?_; rintro e w7 ⟨v7, rfl, ho7, hb7⟩; obtain ⟨x7, n7, c7, rfl, hlo7⟩ := ho7.lst; have HB7 := Lib.hid (HB6.out.trans (hb7.mono HB6.out.size)); have HSS7 := Lib.hid (Lst.more (Lst.below HSS6.out hb7 (Nat.le_refl _)) hb7.size); have HLO7 := Lib.hid hlo7; have hnr : ((n7 : Int) == 0) = false := (by have h9 := hlo7.len; have h10 := List.length_pos_iff.2 HRE.out; simp; omega); clear ho7 hb7 hlo7)
                  | (go_at_call 59; refine (specFolderText_any _ _ _ _ _ _ HLO7.out hzM).mono ?_; rintro e w8 ⟨rfl, q8, rfl⟩)
                  | (go_at_call 78; refine (specPutText_any x5 n5 c5 _ _ w7.heap.size _ (HSS7.out.drewN _) (le_drewN (Nat.le_refl _)) hzL hft).mono ?_; rintro e w9 ⟨v9, rfl, ho9, hb9⟩; obtain ⟨x9, n9, c9, rfl, hlo9⟩ := ho9.lst; have H9 := Lib.hid hlo9; have HB9 := Lib.hid ((below_drewN HB7.out _).trans (hb9.mono (le_drewN HB7.out.size))); clear ho9 hb9 hlo9))
                go_ret3
                exact rdPut_of HF.out H9.out (HBW.out.trans (HB9.out.mono hwX))
            · skip
              have hzE : ∀ k, (nthE E k).1.size ≤ maxLen := fun k => Nat.le_trans (HZS.out k) (by unfold maxLen; omega)
              have hnmz : nm.size ≤ maxLen := Nat.le_trans (hz1 0) (by unfold maxLen; omega)
              have hft : ∀ {L : List Ent}, (folderB L).size ≤ maxLen := fun {L} => Nat.le_trans (folderB_size L) (by unfold maxLen; omega)
              have hzL : ∀ k, (nthP (dropB l c r).1 k).2.size ≤ maxLen := fun k => Nat.le_trans (short_nth (drop_short (m := 1048576) (by decide) hz) k) (by unfold maxLen; omega)
              have hzM : ∀ k, (nthE (dropE E nm).1 k).1.size ≤ maxLen := drop_names hzE
              have HLF := Lib.hid (show leftE E nm LV = (dropE E nm).1 from if_neg (by omega))
              rcases Classical.em ((dropE E nm).1 = []) with hre | hre
              all_goals have HRE := Lib.hid hre
              all_goals clear hre
              · have HF := Lib.hid (HD.out.trans (show endB (dropB l c r).1 (leftE E nm LV) = ((dropB l c r).1, -1, true) by unfold endB; rw [HLF.out, if_pos HRE.out]))
                go_wp2_with (first
                  | (go_at_call 93; refine (ih r _ _ n cap _ _ l c B B1 _ (HLSF.out _ HB1.out) (HRF.out _ HB1.out) (Nat.le_trans hB (Nat.le_trans hwX HB1.out.size)) (Nat.le_trans hB1 (Nat.le_trans hwX HB1.out.size)) hz hzr hmr hrl hNr).mono ?_; rintro e w5 ⟨x5, n5, c5, rfl, h5, hb5⟩; rw [hok5]; have H5 := Lib.hid h5; have HB5 := Lib.hid (HB1.out.trans (hb5.mono HB1.out.size)); have hpc5 := HPC.out _ HB5.out; rw [hLV]; clear h5 hb5)
                  | (go_at_call 103; refine (specDropEntry_any xo no co E nm WX.heap.size _ (HLO.out.below HB5.out (Nat.le_refl _)) HB5.out.size hzE hnmz).mono ?_; rintro e w6 ⟨v6, rfl, ho6, hb6⟩; obtain ⟨x6, n6, c6, rfl, hlo6⟩ := ho6.lst; have HB6 := Lib.hid (HB5.out.trans (hb6.mono HB5.out.size)); have HSS6 := Lib.hid (Lst.more (Lst.below H5.out hb6 (Nat.le_refl _)) hb6.size); have hpc6 := HPC.out _ HB6.out; have HLO6 := Lib.hid hlo6; have hnr : ((n6 : Int) == 0) = true := (by have h9 := hlo6.len; rw [HRE.out] at h9; simp at h9; simp; omega); clear ho6 hb6 hlo6))
                go_ret3
                exact rdPut_of HF.out HSS6.out (HBW.out.trans (HB6.out.mono hwX))
              · have HF := Lib.hid (HD.out.trans (show endB (dropB l c r).1 (leftE E nm LV) = putB (dropB l c r).1 (folderB ((dropE E nm).1)) by unfold endB; rw [HLF.out, if_neg HRE.out]))
                go_wp2_with (first
                  | (go_at_call 93; refine (ih r _ _ n cap _ _ l c B B1 _ (HLSF.out _ HB1.out) (HRF.out _ HB1.out) (Nat.le_trans hB (Nat.le_trans hwX HB1.out.size)) (Nat.le_trans hB1 (Nat.le_trans hwX HB1.out.size)) hz hzr hmr hrl hNr).mono ?_; rintro e w5 ⟨x5, n5, c5, rfl, h5, hb5⟩; rw [hok5]; have H5 := Lib.hid h5; have HB5 := Lib.hid (HB1.out.trans (hb5.mono HB1.out.size)); have hpc5 := HPC.out _ HB5.out; rw [hLV]; clear h5 hb5)
                  | (go_at_call 103; refine (specDropEntry_any xo no co E nm WX.heap.size _ (HLO.out.below HB5.out (Nat.le_refl _)) HB5.out.size hzE hnmz).mono ?_; rintro e w6 ⟨v6, rfl, ho6, hb6⟩; obtain ⟨x6, n6, c6, rfl, hlo6⟩ := ho6.lst; have HB6 := Lib.hid (HB5.out.trans (hb6.mono HB5.out.size)); have HSS6 := Lib.hid (Lst.more (Lst.below H5.out hb6 (Nat.le_refl _)) hb6.size); have hpc6 := HPC.out _ HB6.out; have HLO6 := Lib.hid hlo6; have hnr : ((n6 : Int) == 0) = false := (by have h9 := hlo6.len; have h10 := List.length_pos_iff.2 HRE.out; simp; omega); clear ho6 hb6 hlo6)
                  | (go_at_call 59; refine (specFolderText_any _ _ _ _ _ _ HLO6.out hzM).mono ?_; rintro e w8 ⟨rfl, q8, rfl⟩)
                  | (go_at_call 78; refine (specPutText_any x5 n5 c5 _ _ w6.heap.size _ (HSS6.out.drewN _) (le_drewN (Nat.le_refl _)) hzL hft).mono ?_; rintro e w9 ⟨v9, rfl, ho9, hb9⟩; obtain ⟨x9, n9, c9, rfl, hlo9⟩ := ho9.lst; have H9 := Lib.hid hlo9; have HB9 := Lib.hid ((below_drewN HB6.out _).trans (hb9.mono (le_drewN HB6.out.size))); clear ho9 hb9 hlo9))
                go_ret3
                exact rdPut_of HF.out H9.out (HBW.out.trans (HB9.out.mono hwX))
end Go.Proofs.YtikmmhccgmmneaaGreatDoor
/-
  Chapter 10's model: writing and dropping at a path.
-/
namespace Go.Proofs.YtikmmhccgmmneaaGreatDoor
open Go.RowKit
set_option linter.unusedVariables false
theorem specEmptyRoot_any (x : Option Addr) (n cap : Nat) (l : List Pc) (B : Nat) (w : World) (h : Pcs w B x n cap l) (hB : B ≤ w.heap.size) (hz : ∀ k, (nthP l k).2.size ≤ maxLen) : Calls Tryz.prog 60 #[.slice x n cap] w (RdPut (putB l (folderB [])) w) := by
  have hft : (folderB []).size ≤ maxLen := Nat.le_trans (folderB_size _) (by unfold maxLen; omega)
  have HLS := Lib.hid (h.alloc hB (.cells #[] 51))
  have HE := Lib.hid (OwnL.new enG 51 (size := 2) w)
  have HB0 := Lib.hid ((Below.refl w.heap.size w).alloc (Nat.le_refl _) (.cells #[] 51))
  go_enter Tryz.func60, Tryz.ntmps60
  go_wp2_with (first
    | (go_at_call 59; refine (specFolderText_any _ _ _ [] _ _ (OwnL.lst' HE.out) (fun k => by simp [nthE])).mono ?_; rintro e w1 ⟨rfl, q, rfl⟩)
    | (go_at_call 78; refine (specPutText_any x n cap l _ B _ (HLS.out.drewN _) (le_drewN (Nat.le_trans hB HB0.out.size)) hz hft).mono ?_; rintro e w2 ⟨v, rfl, ho, hb⟩; obtain ⟨x2, n2, c2, rfl, hlo⟩ := ho.lst; have HLO := Lib.hid hlo; have HB2 := Lib.hid ((below_drewN HB0.out _).trans (hb.mono (le_drewN HB0.out.size))); clear ho hb hlo))
  go_ret3
  exact ⟨_, _, _, rfl, HLO.out, HB2.out⟩
def writeB (l : List Pc) (root : Int) (path content : ByteArray) : List Pc × Int × Bool :=
  if (storeB l && isPath path && !decide (partsB path = []) && contentB content) = false then ([], -1, false)
  else if getO l root = false then (l, root, false)
  else if (setB (printB (fileB content)) l root (partsB path)).2.2 = false then (l, root, false)
  else if (putB (setB (printB (fileB content)) l root (partsB path)).1 (fileB content)).2.2 = false then (l, root, false)
  else ((putB (setB (printB (fileB content)) l root (partsB path)).1 (fileB content)).1, (setB (printB (fileB content)) l root (partsB path)).2.1, true)
def dropAtB (l : List Pc) (root : Int) (path : ByteArray) : List Pc × Int × Bool :=
  if (storeB l && isPath path && !decide (partsB path = [])) = false then ([], -1, false)
  else if (walkB l root (partsB path)).2 = false then (l, root, false)
  else if ((dropB l root (partsB path)).2.2 && decide ((dropB l root (partsB path)).2.1 < 0)) = true then
    (if (putB (dropB l root (partsB path)).1 (folderB [])).2.2 = false then (l, root, false) else ((putB (dropB l root (partsB path)).1 (folderB [])).1, (putB (dropB l root (partsB path)).1 (folderB [])).2.1, true))
  else if (dropB l root (partsB path)).2.2 = false then (l, root, false)
  else ((dropB l root (partsB path)).1, (dropB l root (partsB path)).2.1, true)
theorem nthS_all {l : List ByteArray} {m : Nat} (h : ∀ q ∈ l, q.size ≤ m) (k : Nat) : (nthS l k).size ≤ m := by
  by_cases hk : k < l.length
  · rw [nthS_get hk]; exact h _ (List.getElem_mem _)
  · unfold nthS; rw [List.getD_eq_getElem?_getD, List.getElem?_eq_none (by omega)]; simp
/-- The words of a path are few and short. -/
theorem parts_small {s : ByteArray} : (partsB s).length ≤ 3 ∧ ∀ k, (nthS (partsB s) k).size ≤ 8 := by
  unfold partsB
  split
  · exact ⟨by simp, fun k => by simp [nthS]⟩
  · split
    · rename_i h0 h1
      unfold isPath at h1
      rw [decide_eq_false h0, Bool.false_or, Bool.and_eq_true, decide_eq_true_eq, decide_eq_true_eq] at h1
      have h2 := h1.2
      unfold pathB at h2
      split at h2
      · rename_i h3; rw [h3]; exact ⟨by simp, fun k => by simp [nthS]⟩
      · split at h2
        · rename_i h4
          simp only [Bool.and_eq_true, decide_eq_true_eq] at h4
          exact ⟨h4.2, nthS_all fun q hq => word_size (List.all_eq_true.1 h4.1 q hq)⟩
        · rw [← h2] at h1; exact absurd h1.1 (by decide)
    · exact ⟨by simp, fun k => by simp [nthS]⟩
theorem text_size {s : ByteArray} (h : textB s = true) : s.size ≤ 60 := by
  rcases Nat.lt_or_ge 60 s.size with h2 | h2
  · rw [textV_long _ h2] at h; cases h
  · exact h2
theorem fileB_size (s : ByteArray) : (fileB s).size ≤ 61 := by
  cases h : contentB s
  · rw [fileB_no h]; decide
  · rw [fileB_yes h, ByteArray.size_append]
    unfold contentB at h
    rw [Bool.and_eq_true] at h
    have := text_size h.1
    show 1 + _ ≤ 61
    omega
theorem putB_few (l : List Pc) (t : ByteArray) : (putB l t).1.length ≤ 40 := by
  cases h : storeB l
  · rw [putB_bad h]; simp
  · have h40 := (storeB_at h).1
    have hat := atP_le (printB t) l
    unfold putB putL
    rw [if_neg (by rw [h]; simp)]
    repeat' split
    all_goals simp
    all_goals omega
set_option maxHeartbeats 4000000 in
set_option maxRecDepth 100000 in
theorem specWriteAt_any (x : Option Addr) (n cap : Nat) (l : List Pc) (root : Int) (path content : ByteArray) (B : Nat) (w : World) (h : Pcs w B x n cap l) (hB : B ≤ w.heap.size) (hzm : ∀ k, (nthP l k).2.size ≤ maxLen) (hpz : path.size ≤ 1048576) (hcz : content.size ≤ 1000000) :
    Calls Tryz.prog 80 #[.slice x n cap, .int .i64 root, .string path, .string content] w (RdPut (writeB l root path content) w) := by
  have hcm : content.size ≤ maxLen := by unfold maxLen; omega
  have hfz : (fileB content).size ≤ maxLen := Nat.le_trans (fileB_size _) (by unfold maxLen; omega)
  have hnl := h.len
  have HNL := Lib.hid hnl
  clear hnl
  cases hs : storeB l
  · have HF := Lib.hid (show writeB l root path content = ([], -1, false) by unfold writeB; rw [hs]; rfl)
    go_enter Tryz.func80, Tryz.ntmps80
    go_wp2_with (first
      | (go_at_call 42; refine (specPathParts_any path _ hpz).mono ?_; rintro e w1 ⟨v, rfl, ho, hb⟩;  obtain ⟨y, m, d, rfl, hlo⟩ := ho.lst; have HPS := Lib.hid hlo; have HS1 := Lib.hid (h.below hb hB); have HB1 := Lib.hid hb; have hw1 : w.heap.size ≤ w1.heap.size := hb.size;  clear ho hb hlo)
      | (go_at_call 43; refine (specStoreValid_any x n cap l B _ HS1.out hzm).mono ?_; rintro e w2 ⟨rfl, hq⟩; rw [hs]; have HQ2 := Lib.hid hq; clear hq))
    go_ret3
    exact rdPut_of HF.out (OwnL.lst' (OwnL.newAt pcG 44 (size := 2) (base := w.heap.size) rfl (by rw [size_quiet HQ2.out]; exact hw1))) ((below_quiet HB1.out HQ2.out).alloc (by rw [size_quiet HQ2.out]; exact hw1) _)
  have hn40 : n ≤ 40 := by have := (storeB_at hs).1; have := HNL.out; omega
  have hzs : Short 1048576 l := fun q hq => Nat.le_trans (store_short hs q hq) (by decide)
  have hps : ∀ k, (nthS (partsB path) k).size ≤ 1048576 := fun k => Nat.le_trans (parts_small.2 k) (by decide)
  cases hp : isPath path
  · have HF := Lib.hid (show writeB l root path content = ([], -1, false) by unfold writeB; rw [hs, hp]; rfl)
    go_enter Tryz.func80, Tryz.ntmps80
    go_wp2_with (first
      | (go_at_call 42; refine (specPathParts_any path _ hpz).mono ?_; rintro e w1 ⟨v, rfl, ho, hb⟩; rw [hp]; obtain ⟨y, m, d, rfl, hlo⟩ := ho.lst; have HPS := Lib.hid hlo; have HS1 := Lib.hid (h.below hb hB); have HB1 := Lib.hid hb; have hw1 : w.heap.size ≤ w1.heap.size := hb.size;  clear ho hb hlo)
      | (go_at_call 43; refine (specStoreValid_any x n cap l B _ HS1.out hzm).mono ?_; rintro e w2 ⟨rfl, hq⟩; rw [hs]; have HQ2 := Lib.hid hq; clear hq))
    go_ret3
    exact rdPut_of HF.out (OwnL.lst' (OwnL.newAt pcG 44 (size := 2) (base := w.heap.size) rfl (by rw [size_quiet HQ2.out]; exact hw1))) ((below_quiet HB1.out HQ2.out).alloc (by rw [size_quiet HQ2.out]; exact hw1) _)
  by_cases hne : partsB path = []
  · have HEE := Lib.hid hne
    have HF := Lib.hid (show writeB l root path content = ([], -1, false) by unfold writeB; rw [hs, hp, decide_eq_true hne]; rfl)
    clear hne
    go_enter Tryz.func80, Tryz.ntmps80
    go_wp2_with (first
      | (go_at_call 42; refine (specPathParts_any path _ hpz).mono ?_; rintro e w1 ⟨v, rfl, ho, hb⟩; rw [hp]; obtain ⟨y, m, d, rfl, hlo⟩ := ho.lst; have HPS := Lib.hid hlo; have HS1 := Lib.hid (h.below hb hB); have HB1 := Lib.hid hb; have hw1 : w.heap.size ≤ w1.heap.size := hb.size; have hmz : ((m : Int) == 0) = true := (by have h9 := HPS.out.len; rw [HEE.out] at h9; simp at h9; simp; omega); clear ho hb hlo)
      | (go_at_call 43; refine (specStoreValid_any x n cap l B _ HS1.out hzm).mono ?_; rintro e w2 ⟨rfl, hq⟩; rw [hs]; have HQ2 := Lib.hid hq; clear hq))
    go_ret3
    exact rdPut_of HF.out (OwnL.lst' (OwnL.newAt pcG 44 (size := 2) (base := w.heap.size) rfl (by rw [size_quiet HQ2.out]; exact hw1))) ((below_quiet HB1.out HQ2.out).alloc (by rw [size_quiet HQ2.out]; exact hw1) _)
  have HNE := Lib.hid hne
  clear hne
  cases hc : contentB content
  · have HF := Lib.hid (show writeB l root path content = ([], -1, false) by unfold writeB; rw [hc, Bool.and_false]; rfl)
    go_enter Tryz.func80, Tryz.ntmps80
    go_wp2_with (first
      | (go_at_call 42; refine (specPathParts_any path _ hpz).mono ?_; rintro e w1 ⟨v, rfl, ho, hb⟩; rw [hp]; obtain ⟨y, m, d, rfl, hlo⟩ := ho.lst; have HPS := Lib.hid hlo; have HS1 := Lib.hid (h.below hb hB); have HB1 := Lib.hid hb; have hw1 : w.heap.size ≤ w1.heap.size := hb.size; have hmp : 0 < m := (by have h9 := HPS.out.len; have h10 := List.length_pos_iff.2 HNE.out; omega); have hm3 : m ≤ 1000 := (by have h9 := HPS.out.len; have h10 := (parts_small (s := path)).1; omega); have hmz : ((m : Int) == 0) = false := (by simp; omega); clear ho hb hlo)
      | (go_at_call 43; refine (specStoreValid_any x n cap l B _ HS1.out hzm).mono ?_; rintro e w2 ⟨rfl, hq⟩; rw [hs]; have HQ2 := Lib.hid hq; clear hq)
      | (go_at_call 46; refine (specContentValid_any content _ hcm).mono ?_; rintro e w' ⟨rfl, rfl⟩; rw [hc]))
    go_ret3
    exact rdPut_of HF.out (OwnL.lst' (OwnL.newAt pcG 44 (size := 2) (base := w.heap.size) rfl (by rw [size_quiet HQ2.out]; exact hw1))) ((below_quiet HB1.out HQ2.out).alloc (by rw [size_quiet HQ2.out]; exact hw1) _)
  have HW := Lib.hid (show writeB l root path content = if getO l root = false then (l, root, false)
    else if (setB (printB (fileB content)) l root (partsB path)).2.2 = false then (l, root, false)
    else if (putB (setB (printB (fileB content)) l root (partsB path)).1 (fileB content)).2.2 = false then (l, root, false)
    else ((putB (setB (printB (fileB content)) l root (partsB path)).1 (fileB content)).1, (setB (printB (fileB content)) l root (partsB path)).2.1, true) by
    unfold writeB; rw [if_neg (by rw [hs, hp, decide_eq_false HNE.out, hc]; simp)])
  cases hg : getO l root
  · have HF := Lib.hid (HW.out.trans (if_pos hg))
    go_enter Tryz.func80, Tryz.ntmps80
    go_wp2_with (first
      | (go_at_call 42; refine (specPathParts_any path _ hpz).mono ?_; rintro e w1 ⟨v, rfl, ho, hb⟩; rw [hp]; obtain ⟨y, m, d, rfl, hlo⟩ := ho.lst; have HPS := Lib.hid hlo; have HS1 := Lib.hid (h.below hb hB); have HB1 := Lib.hid hb; have hw1 : w.heap.size ≤ w1.heap.size := hb.size; have hmp : 0 < m := (by have h9 := HPS.out.len; have h10 := List.length_pos_iff.2 HNE.out; omega); have hm3 : m ≤ 1000 := (by have h9 := HPS.out.len; have h10 := (parts_small (s := path)).1; omega); have hmz : ((m : Int) == 0) = false := (by simp; omega); clear ho hb hlo)
      | (go_at_call 43; refine (specStoreValid_any x n cap l B _ HS1.out hzm).mono ?_; rintro e w2 ⟨rfl, hq⟩; rw [hs]; have HQ2 := Lib.hid hq; clear hq)
      | (go_at_call 46; refine (specContentValid_any content _ hcm).mono ?_; rintro e w' ⟨rfl, rfl⟩; rw [hc])
      | (at_builtin; refine wpList_appL eltPc encPc (OwnL.newAt pcG 44 (size := 2) (base := w.heap.size) rfl (by rw [size_quiet HQ2.out]; exact hw1)) ((HS1.out.quiet HQ2.out).alloc (by rw [size_quiet HQ2.out]; exact Nat.le_trans hB hw1) _) (by decide) (by omega) (le_alloc (by rw [size_quiet HQ2.out]; exact hw1) _) rfl _ _ rfl rfl rfl ?_; intro v3 w3 hown hgr hat; have hb3 := ((below_quiet HB1.out HQ2.out).alloc (by rw [size_quiet HQ2.out]; exact hw1) (.cells #[] 44)).grown hgr (le_alloc (by rw [size_quiet HQ2.out]; exact hw1) _) (fun q e => OwnL.at (OwnL.newAt pcG 44 (size := 2) (base := w.heap.size) rfl (by rw [size_quiet HQ2.out]; exact hw1)) q e); obtain ⟨x3, n3, c3, rfl, hl3⟩ := hown.lst; have H3 := Lib.hid (show Lst pcG w3 w3.heap.size x3 n3 c3 l by simpa using hl3); have HB3 := Lib.hid hb3; have hw3 : w.heap.size ≤ w3.heap.size := hb3.size; have HP3 := Lib.hid (Lst.keep (w' := w3) (B := w1.heap.size) HPS.out (fun k hk => (hgr.block k (by have h8 := size_quiet HQ2.out; simp; omega) (by have h8 := size_quiet HQ2.out; simp [Value.ownBlock]; omega)).trans ((Below.heap_alloc _ _ _ (by have h8 := size_quiet HQ2.out; omega)).trans (by obtain ⟨q2, h9⟩ := HQ2.out; rw [h9]; rfl)))); have HW13 := Lib.hid (show w1.heap.size ≤ w3.heap.size from Nat.le_trans (by have h8 := size_quiet HQ2.out; simp; omega) hgr.size); clear hown hgr hat hb3 hl3)
      | (go_at_call 45; refine (specL4Get_any x n cap l root B _ (h.below HB3.out hB)).mono ?_; rintro e w' ⟨rfl, rfl⟩; rw [hg]))
    go_ret3
    exact rdPut_of HF.out H3.out HB3.out
  have hz5 : ∀ k, (nthP (setB (printB (fileB content)) l root (partsB path)).1 k).2.size ≤ maxLen := fun k => Nat.le_trans (short_nth (set_short (m := 1048576) (by decide) hzs) k) (by unfold maxLen; omega)
  cases hset : (setB (printB (fileB content)) l root (partsB path)).2.2
  · have HF := Lib.hid (HW.out.trans (by rw [if_neg (by rw [hg]; simp), if_pos hset]))
    go_enter Tryz.func80, Tryz.ntmps80
    go_wp2_with (first
      | (go_at_call 42; refine (specPathParts_any path _ hpz).mono ?_; rintro e w1 ⟨v, rfl, ho, hb⟩; rw [hp]; obtain ⟨y, m, d, rfl, hlo⟩ := ho.lst; have HPS := Lib.hid hlo; have HS1 := Lib.hid (h.below hb hB); have HB1 := Lib.hid hb; have hw1 : w.heap.size ≤ w1.heap.size := hb.size; have hmp : 0 < m := (by have h9 := HPS.out.len; have h10 := List.length_pos_iff.2 HNE.out; omega); have hm3 : m ≤ 1000 := (by have h9 := HPS.out.len; have h10 := (parts_small (s := path)).1; omega); have hmz : ((m : Int) == 0) = false := (by simp; omega); clear ho hb hlo)
      | (go_at_call 43; refine (specStoreValid_any x n cap l B _ HS1.out hzm).mono ?_; rintro e w2 ⟨rfl, hq⟩; rw [hs]; have HQ2 := Lib.hid hq; clear hq)
      | (go_at_call 46; refine (specContentValid_any content _ hcm).mono ?_; rintro e w' ⟨rfl, rfl⟩; rw [hc])
      | (at_builtin; refine wpList_appL eltPc encPc (OwnL.newAt pcG 44 (size := 2) (base := w.heap.size) rfl (by rw [size_quiet HQ2.out]; exact hw1)) ((HS1.out.quiet HQ2.out).alloc (by rw [size_quiet HQ2.out]; exact Nat.le_trans hB hw1) _) (by decide) (by omega) (le_alloc (by rw [size_quiet HQ2.out]; exact hw1) _) rfl _ _ rfl rfl rfl ?_; intro v3 w3 hown hgr hat; have hb3 := ((below_quiet HB1.out HQ2.out).alloc (by rw [size_quiet HQ2.out]; exact hw1) (.cells #[] 44)).grown hgr (le_alloc (by rw [size_quiet HQ2.out]; exact hw1) _) (fun q e => OwnL.at (OwnL.newAt pcG 44 (size := 2) (base := w.heap.size) rfl (by rw [size_quiet HQ2.out]; exact hw1)) q e); obtain ⟨x3, n3, c3, rfl, hl3⟩ := hown.lst; have H3 := Lib.hid (show Lst pcG w3 w3.heap.size x3 n3 c3 l by simpa using hl3); have HB3 := Lib.hid hb3; have hw3 : w.heap.size ≤ w3.heap.size := hb3.size; have HP3 := Lib.hid (Lst.keep (w' := w3) (B := w1.heap.size) HPS.out (fun k hk => (hgr.block k (by have h8 := size_quiet HQ2.out; simp; omega) (by have h8 := size_quiet HQ2.out; simp [Value.ownBlock]; omega)).trans ((Below.heap_alloc _ _ _ (by have h8 := size_quiet HQ2.out; omega)).trans (by obtain ⟨q2, h9⟩ := HQ2.out; rw [h9]; rfl)))); have HW13 := Lib.hid (show w1.heap.size ≤ w3.heap.size from Nat.le_trans (by have h8 := size_quiet HQ2.out; simp; omega) hgr.size); clear hown hgr hat hb3 hl3)
      | (go_at_call 45; refine (specL4Get_any x n cap l root B _ (h.below HB3.out hB)).mono ?_; rintro e w' ⟨rfl, rfl⟩; rw [hg])
      | (go_at_call 95; refine (specFileText_any content _ (Nat.le_trans hcz (by decide))).mono ?_; rintro e w' ⟨rfl, rfl⟩)
      | (go_at_call 67; refine (specPrintOf_any _ _ hfz).mono ?_; rintro e w' ⟨rfl, rfl⟩)
      | (go_at_call 94; refine (specSet_any (printB (fileB content)) (partsB path) x y n cap m d l root B w1.heap.size _ (h.below HB3.out hB) HP3.out (Nat.le_trans hB hw3) HW13.out hzs hps hm3).mono ?_; rintro e w5 ⟨x5, n5, c5, rfl, h5, hb5⟩; rw [hset]; have H5 := Lib.hid h5; have H35 := Lib.hid (Lst.more (Lst.below H3.out hb5 (Nat.le_refl _)) hb5.size); have HB5 := Lib.hid (HB3.out.trans (hb5.mono hw3)); have hw5 : w.heap.size ≤ w5.heap.size := Nat.le_trans hw3 hb5.size; clear h5 hb5))
    go_ret3
    exact rdPut_of HF.out H35.out HB5.out
  cases hput : (putB (setB (printB (fileB content)) l root (partsB path)).1 (fileB content)).2.2
  · have HF := Lib.hid (HW.out.trans (by rw [if_neg (by rw [hg]; simp), if_neg (by rw [hset]; simp), if_pos hput]))
    go_enter Tryz.func80, Tryz.ntmps80
    go_wp2_with (first
      | (go_at_call 42; refine (specPathParts_any path _ hpz).mono ?_; rintro e w1 ⟨v, rfl, ho, hb⟩; rw [hp]; obtain ⟨y, m, d, rfl, hlo⟩ := ho.lst; have HPS := Lib.hid hlo; have HS1 := Lib.hid (h.below hb hB); have HB1 := Lib.hid hb; have hw1 : w.heap.size ≤ w1.heap.size := hb.size; have hmp : 0 < m := (by have h9 := HPS.out.len; have h10 := List.length_pos_iff.2 HNE.out; omega); have hm3 : m ≤ 1000 := (by have h9 := HPS.out.len; have h10 := (parts_small (s := path)).1; omega); have hmz : ((m : Int) == 0) = false := (by simp; omega); clear ho hb hlo)
      | (go_at_call 43; refine (specStoreValid_any x n cap l B _ HS1.out hzm).mono ?_; rintro e w2 ⟨rfl, hq⟩; rw [hs]; have HQ2 := Lib.hid hq; clear hq)
      | (go_at_call 46; refine (specContentValid_any content _ hcm).mono ?_; rintro e w' ⟨rfl, rfl⟩; rw [hc])
      | (at_builtin; refine wpList_appL eltPc encPc (OwnL.newAt pcG 44 (size := 2) (base := w.heap.size) rfl (by rw [size_quiet HQ2.out]; exact hw1)) ((HS1.out.quiet HQ2.out).alloc (by rw [size_quiet HQ2.out]; exact Nat.le_trans hB hw1) _) (by decide) (by omega) (le_alloc (by rw [size_quiet HQ2.out]; exact hw1) _) rfl _ _ rfl rfl rfl ?_; intro v3 w3 hown hgr hat; have hb3 := ((below_quiet HB1.out HQ2.out).alloc (by rw [size_quiet HQ2.out]; exact hw1) (.cells #[] 44)).grown hgr (le_alloc (by rw [size_quiet HQ2.out]; exact hw1) _) (fun q e => OwnL.at (OwnL.newAt pcG 44 (size := 2) (base := w.heap.size) rfl (by rw [size_quiet HQ2.out]; exact hw1)) q e); obtain ⟨x3, n3, c3, rfl, hl3⟩ := hown.lst; have H3 := Lib.hid (show Lst pcG w3 w3.heap.size x3 n3 c3 l by simpa using hl3); have HB3 := Lib.hid hb3; have hw3 : w.heap.size ≤ w3.heap.size := hb3.size; have HP3 := Lib.hid (Lst.keep (w' := w3) (B := w1.heap.size) HPS.out (fun k hk => (hgr.block k (by have h8 := size_quiet HQ2.out; simp; omega) (by have h8 := size_quiet HQ2.out; simp [Value.ownBlock]; omega)).trans ((Below.heap_alloc _ _ _ (by have h8 := size_quiet HQ2.out; omega)).trans (by obtain ⟨q2, h9⟩ := HQ2.out; rw [h9]; rfl)))); have HW13 := Lib.hid (show w1.heap.size ≤ w3.heap.size from Nat.le_trans (by have h8 := size_quiet HQ2.out; simp; omega) hgr.size); clear hown hgr hat hb3 hl3)
      | (go_at_call 45; refine (specL4Get_any x n cap l root B _ (h.below HB3.out hB)).mono ?_; rintro e w' ⟨rfl, rfl⟩; rw [hg])
      | (go_at_call 95; refine (specFileText_any content _ (Nat.le_trans hcz (by decide))).mono ?_; rintro e w' ⟨rfl, rfl⟩)
      | (go_at_call 67; refine (specPrintOf_any _ _ hfz).mono ?_; rintro e w' ⟨rfl, rfl⟩)
      | (go_at_call 94; refine (specSet_any (printB (fileB content)) (partsB path) x y n cap m d l root B w1.heap.size _ (h.below HB3.out hB) HP3.out (Nat.le_trans hB hw3) HW13.out hzs hps hm3).mono ?_; rintro e w5 ⟨x5, n5, c5, rfl, h5, hb5⟩; rw [hset]; have H5 := Lib.hid h5; have H35 := Lib.hid (Lst.more (Lst.below H3.out hb5 (Nat.le_refl _)) hb5.size); have HB5 := Lib.hid (HB3.out.trans (hb5.mono hw3)); have hw5 : w.heap.size ≤ w5.heap.size := Nat.le_trans hw3 hb5.size; clear h5 hb5)
      | (go_at_call 78; refine (specPutText_any x5 n5 c5 _ (fileB content) w5.heap.size _ H5.out (Nat.le_refl _) hz5 hfz).mono ?_; rintro e w6 ⟨v6, rfl, ho6, hb6⟩; rw [hput]; obtain ⟨x6, n6, c6, rfl, hl6⟩ := ho6.lst; have H6 := Lib.hid hl6; have hn6 : n6 ≤ 2000000 := (by have h9 := hl6.len; have h10 := putB_few (setB (printB (fileB content)) l root (partsB path)).1 (fileB content); omega); have H36 := Lib.hid (Lst.more (Lst.below H35.out hb6 (Nat.le_refl _)) hb6.size); have HB6 := Lib.hid (HB5.out.trans (hb6.mono hw5)); have hw6 : w.heap.size ≤ w6.heap.size := Nat.le_trans hw5 hb6.size; clear ho6 hb6 hl6))
    go_ret3
    exact rdPut_of HF.out H36.out HB6.out
  · have HF := Lib.hid (HW.out.trans (by rw [if_neg (by rw [hg]; simp), if_neg (by rw [hset]; simp), if_neg (by rw [hput]; simp)]))
    have hpl := putB_few (setB (printB (fileB content)) l root (partsB path)).1 (fileB content)
    go_enter Tryz.func80, Tryz.ntmps80
    go_wp2_with (first
      | (go_at_call 42; refine (specPathParts_any path _ hpz).mono ?_; rintro e w1 ⟨v, rfl, ho, hb⟩; rw [hp]; obtain ⟨y, m, d, rfl, hlo⟩ := ho.lst; have HPS := Lib.hid hlo; have HS1 := Lib.hid (h.below hb hB); have HB1 := Lib.hid hb; have hw1 : w.heap.size ≤ w1.heap.size := hb.size; have hmp : 0 < m := (by have h9 := HPS.out.len; have h10 := List.length_pos_iff.2 HNE.out; omega); have hm3 : m ≤ 1000 := (by have h9 := HPS.out.len; have h10 := (parts_small (s := path)).1; omega); have hmz : ((m : Int) == 0) = false := (by simp; omega); clear ho hb hlo)
      | (go_at_call 43; refine (specStoreValid_any x n cap l B _ HS1.out hzm).mono ?_; rintro e w2 ⟨rfl, hq⟩; rw [hs]; have HQ2 := Lib.hid hq; clear hq)
      | (go_at_call 46; refine (specContentValid_any content _ hcm).mono ?_; rintro e w' ⟨rfl, rfl⟩; rw [hc])
      | (at_builtin; refine wpList_appL eltPc encPc (OwnL.newAt pcG 44 (size := 2) (base := w.heap.size) rfl (by rw [size_quiet HQ2.out]; exact hw1)) ((HS1.out.quiet HQ2.out).alloc (by rw [size_quiet HQ2.out]; exact Nat.le_trans hB hw1) _) (by decide) (by omega) (le_alloc (by rw [size_quiet HQ2.out]; exact hw1) _) rfl _ _ rfl rfl rfl ?_; intro v3 w3 hown hgr hat; have hb3 := ((below_quiet HB1.out HQ2.out).alloc (by rw [size_quiet HQ2.out]; exact hw1) (.cells #[] 44)).grown hgr (le_alloc (by rw [size_quiet HQ2.out]; exact hw1) _) (fun q e => OwnL.at (OwnL.newAt pcG 44 (size := 2) (base := w.heap.size) rfl (by rw [size_quiet HQ2.out]; exact hw1)) q e); obtain ⟨x3, n3, c3, rfl, hl3⟩ := hown.lst; have H3 := Lib.hid (show Lst pcG w3 w3.heap.size x3 n3 c3 l by simpa using hl3); have HB3 := Lib.hid hb3; have hw3 : w.heap.size ≤ w3.heap.size := hb3.size; have HP3 := Lib.hid (Lst.keep (w' := w3) (B := w1.heap.size) HPS.out (fun k hk => (hgr.block k (by have h8 := size_quiet HQ2.out; simp; omega) (by have h8 := size_quiet HQ2.out; simp [Value.ownBlock]; omega)).trans ((Below.heap_alloc _ _ _ (by have h8 := size_quiet HQ2.out; omega)).trans (by obtain ⟨q2, h9⟩ := HQ2.out; rw [h9]; rfl)))); have HW13 := Lib.hid (show w1.heap.size ≤ w3.heap.size from Nat.le_trans (by have h8 := size_quiet HQ2.out; simp; omega) hgr.size); clear hown hgr hat hb3 hl3)
      | (go_at_call 45; refine (specL4Get_any x n cap l root B _ (h.below HB3.out hB)).mono ?_; rintro e w' ⟨rfl, rfl⟩; rw [hg])
      | (go_at_call 95; refine (specFileText_any content _ (Nat.le_trans hcz (by decide))).mono ?_; rintro e w' ⟨rfl, rfl⟩)
      | (go_at_call 67; refine (specPrintOf_any _ _ hfz).mono ?_; rintro e w' ⟨rfl, rfl⟩)
      | (go_at_call 94; refine (specSet_any (printB (fileB content)) (partsB path) x y n cap m d l root B w1.heap.size _ (h.below HB3.out hB) HP3.out (Nat.le_trans hB hw3) HW13.out hzs hps hm3).mono ?_; rintro e w5 ⟨x5, n5, c5, rfl, h5, hb5⟩; rw [hset]; have H5 := Lib.hid h5; have H35 := Lib.hid (Lst.more (Lst.below H3.out hb5 (Nat.le_refl _)) hb5.size); have HB5 := Lib.hid (HB3.out.trans (hb5.mono hw3)); have hw5 : w.heap.size ≤ w5.heap.size := Nat.le_trans hw3 hb5.size; clear h5 hb5)
      | (go_at_call 78; refine (specPutText_any x5 n5 c5 _ (fileB content) w5.heap.size _ H5.out (Nat.le_refl _) hz5 hfz).mono ?_; rintro e w6 ⟨v6, rfl, ho6, hb6⟩; rw [hput]; obtain ⟨x6, n6, c6, rfl, hl6⟩ := ho6.lst; have H6 := Lib.hid hl6; have hn6 : n6 ≤ 2000000 := (by have h9 := hl6.len; have h10 := putB_few (setB (printB (fileB content)) l root (partsB path)).1 (fileB content); omega); have H36 := Lib.hid (Lst.more (Lst.below H35.out hb6 (Nat.le_refl _)) hb6.size); have HB6 := Lib.hid (HB5.out.trans (hb6.mono hw5)); have hw6 : w.heap.size ≤ w6.heap.size := Nat.le_trans hw5 hb6.size; clear ho6 hb6 hl6)
      | (at_builtin; refine wpList_appL eltPc encPc (OwnL.newAt pcG 44 (size := 2) (base := w.heap.size) rfl hw6) (H6.out.alloc (Nat.le_refl _) _) (by decide) hn6 (le_alloc hw6 _) rfl _ _ rfl rfl rfl ?_; intro v7 w7 hown hgr hat; have hb7 := (HB6.out.alloc hw6 (.cells #[] 44)).grown hgr (le_alloc hw6 _) (fun q e => OwnL.at (OwnL.newAt pcG 44 (size := 2) (base := w.heap.size) rfl hw6) q e); obtain ⟨x7, n7, c7, rfl, hl7⟩ := hown.lst; have H7 := Lib.hid hl7; have HB7 := Lib.hid hb7; clear hown hgr hat hb7 hl7))
    go_ret3
    exact rdPut_of HF.out (show Lst pcG w7 w7.heap.size x7 n7 c7 _ by simpa using H7.out) HB7.out
end Go.Proofs.YtikmmhccgmmneaaGreatDoor
/-
  Chapter 10's model: dropping at a path.
-/
namespace Go.Proofs.YtikmmhccgmmneaaGreatDoor
open Go.RowKit
set_option linter.unusedVariables false
theorem end_few {l : List Pc} {r : List Ent} (h : l.length ≤ 40) : (endB l r).1.length ≤ 40 := by
  unfold endB
  split
  · exact h
  · exact putB_few _ _
theorem drop_few : ∀ {ps : List ByteArray} {l : List Pc} {p : Int}, l.length ≤ 40 → (dropB l p ps).1.length ≤ 40
  | [], l, p, h => h
  | nm :: r, l, p, h => by
    have ih := drop_few (ps := r) (p := lastE nm (-1) (foldL (getT l p))) h
    rw [dropB]
    split
    · exact h
    split
    · exact end_few h
    split
    · exact h
    · exact end_few ih
set_option maxHeartbeats 4000000 in
set_option maxRecDepth 100000 in
theorem specDropAt_any (x : Option Addr) (n cap : Nat) (l : List Pc) (root : Int) (path : ByteArray) (B : Nat) (w : World) (h : Pcs w B x n cap l) (hB : B ≤ w.heap.size) (hzm : ∀ k, (nthP l k).2.size ≤ maxLen) (hpz : path.size ≤ 1048576) :
    Calls Tryz.prog 79 #[.slice x n cap, .int .i64 root, .string path] w (RdPut (dropAtB l root path) w) := by
  have hnl := h.len
  have HNL := Lib.hid hnl
  clear hnl
  cases hs : storeB l
  · have HF := Lib.hid (show dropAtB l root path = ([], -1, false) by unfold dropAtB; rw [hs]; rfl)
    go_enter Tryz.func79, Tryz.ntmps79
    go_wp2_with (first
      | (go_at_call 42; refine (specPathParts_any path _ hpz).mono ?_; rintro e w1 ⟨v, rfl, ho, hb⟩;  obtain ⟨y, m, d, rfl, hlo⟩ := ho.lst; have HPS := Lib.hid hlo; have HS1 := Lib.hid (h.below hb hB); have HB1 := Lib.hid hb; have hw1 : w.heap.size ≤ w1.heap.size := hb.size;  clear ho hb hlo)
      | (go_at_call 43; refine (specStoreValid_any x n cap l B _ HS1.out hzm).mono ?_; rintro e w2 ⟨rfl, hq⟩; rw [hs]; have HQ2 := Lib.hid hq; clear hq))
    go_ret3
    exact rdPut_of HF.out (OwnL.lst' (OwnL.newAt pcG 44 (size := 2) (base := w.heap.size) rfl (by rw [size_quiet HQ2.out]; exact hw1))) ((below_quiet HB1.out HQ2.out).alloc (by rw [size_quiet HQ2.out]; exact hw1) _)
  have hl40 := (storeB_at hs).1
  have hn40 : n ≤ 40 := by have := HNL.out; omega
  have hzs : Short 1048576 l := fun q hq => Nat.le_trans (store_short hs q hq) (by decide)
  have hps : ∀ k, (nthS (partsB path) k).size ≤ 1048576 := fun k => Nat.le_trans (parts_small.2 k) (by decide)
  cases hp : isPath path
  · have HF := Lib.hid (show dropAtB l root path = ([], -1, false) by unfold dropAtB; rw [hs, hp]; rfl)
    go_enter Tryz.func79, Tryz.ntmps79
    go_wp2_with (first
      | (go_at_call 42; refine (specPathParts_any path _ hpz).mono ?_; rintro e w1 ⟨v, rfl, ho, hb⟩; rw [hp]; obtain ⟨y, m, d, rfl, hlo⟩ := ho.lst; have HPS := Lib.hid hlo; have HS1 := Lib.hid (h.below hb hB); have HB1 := Lib.hid hb; have hw1 : w.heap.size ≤ w1.heap.size := hb.size;  clear ho hb hlo)
      | (go_at_call 43; refine (specStoreValid_any x n cap l B _ HS1.out hzm).mono ?_; rintro e w2 ⟨rfl, hq⟩; rw [hs]; have HQ2 := Lib.hid hq; clear hq))
    go_ret3
    exact rdPut_of HF.out (OwnL.lst' (OwnL.newAt pcG 44 (size := 2) (base := w.heap.size) rfl (by rw [size_quiet HQ2.out]; exact hw1))) ((below_quiet HB1.out HQ2.out).alloc (by rw [size_quiet HQ2.out]; exact hw1) _)
  by_cases hne : partsB path = []
  · have HEE := Lib.hid hne
    have HF := Lib.hid (show dropAtB l root path = ([], -1, false) by unfold dropAtB; rw [hs, hp, decide_eq_true hne]; rfl)
    clear hne
    go_enter Tryz.func79, Tryz.ntmps79
    go_wp2_with (first
      | (go_at_call 42; refine (specPathParts_any path _ hpz).mono ?_; rintro e w1 ⟨v, rfl, ho, hb⟩; rw [hp]; obtain ⟨y, m, d, rfl, hlo⟩ := ho.lst; have HPS := Lib.hid hlo; have HS1 := Lib.hid (h.below hb hB); have HB1 := Lib.hid hb; have hw1 : w.heap.size ≤ w1.heap.size := hb.size; have hmz : ((m : Int) == 0) = true := (by have h9 := HPS.out.len; rw [HEE.out] at h9; simp at h9; simp; omega); clear ho hb hlo)
      | (go_at_call 43; refine (specStoreValid_any x n cap l B _ HS1.out hzm).mono ?_; rintro e w2 ⟨rfl, hq⟩; rw [hs]; have HQ2 := Lib.hid hq; clear hq))
    go_ret3
    exact rdPut_of HF.out (OwnL.lst' (OwnL.newAt pcG 44 (size := 2) (base := w.heap.size) rfl (by rw [size_quiet HQ2.out]; exact hw1))) ((below_quiet HB1.out HQ2.out).alloc (by rw [size_quiet HQ2.out]; exact hw1) _)
  have HNE := Lib.hid hne
  clear hne
  have HW := Lib.hid (show dropAtB l root path = if (walkB l root (partsB path)).2 = false then (l, root, false)
    else if ((dropB l root (partsB path)).2.2 && decide ((dropB l root (partsB path)).2.1 < 0)) = true then
      (if (putB (dropB l root (partsB path)).1 (folderB [])).2.2 = false then (l, root, false) else ((putB (dropB l root (partsB path)).1 (folderB [])).1, (putB (dropB l root (partsB path)).1 (folderB [])).2.1, true))
    else if (dropB l root (partsB path)).2.2 = false then (l, root, false)
    else ((dropB l root (partsB path)).1, (dropB l root (partsB path)).2.1, true) by
    unfold dropAtB; rw [if_neg (by rw [hs, hp, decide_eq_false HNE.out]; simp)])
  have hpl : 0 < (partsB path).length := List.length_pos_iff.2 HNE.out
  cases hg : (walkB l root (partsB path)).2
  · have HF := Lib.hid (HW.out.trans (if_pos hg))
    go_enter Tryz.func79, Tryz.ntmps79
    go_wp2_with (first
      | (go_at_call 42; refine (specPathParts_any path _ hpz).mono ?_; rintro e w1 ⟨v, rfl, ho, hb⟩; rw [hp]; obtain ⟨y, m, d, rfl, hlo⟩ := ho.lst; have HPS := Lib.hid hlo; have HS1 := Lib.hid (h.below hb hB); have HB1 := Lib.hid hb; have hw1 : w.heap.size ≤ w1.heap.size := hb.size; have hmp : 0 < m := (by have h9 := HPS.out.len; have h10 := List.length_pos_iff.2 HNE.out; omega); have hm3 : m ≤ 1000 := (by have h9 := HPS.out.len; have h10 := (parts_small (s := path)).1; omega); have hmz : ((m : Int) == 0) = false := (by simp; omega); clear ho hb hlo)
      | (go_at_call 43; refine (specStoreValid_any x n cap l B _ HS1.out hzm).mono ?_; rintro e w2 ⟨rfl, hq⟩; rw [hs]; have HQ2 := Lib.hid hq; clear hq)
      | (at_builtin; refine wpList_appL eltPc encPc (OwnL.newAt pcG 44 (size := 2) (base := w.heap.size) rfl (by rw [size_quiet HQ2.out]; exact hw1)) ((HS1.out.quiet HQ2.out).alloc (by rw [size_quiet HQ2.out]; exact Nat.le_trans hB hw1) _) (by decide) (by omega) (le_alloc (by rw [size_quiet HQ2.out]; exact hw1) _) rfl _ _ rfl rfl rfl ?_; intro v3 w3 hown hgr hat; have hb3 := ((below_quiet HB1.out HQ2.out).alloc (by rw [size_quiet HQ2.out]; exact hw1) (.cells #[] 44)).grown hgr (le_alloc (by rw [size_quiet HQ2.out]; exact hw1) _) (fun q e => OwnL.at (OwnL.newAt pcG 44 (size := 2) (base := w.heap.size) rfl (by rw [size_quiet HQ2.out]; exact hw1)) q e); obtain ⟨x3, n3, c3, rfl, hl3⟩ := hown.lst; have H3 := Lib.hid (show Lst pcG w3 w3.heap.size x3 n3 c3 l by simpa using hl3); have HB3 := Lib.hid hb3; have hw3 : w.heap.size ≤ w3.heap.size := hb3.size; have HP3 := Lib.hid (Lst.keep (w' := w3) (B := w1.heap.size) HPS.out (fun k hk => (hgr.block k (by have h8 := size_quiet HQ2.out; simp; omega) (by have h8 := size_quiet HQ2.out; simp [Value.ownBlock]; omega)).trans ((Below.heap_alloc _ _ _ (by have h8 := size_quiet HQ2.out; omega)).trans (by obtain ⟨q2, h9⟩ := HQ2.out; rw [h9]; rfl)))); have HW13 := Lib.hid (show w1.heap.size ≤ w3.heap.size from Nat.le_trans (by have h8 := size_quiet HQ2.out; simp; omega) hgr.size); clear hown hgr hat hb3 hl3)
      | (go_at_call 44; refine (specWalk_any x y n cap m d l (partsB path) root B w1.heap.size _ (h.below HB3.out hB) HP3.out (Nat.le_trans hB hw3) HW13.out (short_nth hzs)).mono ?_; rintro e w4 ⟨rfl, hb4⟩; rw [hg]; have H3w := Lib.hid (Lst.more (Lst.below H3.out hb4 (Nat.le_refl _)) hb4.size); have HB4 := Lib.hid (HB3.out.trans (hb4.mono hw3)); have hw4 : w.heap.size ≤ w4.heap.size := Nat.le_trans hw3 hb4.size; have HP4 := Lib.hid (Lst.below HP3.out hb4 HW13.out); have HW14 := Lib.hid (Nat.le_trans HW13.out hb4.size); clear hb4))
    go_ret3
    exact rdPut_of HF.out H3w.out HB4.out
  have hz5 : ∀ k, (nthP (dropB l root (partsB path)).1 k).2.size ≤ maxLen := fun k => Nat.le_trans (short_nth (drop_short (m := 1048576) (by decide) hzs) k) (by unfold maxLen; omega)
  have hd40 := drop_few (ps := partsB path) (p := root) hl40
  cases hdr : (dropB l root (partsB path)).2.2
  · have HF := Lib.hid (HW.out.trans (by rw [if_neg (by rw [hg]; simp), if_neg (by rw [hdr]; simp), if_pos hdr]))
    go_enter Tryz.func79, Tryz.ntmps79
    go_wp2_with (first
      | (go_at_call 42; refine (specPathParts_any path _ hpz).mono ?_; rintro e w1 ⟨v, rfl, ho, hb⟩; rw [hp]; obtain ⟨y, m, d, rfl, hlo⟩ := ho.lst; have HPS := Lib.hid hlo; have HS1 := Lib.hid (h.below hb hB); have HB1 := Lib.hid hb; have hw1 : w.heap.size ≤ w1.heap.size := hb.size; have hmp : 0 < m := (by have h9 := HPS.out.len; have h10 := List.length_pos_iff.2 HNE.out; omega); have hm3 : m ≤ 1000 := (by have h9 := HPS.out.len; have h10 := (parts_small (s := path)).1; omega); have hmz : ((m : Int) == 0) = false := (by simp; omega); clear ho hb hlo)
      | (go_at_call 43; refine (specStoreValid_any x n cap l B _ HS1.out hzm).mono ?_; rintro e w2 ⟨rfl, hq⟩; rw [hs]; have HQ2 := Lib.hid hq; clear hq)
      | (at_builtin; refine wpList_appL eltPc encPc (OwnL.newAt pcG 44 (size := 2) (base := w.heap.size) rfl (by rw [size_quiet HQ2.out]; exact hw1)) ((HS1.out.quiet HQ2.out).alloc (by rw [size_quiet HQ2.out]; exact Nat.le_trans hB hw1) _) (by decide) (by omega) (le_alloc (by rw [size_quiet HQ2.out]; exact hw1) _) rfl _ _ rfl rfl rfl ?_; intro v3 w3 hown hgr hat; have hb3 := ((below_quiet HB1.out HQ2.out).alloc (by rw [size_quiet HQ2.out]; exact hw1) (.cells #[] 44)).grown hgr (le_alloc (by rw [size_quiet HQ2.out]; exact hw1) _) (fun q e => OwnL.at (OwnL.newAt pcG 44 (size := 2) (base := w.heap.size) rfl (by rw [size_quiet HQ2.out]; exact hw1)) q e); obtain ⟨x3, n3, c3, rfl, hl3⟩ := hown.lst; have H3 := Lib.hid (show Lst pcG w3 w3.heap.size x3 n3 c3 l by simpa using hl3); have HB3 := Lib.hid hb3; have hw3 : w.heap.size ≤ w3.heap.size := hb3.size; have HP3 := Lib.hid (Lst.keep (w' := w3) (B := w1.heap.size) HPS.out (fun k hk => (hgr.block k (by have h8 := size_quiet HQ2.out; simp; omega) (by have h8 := size_quiet HQ2.out; simp [Value.ownBlock]; omega)).trans ((Below.heap_alloc _ _ _ (by have h8 := size_quiet HQ2.out; omega)).trans (by obtain ⟨q2, h9⟩ := HQ2.out; rw [h9]; rfl)))); have HW13 := Lib.hid (show w1.heap.size ≤ w3.heap.size from Nat.le_trans (by have h8 := size_quiet HQ2.out; simp; omega) hgr.size); clear hown hgr hat hb3 hl3)
      | (go_at_call 44; refine (specWalk_any x y n cap m d l (partsB path) root B w1.heap.size _ (h.below HB3.out hB) HP3.out (Nat.le_trans hB hw3) HW13.out (short_nth hzs)).mono ?_; rintro e w4 ⟨rfl, hb4⟩; rw [hg]; have H3w := Lib.hid (Lst.more (Lst.below H3.out hb4 (Nat.le_refl _)) hb4.size); have HB4 := Lib.hid (HB3.out.trans (hb4.mono hw3)); have hw4 : w.heap.size ≤ w4.heap.size := Nat.le_trans hw3 hb4.size; have HP4 := Lib.hid (Lst.below HP3.out hb4 HW13.out); have HW14 := Lib.hid (Nat.le_trans HW13.out hb4.size); clear hb4)
      | (go_at_call 93; refine (specDrop_any _ (partsB path) x y n cap m d l root B w1.heap.size _ (h.below HB4.out hB) HP4.out (Nat.le_trans hB hw4) HW14.out hzs hps hm3 hpl (Nat.le_refl _)).mono ?_; rintro e w5 ⟨x5, n5, c5, rfl, h5, hb5⟩; rw [hdr]; have H5 := Lib.hid h5; have hn5 : n5 ≤ 2000000 := (by have h9 := h5.len; omega); have H35 := Lib.hid (Lst.more (Lst.below H3w.out hb5 (Nat.le_refl _)) hb5.size); have HB5 := Lib.hid (HB4.out.trans (hb5.mono hw4)); have hw5 : w.heap.size ≤ w5.heap.size := Nat.le_trans hw4 hb5.size; clear h5 hb5))
    go_ret3
    exact rdPut_of HF.out H35.out HB5.out
  obtain ⟨pr, hpr⟩ : ∃ pr, (dropB l root (partsB path)).2.1 = pr := ⟨_, rfl⟩
  have HPR := Lib.hid hpr
  clear hpr
  by_cases hneg : pr < 0
  · have HNG := Lib.hid (show ((dropB l root (partsB path)).2.2 && decide ((dropB l root (partsB path)).2.1 < 0)) = true by rw [hdr, HPR.out, decide_eq_true hneg]; rfl)
    cases hput : (putB (dropB l root (partsB path)).1 (folderB [])).2.2
    · have HF := Lib.hid (HW.out.trans (by rw [if_neg (by rw [hg]; simp), if_pos HNG.out, if_pos hput]))
      go_enter Tryz.func79, Tryz.ntmps79
      go_wp2_with (first
        | (go_at_call 42; refine (specPathParts_any path _ hpz).mono ?_; rintro e w1 ⟨v, rfl, ho, hb⟩; rw [hp]; obtain ⟨y, m, d, rfl, hlo⟩ := ho.lst; have HPS := Lib.hid hlo; have HS1 := Lib.hid (h.below hb hB); have HB1 := Lib.hid hb; have hw1 : w.heap.size ≤ w1.heap.size := hb.size; have hmp : 0 < m := (by have h9 := HPS.out.len; have h10 := List.length_pos_iff.2 HNE.out; omega); have hm3 : m ≤ 1000 := (by have h9 := HPS.out.len; have h10 := (parts_small (s := path)).1; omega); have hmz : ((m : Int) == 0) = false := (by simp; omega); clear ho hb hlo)
        | (go_at_call 43; refine (specStoreValid_any x n cap l B _ HS1.out hzm).mono ?_; rintro e w2 ⟨rfl, hq⟩; rw [hs]; have HQ2 := Lib.hid hq; clear hq)
        | (at_builtin; refine wpList_appL eltPc encPc (OwnL.newAt pcG 44 (size := 2) (base := w.heap.size) rfl (by rw [size_quiet HQ2.out]; exact hw1)) ((HS1.out.quiet HQ2.out).alloc (by rw [size_quiet HQ2.out]; exact Nat.le_trans hB hw1) _) (by decide) (by omega) (le_alloc (by rw [size_quiet HQ2.out]; exact hw1) _) rfl _ _ rfl rfl rfl ?_; intro v3 w3 hown hgr hat; have hb3 := ((below_quiet HB1.out HQ2.out).alloc (by rw [size_quiet HQ2.out]; exact hw1) (.cells #[] 44)).grown hgr (le_alloc (by rw [size_quiet HQ2.out]; exact hw1) _) (fun q e => OwnL.at (OwnL.newAt pcG 44 (size := 2) (base := w.heap.size) rfl (by rw [size_quiet HQ2.out]; exact hw1)) q e); obtain ⟨x3, n3, c3, rfl, hl3⟩ := hown.lst; have H3 := Lib.hid (show Lst pcG w3 w3.heap.size x3 n3 c3 l by simpa using hl3); have HB3 := Lib.hid hb3; have hw3 : w.heap.size ≤ w3.heap.size := hb3.size; have HP3 := Lib.hid (Lst.keep (w' := w3) (B := w1.heap.size) HPS.out (fun k hk => (hgr.block k (by have h8 := size_quiet HQ2.out; simp; omega) (by have h8 := size_quiet HQ2.out; simp [Value.ownBlock]; omega)).trans ((Below.heap_alloc _ _ _ (by have h8 := size_quiet HQ2.out; omega)).trans (by obtain ⟨q2, h9⟩ := HQ2.out; rw [h9]; rfl)))); have HW13 := Lib.hid (show w1.heap.size ≤ w3.heap.size from Nat.le_trans (by have h8 := size_quiet HQ2.out; simp; omega) hgr.size); clear hown hgr hat hb3 hl3)
        | (go_at_call 44; refine (specWalk_any x y n cap m d l (partsB path) root B w1.heap.size _ (h.below HB3.out hB) HP3.out (Nat.le_trans hB hw3) HW13.out (short_nth hzs)).mono ?_; rintro e w4 ⟨rfl, hb4⟩; rw [hg]; have H3w := Lib.hid (Lst.more (Lst.below H3.out hb4 (Nat.le_refl _)) hb4.size); have HB4 := Lib.hid (HB3.out.trans (hb4.mono hw3)); have hw4 : w.heap.size ≤ w4.heap.size := Nat.le_trans hw3 hb4.size; have HP4 := Lib.hid (Lst.below HP3.out hb4 HW13.out); have HW14 := Lib.hid (Nat.le_trans HW13.out hb4.size); clear hb4)
        | (go_at_call 93; refine (specDrop_any _ (partsB path) x y n cap m d l root B w1.heap.size _ (h.below HB4.out hB) HP4.out (Nat.le_trans hB hw4) HW14.out hzs hps hm3 hpl (Nat.le_refl _)).mono ?_; rintro e w5 ⟨x5, n5, c5, rfl, h5, hb5⟩; rw [hdr]; rw [HPR.out]; have H5 := Lib.hid h5; have hn5 : n5 ≤ 2000000 := (by have h9 := h5.len; omega); have H35 := Lib.hid (Lst.more (Lst.below H3w.out hb5 (Nat.le_refl _)) hb5.size); have HB5 := Lib.hid (HB4.out.trans (hb5.mono hw4)); have hw5 : w.heap.size ≤ w5.heap.size := Nat.le_trans hw4 hb5.size; clear h5 hb5)
        | (go_at_call 60; refine (specEmptyRoot_any x5 n5 c5 _ w5.heap.size _ H5.out (Nat.le_refl _) hz5).mono ?_; rintro e w6 ⟨x6, n6, c6, rfl, h6, hb6⟩; rw [hput]; have H6 := Lib.hid h6; have hn6 : n6 ≤ 2000000 := (by have h9 := h6.len; have h10 := putB_few (dropB l root (partsB path)).1 (folderB []); omega); have H36 := Lib.hid (Lst.more (Lst.below H35.out hb6 (Nat.le_refl _)) hb6.size); have HB6 := Lib.hid (HB5.out.trans (hb6.mono hw5)); have hw6 : w.heap.size ≤ w6.heap.size := Nat.le_trans hw5 hb6.size; clear h6 hb6))
      go_ret3
      exact rdPut_of HF.out H36.out HB6.out
    · have HF := Lib.hid (HW.out.trans (by rw [if_neg (by rw [hg]; simp), if_pos HNG.out, if_neg (by rw [hput]; simp)]))
      go_enter Tryz.func79, Tryz.ntmps79
      go_wp2_with (first
        | (go_at_call 42; refine (specPathParts_any path _ hpz).mono ?_; rintro e w1 ⟨v, rfl, ho, hb⟩; rw [hp]; obtain ⟨y, m, d, rfl, hlo⟩ := ho.lst; have HPS := Lib.hid hlo; have HS1 := Lib.hid (h.below hb hB); have HB1 := Lib.hid hb; have hw1 : w.heap.size ≤ w1.heap.size := hb.size; have hmp : 0 < m := (by have h9 := HPS.out.len; have h10 := List.length_pos_iff.2 HNE.out; omega); have hm3 : m ≤ 1000 := (by have h9 := HPS.out.len; have h10 := (parts_small (s := path)).1; omega); have hmz : ((m : Int) == 0) = false := (by simp; omega); clear ho hb hlo)
        | (go_at_call 43; refine (specStoreValid_any x n cap l B _ HS1.out hzm).mono ?_; rintro e w2 ⟨rfl, hq⟩; rw [hs]; have HQ2 := Lib.hid hq; clear hq)
        | (at_builtin; refine wpList_appL eltPc encPc (OwnL.newAt pcG 44 (size := 2) (base := w.heap.size) rfl (by rw [size_quiet HQ2.out]; exact hw1)) ((HS1.out.quiet HQ2.out).alloc (by rw [size_quiet HQ2.out]; exact Nat.le_trans hB hw1) _) (by decide) (by omega) (le_alloc (by rw [size_quiet HQ2.out]; exact hw1) _) rfl _ _ rfl rfl rfl ?_; intro v3 w3 hown hgr hat; have hb3 := ((below_quiet HB1.out HQ2.out).alloc (by rw [size_quiet HQ2.out]; exact hw1) (.cells #[] 44)).grown hgr (le_alloc (by rw [size_quiet HQ2.out]; exact hw1) _) (fun q e => OwnL.at (OwnL.newAt pcG 44 (size := 2) (base := w.heap.size) rfl (by rw [size_quiet HQ2.out]; exact hw1)) q e); obtain ⟨x3, n3, c3, rfl, hl3⟩ := hown.lst; have H3 := Lib.hid (show Lst pcG w3 w3.heap.size x3 n3 c3 l by simpa using hl3); have HB3 := Lib.hid hb3; have hw3 : w.heap.size ≤ w3.heap.size := hb3.size; have HP3 := Lib.hid (Lst.keep (w' := w3) (B := w1.heap.size) HPS.out (fun k hk => (hgr.block k (by have h8 := size_quiet HQ2.out; simp; omega) (by have h8 := size_quiet HQ2.out; simp [Value.ownBlock]; omega)).trans ((Below.heap_alloc _ _ _ (by have h8 := size_quiet HQ2.out; omega)).trans (by obtain ⟨q2, h9⟩ := HQ2.out; rw [h9]; rfl)))); have HW13 := Lib.hid (show w1.heap.size ≤ w3.heap.size from Nat.le_trans (by have h8 := size_quiet HQ2.out; simp; omega) hgr.size); clear hown hgr hat hb3 hl3)
        | (go_at_call 44; refine (specWalk_any x y n cap m d l (partsB path) root B w1.heap.size _ (h.below HB3.out hB) HP3.out (Nat.le_trans hB hw3) HW13.out (short_nth hzs)).mono ?_; rintro e w4 ⟨rfl, hb4⟩; rw [hg]; have H3w := Lib.hid (Lst.more (Lst.below H3.out hb4 (Nat.le_refl _)) hb4.size); have HB4 := Lib.hid (HB3.out.trans (hb4.mono hw3)); have hw4 : w.heap.size ≤ w4.heap.size := Nat.le_trans hw3 hb4.size; have HP4 := Lib.hid (Lst.below HP3.out hb4 HW13.out); have HW14 := Lib.hid (Nat.le_trans HW13.out hb4.size); clear hb4)
        | (go_at_call 93; refine (specDrop_any _ (partsB path) x y n cap m d l root B w1.heap.size _ (h.below HB4.out hB) HP4.out (Nat.le_trans hB hw4) HW14.out hzs hps hm3 hpl (Nat.le_refl _)).mono ?_; rintro e w5 ⟨x5, n5, c5, rfl, h5, hb5⟩; rw [hdr]; rw [HPR.out]; have H5 := Lib.hid h5; have hn5 : n5 ≤ 2000000 := (by have h9 := h5.len; omega); have H35 := Lib.hid (Lst.more (Lst.below H3w.out hb5 (Nat.le_refl _)) hb5.size); have HB5 := Lib.hid (HB4.out.trans (hb5.mono hw4)); have hw5 : w.heap.size ≤ w5.heap.size := Nat.le_trans hw4 hb5.size; clear h5 hb5)
        | (go_at_call 60; refine (specEmptyRoot_any x5 n5 c5 _ w5.heap.size _ H5.out (Nat.le_refl _) hz5).mono ?_; rintro e w6 ⟨x6, n6, c6, rfl, h6, hb6⟩; rw [hput]; have H6 := Lib.hid h6; have hn6 : n6 ≤ 2000000 := (by have h9 := h6.len; have h10 := putB_few (dropB l root (partsB path)).1 (folderB []); omega); have H36 := Lib.hid (Lst.more (Lst.below H35.out hb6 (Nat.le_refl _)) hb6.size); have HB6 := Lib.hid (HB5.out.trans (hb6.mono hw5)); have hw6 : w.heap.size ≤ w6.heap.size := Nat.le_trans hw5 hb6.size; clear h6 hb6)
        | (at_builtin; refine wpList_appL eltPc encPc (OwnL.newAt pcG 44 (size := 2) (base := w.heap.size) rfl hw6) (H6.out.alloc (Nat.le_refl _) _) (by decide) hn6 (le_alloc hw6 _) rfl _ _ rfl rfl rfl ?_; intro v7 w7 hown hgr hat; have hb7 := (HB6.out.alloc hw6 (.cells #[] 44)).grown hgr (le_alloc hw6 _) (fun q e => OwnL.at (OwnL.newAt pcG 44 (size := 2) (base := w.heap.size) rfl hw6) q e); obtain ⟨x7, n7, c7, rfl, hl7⟩ := hown.lst; have H7 := Lib.hid hl7; have HB7 := Lib.hid hb7; clear hown hgr hat hb7 hl7))
      go_ret3
      exact rdPut_of HF.out (show Lst pcG w7 w7.heap.size x7 n7 c7 _ by simpa using H7.out) HB7.out
  · have HF := Lib.hid (HW.out.trans (show _ = ((dropB l root (partsB path)).1, pr, true) by rw [if_neg (by rw [hg]; simp), if_neg (by rw [hdr, HPR.out, decide_eq_false hneg]; simp), if_neg (by rw [hdr]; simp), HPR.out]))
    go_enter Tryz.func79, Tryz.ntmps79
    go_wp2_with (first
      | (go_at_call 42; refine (specPathParts_any path _ hpz).mono ?_; rintro e w1 ⟨v, rfl, ho, hb⟩; rw [hp]; obtain ⟨y, m, d, rfl, hlo⟩ := ho.lst; have HPS := Lib.hid hlo; have HS1 := Lib.hid (h.below hb hB); have HB1 := Lib.hid hb; have hw1 : w.heap.size ≤ w1.heap.size := hb.size; have hmp : 0 < m := (by have h9 := HPS.out.len; have h10 := List.length_pos_iff.2 HNE.out; omega); have hm3 : m ≤ 1000 := (by have h9 := HPS.out.len; have h10 := (parts_small (s := path)).1; omega); have hmz : ((m : Int) == 0) = false := (by simp; omega); clear ho hb hlo)
      | (go_at_call 43; refine (specStoreValid_any x n cap l B _ HS1.out hzm).mono ?_; rintro e w2 ⟨rfl, hq⟩; rw [hs]; have HQ2 := Lib.hid hq; clear hq)
      | (at_builtin; refine wpList_appL eltPc encPc (OwnL.newAt pcG 44 (size := 2) (base := w.heap.size) rfl (by rw [size_quiet HQ2.out]; exact hw1)) ((HS1.out.quiet HQ2.out).alloc (by rw [size_quiet HQ2.out]; exact Nat.le_trans hB hw1) _) (by decide) (by omega) (le_alloc (by rw [size_quiet HQ2.out]; exact hw1) _) rfl _ _ rfl rfl rfl ?_; intro v3 w3 hown hgr hat; have hb3 := ((below_quiet HB1.out HQ2.out).alloc (by rw [size_quiet HQ2.out]; exact hw1) (.cells #[] 44)).grown hgr (le_alloc (by rw [size_quiet HQ2.out]; exact hw1) _) (fun q e => OwnL.at (OwnL.newAt pcG 44 (size := 2) (base := w.heap.size) rfl (by rw [size_quiet HQ2.out]; exact hw1)) q e); obtain ⟨x3, n3, c3, rfl, hl3⟩ := hown.lst; have H3 := Lib.hid (show Lst pcG w3 w3.heap.size x3 n3 c3 l by simpa using hl3); have HB3 := Lib.hid hb3; have hw3 : w.heap.size ≤ w3.heap.size := hb3.size; have HP3 := Lib.hid (Lst.keep (w' := w3) (B := w1.heap.size) HPS.out (fun k hk => (hgr.block k (by have h8 := size_quiet HQ2.out; simp; omega) (by have h8 := size_quiet HQ2.out; simp [Value.ownBlock]; omega)).trans ((Below.heap_alloc _ _ _ (by have h8 := size_quiet HQ2.out; omega)).trans (by obtain ⟨q2, h9⟩ := HQ2.out; rw [h9]; rfl)))); have HW13 := Lib.hid (show w1.heap.size ≤ w3.heap.size from Nat.le_trans (by have h8 := size_quiet HQ2.out; simp; omega) hgr.size); clear hown hgr hat hb3 hl3)
      | (go_at_call 44; refine (specWalk_any x y n cap m d l (partsB path) root B w1.heap.size _ (h.below HB3.out hB) HP3.out (Nat.le_trans hB hw3) HW13.out (short_nth hzs)).mono ?_; rintro e w4 ⟨rfl, hb4⟩; rw [hg]; have H3w := Lib.hid (Lst.more (Lst.below H3.out hb4 (Nat.le_refl _)) hb4.size); have HB4 := Lib.hid (HB3.out.trans (hb4.mono hw3)); have hw4 : w.heap.size ≤ w4.heap.size := Nat.le_trans hw3 hb4.size; have HP4 := Lib.hid (Lst.below HP3.out hb4 HW13.out); have HW14 := Lib.hid (Nat.le_trans HW13.out hb4.size); clear hb4)
      | (go_at_call 93; refine (specDrop_any _ (partsB path) x y n cap m d l root B w1.heap.size _ (h.below HB4.out hB) HP4.out (Nat.le_trans hB hw4) HW14.out hzs hps hm3 hpl (Nat.le_refl _)).mono ?_; rintro e w5 ⟨x5, n5, c5, rfl, h5, hb5⟩; rw [hdr]; rw [HPR.out]; have H5 := Lib.hid h5; have hn5 : n5 ≤ 2000000 := (by have h9 := h5.len; omega); have H35 := Lib.hid (Lst.more (Lst.below H3w.out hb5 (Nat.le_refl _)) hb5.size); have HB5 := Lib.hid (HB4.out.trans (hb5.mono hw4)); have hw5 : w.heap.size ≤ w5.heap.size := Nat.le_trans hw4 hb5.size; clear h5 hb5)
      | (at_builtin; refine wpList_appL eltPc encPc (OwnL.newAt pcG 44 (size := 2) (base := w.heap.size) rfl hw5) (H5.out.alloc (Nat.le_refl _) _) (by decide) hn5 (le_alloc hw5 _) rfl _ _ rfl rfl rfl ?_; intro v7 w7 hown hgr hat; have hb7 := (HB5.out.alloc hw5 (.cells #[] 44)).grown hgr (le_alloc hw5 _) (fun q e => OwnL.at (OwnL.newAt pcG 44 (size := 2) (base := w.heap.size) rfl hw5) q e); obtain ⟨x7, n7, c7, rfl, hl7⟩ := hown.lst; have H7 := Lib.hid hl7; have HB7 := Lib.hid hb7; clear hown hgr hat hb7 hl7))
    go_ret3
    exact rdPut_of HF.out (show Lst pcG w7 w7.heap.size x7 n7 c7 _ by simpa using H7.out) HB7.out
end Go.Proofs.YtikmmhccgmmneaaGreatDoor
