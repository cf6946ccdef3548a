/-
  Chapter 10's model: a name is dropped.
-/
import Derived.Test.YtlbebbkkpjgboaaSet
namespace Go.Proofs.Ytlbebbkkpjgboaa
open Go.RowKit
set_option linter.unusedVariables false
/-- The entries that are left of a folder. -/
def leftE (l : List Ent) (nm : ByteArray) (p : Int) : List Ent := if 0 ≤ p then (putE l (nm, p)).1 else (dropE l nm).1
def endB (l : List Pc) (r : List Ent) : List Pc × Int × Bool := if r = [] then (l, -1, true) else putB l (folderB r)
def dropB : List Pc → Int → List ByteArray → List Pc × Int × Bool
  | l, p, [] => (l, -1, false)
  | l, p, nm :: r =>
    if lastE nm (-1) (foldL (getT l p)) < 0 then (l, -1, false)
    else if r = [] then endB l (leftE (foldL (getT l p)) nm (-1))
    else if (dropB l (lastE nm (-1) (foldL (getT l p))) r).2.2 = false then (l, -1, false)
    else endB (dropB l (lastE nm (-1) (foldL (getT l p))) r).1 (leftE (foldL (getT l p)) nm (dropB l (lastE nm (-1) (foldL (getT l p))) r).2.1)
theorem end_short {m : Nat} (hm : 49 ≤ m) {l : List Pc} {r : List Ent} (h : Short m l) : Short m (endB l r).1 := by
  unfold endB
  split
  · exact h
  · exact put_short h (Nat.le_trans (folderB_size _) hm)
theorem drop_short {m : Nat} (hm : 49 ≤ m) : ∀ {ps : List ByteArray} {l : List Pc} {p : Int}, Short m l → Short m (dropB l p ps).1
  | [], l, p, h => h
  | nm :: r, l, p, h => by
    have ih := drop_short hm (ps := r) (p := lastE nm (-1) (foldL (getT l p))) h
    rw [dropB]
    split
    · exact h
    split
    · exact end_short hm h
    split
    · exact h
    · exact end_short hm ih
theorem drop_names {l : List Ent} {nm : ByteArray} {m : Nat} (hz : ∀ k, (nthE l k).1.size ≤ m) : ∀ k, (nthE (dropE l nm).1 k).1.size ≤ m := by
  unfold dropE
  split
  · exact nthE_all.2 fun q hq => nthE_all.1 hz q ((List.mem_filter.1 hq).1)
  · intro k; simp [nthE]
set_option maxHeartbeats 2000000 in
set_option maxRecDepth 100000 in
theorem specDrop_any : ∀ (N : Nat) (ps : List ByteArray) (x y : Option Addr) (n cap m d : Nat) (l : List Pc) (p : Int) (B B1 : Nat) (w : World) (h : Pcs w B x n cap l) (h1 : Strs w B1 y m d ps) (hB : B ≤ w.heap.size) (hB1 : B1 ≤ w.heap.size) (hz : Short 1048576 l) (hz1 : ∀ k, (nthS ps k).size ≤ 1048576) (hm : m ≤ 1000) (h0 : 0 < ps.length) (hN : ps.length ≤ N),
    Calls Try.prog 75 #[.slice x n cap, .int .i64 p, .slice y m d] w (RdPut (dropB l p ps) w) := by
  intro N
  induction N with
  | zero => intro ps x y n cap m d l p B B1 w h h1 hB hB1 hz hz1 hm h0 hN; omega
  | succ N ih =>
    intro ps x y n cap m d l p B B1 w h h1 hB hB1 hz hz1 hm h0 hN
    obtain ⟨nm, r, rfl⟩ : ∃ nm r, ps = nm :: r := by
      cases ps with
      | nil => simp at h0
      | cons a b => exact ⟨a, b, rfl⟩
    have hm1 : m = r.length + 1 := by rw [← h1.len]; rfl
    have hle1 := h1.le
    have hmx1 := h1.max
    unfold maxLen at hmx1
    obtain ⟨b1, o1, rfl, hb1, hc1'⟩ := h1.atS (k := 0) (by omega)
    have hc1 : w.cell? ⟨b1, o1, none⟩ = some (.string nm) := hc1'
    have hNr : r.length ≤ N := by simp at hN; omega
    have HM1 := Lib.hid hm1
    have hmp : 0 < m := by omega
    have hmpi : (0 : Int) < (m : Int) := by omega
    clear hc1' hm1 h0 hN
    have hgz : (getT l p).size ≤ 1048576 := getT_size (short_nth hz)
    cases hok : isFold (getT l p)
    · have HE00 := Lib.hid (show (foldL (getT l p)).length = 0 by unfold foldL; rw [hok]; rfl)
      have HLS := Lib.hid h
      go_enter Try.func75, Try.ntmps75
      go_wp2_with (first
        | (go_at_call 37; refine (specL4Get_any x n cap l p B _ HLS.out).mono ?_; rintro e w' ⟨rfl, rfl⟩)
        | (go_at_call 82; refine (specReadFolder_any _ _ hgz).mono ?_; rintro e WX ⟨v, rfl, ho, hb2⟩; rw [hok]; obtain ⟨xo, no, co, rfl, hlo⟩ := ho.lst; have HLO := Lib.hid hlo; have HBX0 := Lib.hid hb2; clear ho hb2 hlo))
      have HBW := Lib.hid (show Below w.heap.size w WX from HBX0.out)
      have hwX : w.heap.size ≤ WX.heap.size := HBX0.out.size
      have HPC := Lib.hid (show ∀ w', Below WX.heap.size WX w' → w'.cell? ⟨b1, o1, none⟩ = some (.string nm) from fun w' hb => by
        have hbb := HBW.out.trans (hb.mono hwX)
        exact (World.cell?_of_block (w := w) (w' := w') (a := ⟨b1, o1, none⟩) (hbb.block b1 (by omega))).trans hc1)
      have HLSF := Lib.hid (show ∀ w', Below WX.heap.size WX w' → Pcs w' B x n cap l from fun w' hb => h.below (HBW.out.trans (hb.mono hwX)) hB)
      have HPSF := Lib.hid (show ∀ w', Below WX.heap.size WX w' → Strs w' B1 (some ⟨b1, o1, none⟩) m d (nm :: r) from fun w' hb => h1.below (HBW.out.trans (hb.mono hwX)) hB1)
      have HZS := Lib.hid (ents_sizes (fold_ents (s := getT l p)))
      have HEL := Lib.hid (entsB_at (fold_ents (s := getT l p))).1
      obtain ⟨E, hE⟩ : ∃ E, foldL (getT l p) = E := ⟨_, rfl⟩
      have HDEF := Lib.hid (show dropB l p (nm :: r) = if lastE nm (-1) E < 0 then (l, -1, false)
          else if r = [] then endB l (leftE E nm (-1))
          else if (dropB l (lastE nm (-1) E) r).2.2 = false then (l, -1, false)
          else endB (dropB l (lastE nm (-1) E) r).1 (leftE E nm (dropB l (lastE nm (-1) E) r).2.1) by rw [dropB, hE])
      have HE0 := Lib.hid (show E.length = 0 by rw [← hE]; exact HE00.out)
      rw [hE] at HLO HZS HEL
      clear hE
      have hlol := HLO.out.len
      have hloc := HLO.out.le
      have hlom := HLO.out.max
      unfold maxLen at hlom
      have hno3 : no ≤ 3 := by have := HEL.out; omega
      have HLOL := Lib.hid hlol
      clear h h1 hc1 hlol
      go_loopw [13, 14] (fun cv jv wq => ∃ (j : Nat) (c : Int), j ≤ no ∧ jv = .int .i64 j ∧ cv = .int .i64 c ∧ lastE nm (-1) E = lastE nm c (E.drop j) ∧ ∃ q, wq = WX.drewN q) (fun _ jv _ => no - (intOf jv).toNat)
      case atStart => exact ⟨0, -1, by omega, rfl, rfl, by rw [List.drop_zero], 0, rfl⟩
      case round =>
        obtain ⟨j, c, hj, rfl, rfl, hf, hq⟩ := hrel
        have HFL := Lib.hid hf; have HQ := Lib.hid hq; clear hf hq
        have HB1 := Lib.hid (show Below WX.heap.size WX wr by obtain ⟨q, rfl⟩ := HQ.out; exact below_drewN (Below.refl _ _) q)
        have hpc := HPC.out _ HB1.out
        by_cases hjl : j < no
        · exfalso; have := HLOL.out; have := HE0.out; omega
        · have HCH := Lib.hid (show lastE nm (-1) E = c from HFL.out.trans (lastE_end (by have := HLOL.out; omega)))
          rw [HCH.out] at HDEF
          clear HFL HCH
          by_cases hcn : c < 0
          · have HF := Lib.hid (HDEF.out.trans (if_pos hcn))
            go_wp2
            go_ret3
            exact rdPut_of HF.out ((HLSF.out _ HB1.out).more (Nat.le_trans hB (Nat.le_trans hwX HB1.out.size))) (HBW.out.trans (HB1.out.mono hwX))
          have hc0 : 0 ≤ c := by omega
          by_cases hr : r = []
          · have HD := Lib.hid (show dropB l p (nm :: r) = endB l (leftE E nm (-1)) by rw [HDEF.out, if_neg hcn, if_pos hr])
            have hmm : ¬ (1 : Int) < (m : Int) := by have h2 := HM1.out; rw [hr] at h2; simp at h2; omega
            clear hr
            have hzE : ∀ k, (nthE E k).1.size ≤ maxLen := fun k => Nat.le_trans (HZS.out k) (by unfold maxLen; omega)
            have hnmz : nm.size ≤ maxLen := Nat.le_trans (hz1 0) (by unfold maxLen; omega)
            have hft : ∀ {L : List Ent}, (folderB L).size ≤ maxLen := fun {L} => Nat.le_trans (folderB_size L) (by unfold maxLen; omega)
            have hzL : ∀ k, (nthP l k).2.size ≤ maxLen := fun k => Nat.le_trans (short_nth (hz) k) (by unfold maxLen; omega)
            have hzM : ∀ k, (nthE (dropE E nm).1 k).1.size ≤ maxLen := drop_names hzE
            have HLF := Lib.hid (show leftE E nm (-1) = (dropE E nm).1 from if_neg (by omega))
            rcases Classical.em ((dropE E nm).1 = []) with hre | hre
            all_goals have HRE := Lib.hid hre
            all_goals clear hre
            · have HF := Lib.hid (HD.out.trans (show endB l (leftE E nm (-1)) = (l, -1, true) by unfold endB; rw [HLF.out, if_pos HRE.out]))
              go_wp2_with (first
                | (go_at_call 83; refine (specDropEntry_any xo no co E nm WX.heap.size _ (HLO.out.below HB1.out (Nat.le_refl _)) HB1.out.size hzE hnmz).mono ?_; rintro e w6 ⟨v6, rfl, ho6, hb6⟩; obtain ⟨x6, n6, c6, rfl, hlo6⟩ := ho6.lst; have HB6 := Lib.hid (HB1.out.trans (hb6.mono HB1.out.size)); have HSS6 := Lib.hid (Lst.more (HLSF.out _ (HB1.out.trans (hb6.mono HB1.out.size))) (Nat.le_trans hB (Nat.le_trans hwX (Nat.le_trans HB1.out.size hb6.size)))); have hpc6 := HPC.out _ HB6.out; have HLO6 := Lib.hid hlo6; have hnr : ((n6 : Int) == 0) = true := (by have h9 := hlo6.len; rw [HRE.out] at h9; simp at h9; simp; omega); clear ho6 hb6 hlo6))
              go_ret3
              exact rdPut_of HF.out HSS6.out (HBW.out.trans (HB6.out.mono hwX))
            · have HF := Lib.hid (HD.out.trans (show endB l (leftE E nm (-1)) = putB l (folderB ((dropE E nm).1)) by unfold endB; rw [HLF.out, if_neg HRE.out]))
              go_wp2_with (first
                | (go_at_call 83; refine (specDropEntry_any xo no co E nm WX.heap.size _ (HLO.out.below HB1.out (Nat.le_refl _)) HB1.out.size hzE hnmz).mono ?_; rintro e w6 ⟨v6, rfl, ho6, hb6⟩; obtain ⟨x6, n6, c6, rfl, hlo6⟩ := ho6.lst; have HB6 := Lib.hid (HB1.out.trans (hb6.mono HB1.out.size)); have HSS6 := Lib.hid (Lst.more (HLSF.out _ (HB1.out.trans (hb6.mono HB1.out.size))) (Nat.le_trans hB (Nat.le_trans hwX (Nat.le_trans HB1.out.size hb6.size)))); have hpc6 := HPC.out _ HB6.out; have HLO6 := Lib.hid hlo6; have hnr : ((n6 : Int) == 0) = false := (by have h9 := hlo6.len; have h10 := List.length_pos_iff.2 HRE.out; simp; omega); clear ho6 hb6 hlo6)
                | (go_at_call 65; refine (specFolderText_any _ _ _ _ _ _ HLO6.out hzM).mono ?_; rintro e w8 ⟨rfl, q8, rfl⟩)
                | (go_at_call 64; refine (specPutText_any x n cap _ _ w6.heap.size _ (HSS6.out.drewN _) (le_drewN (Nat.le_refl _)) hzL hft).mono ?_; rintro e w9 ⟨v9, rfl, ho9, hb9⟩; obtain ⟨x9, n9, c9, rfl, hlo9⟩ := ho9.lst; have H9 := Lib.hid hlo9; have HB9 := Lib.hid ((below_drewN HB6.out _).trans (hb9.mono (le_drewN HB6.out.size))); clear ho9 hb9 hlo9))
              go_ret3
              exact rdPut_of HF.out H9.out (HBW.out.trans (HB9.out.mono hwX))
          · have hrl : 0 < r.length := List.length_pos_iff.2 hr
            have hmm : (1 : Int) < (m : Int) := by have h2 := HM1.out; omega
            have hd1 : ¬ d = 1 := by have h2 := HM1.out; omega
            have hml1 : (1 : Int) ≤ (m : Int) := by omega
            have hzr : ∀ k, (nthS r k).size ≤ 1048576 := fun k => hz1 (k + 1)
            have hmr : m - 1 ≤ 1000 := by omega
            have HRF := Lib.hid (show ∀ w', Below WX.heap.size WX w' → Strs w' B1 (some ⟨b1, o1 + 1, none⟩) (m - 1) (d - 1) r from fun w' hb => Lst.rest encStr (HPSF.out w' hb) (m := 1) (by omega))
            cases hok5 : (dropB l c r).2.2
            · have HF := Lib.hid (HDEF.out.trans (show _ = (l, -1, false) by rw [if_neg hcn, if_neg hr, if_pos hok5]))
              clear hr
              go_wp2_with (first
                | (go_at_call 75; refine (ih r _ _ n cap _ _ l c B B1 _ (HLSF.out _ HB1.out) (HRF.out _ HB1.out) (Nat.le_trans hB (Nat.le_trans hwX HB1.out.size)) (Nat.le_trans hB1 (Nat.le_trans hwX HB1.out.size)) hz hzr hmr hrl hNr).mono ?_; rintro e w5 ⟨x5, n5, c5, rfl, h5, hb5⟩; rw [hok5]; have H5 := Lib.hid h5; have HB5 := Lib.hid (HB1.out.trans (hb5.mono HB1.out.size)); have hpc5 := HPC.out _ HB5.out; clear h5 hb5))
              go_ret3
              exact rdPut_of HF.out ((HLSF.out _ HB5.out).more (Nat.le_trans hB (Nat.le_trans hwX HB5.out.size))) (HBW.out.trans (HB5.out.mono hwX))
            obtain ⟨LV, hLV⟩ : ∃ LV, (dropB l c r).2.1 = LV := ⟨_, rfl⟩
            have HD := Lib.hid (show dropB l p (nm :: r) = endB (dropB l c r).1 (leftE E nm LV) by rw [HDEF.out, if_neg hcn, if_neg hr, if_neg (by rw [hok5]; simp), hLV])
            clear hr
            by_cases hlv : 0 ≤ LV
            · skip
              have hzE : ∀ k, (nthE E k).1.size ≤ maxLen := fun k => Nat.le_trans (HZS.out k) (by unfold maxLen; omega)
              have hnmz : nm.size ≤ maxLen := Nat.le_trans (hz1 0) (by unfold maxLen; omega)
              have hft : ∀ {L : List Ent}, (folderB L).size ≤ maxLen := fun {L} => Nat.le_trans (folderB_size L) (by unfold maxLen; omega)
              have hzL : ∀ k, (nthP (dropB l c r).1 k).2.size ≤ maxLen := fun k => Nat.le_trans (short_nth (drop_short (m := 1048576) (by decide) hz) k) (by unfold maxLen; omega)
              have hzM : ∀ k, (nthE (putE E (nm, LV)).1 k).1.size ≤ maxLen := put_names hzE hnmz
              have HLF := Lib.hid (show leftE E nm LV = (putE E (nm, LV)).1 from if_pos hlv)
              rcases Classical.em ((putE E (nm, LV)).1 = []) with hre | hre
              all_goals have HRE := Lib.hid hre
              all_goals clear hre
              · have HF := Lib.hid (HD.out.trans (show endB (dropB l c r).1 (leftE E nm LV) = ((dropB l c r).1, -1, true) by unfold endB; rw [HLF.out, if_pos HRE.out]))
                go_wp2_with (first
                  | (go_at_call 75; refine (ih r _ _ n cap _ _ l c B B1 _ (HLSF.out _ HB1.out) (HRF.out _ HB1.out) (Nat.le_trans hB (Nat.le_trans hwX HB1.out.size)) (Nat.le_trans hB1 (Nat.le_trans hwX HB1.out.size)) hz hzr hmr hrl hNr).mono ?_; rintro e w5 ⟨x5, n5, c5, rfl, h5, hb5⟩; rw [hok5]; have H5 := Lib.hid h5; have HB5 := Lib.hid (HB1.out.trans (hb5.mono HB1.out.size)); have hpc5 := HPC.out _ HB5.out; rw [hLV]; clear h5 hb5)
                  | (go_at_call 83; refine (specDropEntry_any xo no co E nm WX.heap.size _ (HLO.out.below HB5.out (Nat.le_refl _)) HB5.out.size hzE hnmz).mono ?_; rintro e w6 ⟨v6, rfl, ho6, hb6⟩; obtain ⟨x6, n6, c6, rfl, hlo6⟩ := ho6.lst; have HB6 := Lib.hid (HB5.out.trans (hb6.mono HB5.out.size)); have HSS6 := Lib.hid (Lst.more (Lst.below H5.out hb6 (Nat.le_refl _)) hb6.size); have hpc6 := HPC.out _ HB6.out; have HLO6 := Lib.hid hlo6; clear ho6 hb6 hlo6)
                  | (go_at_call 84; refine (specPutEntry_any xo no co E (nm, LV) WX.heap.size _ (HLO.out.below HB6.out (Nat.le_refl _)) HB6.out.size hzE hnmz).mono ?_; rintro e w7 ⟨v7, rfl, ho7, hb7⟩; obtain ⟨x7, n7, c7, rfl, hlo7⟩ := ho7.lst; have HB7 := Lib.hid (HB6.out.trans (hb7.mono HB6.out.size)); have HSS7 := Lib.hid (Lst.more (Lst.below HSS6.out hb7 (Nat.le_refl _)) hb7.size); have HLO7 := Lib.hid hlo7; have hnr : ((n7 : Int) == 0) = true := (by have h9 := hlo7.len; rw [HRE.out] at h9; simp at h9; simp; omega); clear ho7 hb7 hlo7))
                go_ret3
                exact rdPut_of HF.out HSS7.out (HBW.out.trans (HB7.out.mono hwX))
              · have HF := Lib.hid (HD.out.trans (show endB (dropB l c r).1 (leftE E nm LV) = putB (dropB l c r).1 (folderB ((putE E (nm, LV)).1)) by unfold endB; rw [HLF.out, if_neg HRE.out]))
                go_wp2_with (first
                  | (go_at_call 75; refine (ih r _ _ n cap _ _ l c B B1 _ (HLSF.out _ HB1.out) (HRF.out _ HB1.out) (Nat.le_trans hB (Nat.le_trans hwX HB1.out.size)) (Nat.le_trans hB1 (Nat.le_trans hwX HB1.out.size)) hz hzr hmr hrl hNr).mono ?_; rintro e w5 ⟨x5, n5, c5, rfl, h5, hb5⟩; rw [hok5]; have H5 := Lib.hid h5; have HB5 := Lib.hid (HB1.out.trans (hb5.mono HB1.out.size)); have hpc5 := HPC.out _ HB5.out; rw [hLV]; clear h5 hb5)
                  | (go_at_call 83; refine (specDropEntry_any xo no co E nm WX.heap.size _ (HLO.out.below HB5.out (Nat.le_refl _)) HB5.out.size hzE hnmz).mono ?_; rintro e w6 ⟨v6, rfl, ho6, hb6⟩; obtain ⟨x6, n6, c6, rfl, hlo6⟩ := ho6.lst; have HB6 := Lib.hid (HB5.out.trans (hb6.mono HB5.out.size)); have HSS6 := Lib.hid (Lst.more (Lst.below H5.out hb6 (Nat.le_refl _)) hb6.size); have hpc6 := HPC.out _ HB6.out; have HLO6 := Lib.hid hlo6; clear ho6 hb6 hlo6)
                  | (go_at_call 84; refine (specPutEntry_any xo no co E (nm, LV) WX.heap.size _ (HLO.out.below HB6.out (Nat.le_refl _)) HB6.out.size hzE hnmz).mono ?_; rintro e w7 ⟨v7, rfl, ho7, hb7⟩; obtain ⟨x7, n7, c7, rfl, hlo7⟩ := ho7.lst; have HB7 := Lib.hid (HB6.out.trans (hb7.mono HB6.out.size)); have HSS7 := Lib.hid (Lst.more (Lst.below HSS6.out hb7 (Nat.le_refl _)) hb7.size); have HLO7 := Lib.hid hlo7; have hnr : ((n7 : Int) == 0) = false := (by have h9 := hlo7.len; have h10 := List.length_pos_iff.2 HRE.out; simp; omega); clear ho7 hb7 hlo7)
                  | (go_at_call 65; refine (specFolderText_any _ _ _ _ _ _ HLO7.out hzM).mono ?_; rintro e w8 ⟨rfl, q8, rfl⟩)
                  | (go_at_call 64; refine (specPutText_any x5 n5 c5 _ _ w7.heap.size _ (HSS7.out.drewN _) (le_drewN (Nat.le_refl _)) hzL hft).mono ?_; rintro e w9 ⟨v9, rfl, ho9, hb9⟩; obtain ⟨x9, n9, c9, rfl, hlo9⟩ := ho9.lst; have H9 := Lib.hid hlo9; have HB9 := Lib.hid ((below_drewN HB7.out _).trans (hb9.mono (le_drewN HB7.out.size))); clear ho9 hb9 hlo9))
                go_ret3
                exact rdPut_of HF.out H9.out (HBW.out.trans (HB9.out.mono hwX))
            · skip
              have hzE : ∀ k, (nthE E k).1.size ≤ maxLen := fun k => Nat.le_trans (HZS.out k) (by unfold maxLen; omega)
              have hnmz : nm.size ≤ maxLen := Nat.le_trans (hz1 0) (by unfold maxLen; omega)
              have hft : ∀ {L : List Ent}, (folderB L).size ≤ maxLen := fun {L} => Nat.le_trans (folderB_size L) (by unfold maxLen; omega)
              have hzL : ∀ k, (nthP (dropB l c r).1 k).2.size ≤ maxLen := fun k => Nat.le_trans (short_nth (drop_short (m := 1048576) (by decide) hz) k) (by unfold maxLen; omega)
              have hzM : ∀ k, (nthE (dropE E nm).1 k).1.size ≤ maxLen := drop_names hzE
              have HLF := Lib.hid (show leftE E nm LV = (dropE E nm).1 from if_neg (by omega))
              rcases Classical.em ((dropE E nm).1 = []) with hre | hre
              all_goals have HRE := Lib.hid hre
              all_goals clear hre
              · have HF := Lib.hid (HD.out.trans (show endB (dropB l c r).1 (leftE E nm LV) = ((dropB l c r).1, -1, true) by unfold endB; rw [HLF.out, if_pos HRE.out]))
                go_wp2_with (first
                  | (go_at_call 75; refine (ih r _ _ n cap _ _ l c B B1 _ (HLSF.out _ HB1.out) (HRF.out _ HB1.out) (Nat.le_trans hB (Nat.le_trans hwX HB1.out.size)) (Nat.le_trans hB1 (Nat.le_trans hwX HB1.out.size)) hz hzr hmr hrl hNr).mono ?_; rintro e w5 ⟨x5, n5, c5, rfl, h5, hb5⟩; rw [hok5]; have H5 := Lib.hid h5; have HB5 := Lib.hid (HB1.out.trans (hb5.mono HB1.out.size)); have hpc5 := HPC.out _ HB5.out; rw [hLV]; clear h5 hb5)
                  | (go_at_call 83; refine (specDropEntry_any xo no co E nm WX.heap.size _ (HLO.out.below HB5.out (Nat.le_refl _)) HB5.out.size hzE hnmz).mono ?_; rintro e w6 ⟨v6, rfl, ho6, hb6⟩; obtain ⟨x6, n6, c6, rfl, hlo6⟩ := ho6.lst; have HB6 := Lib.hid (HB5.out.trans (hb6.mono HB5.out.size)); have HSS6 := Lib.hid (Lst.more (Lst.below H5.out hb6 (Nat.le_refl _)) hb6.size); have hpc6 := HPC.out _ HB6.out; have HLO6 := Lib.hid hlo6; have hnr : ((n6 : Int) == 0) = true := (by have h9 := hlo6.len; rw [HRE.out] at h9; simp at h9; simp; omega); clear ho6 hb6 hlo6))
                go_ret3
                exact rdPut_of HF.out HSS6.out (HBW.out.trans (HB6.out.mono hwX))
              · have HF := Lib.hid (HD.out.trans (show endB (dropB l c r).1 (leftE E nm LV) = putB (dropB l c r).1 (folderB ((dropE E nm).1)) by unfold endB; rw [HLF.out, if_neg HRE.out]))
                go_wp2_with (first
                  | (go_at_call 75; refine (ih r _ _ n cap _ _ l c B B1 _ (HLSF.out _ HB1.out) (HRF.out _ HB1.out) (Nat.le_trans hB (Nat.le_trans hwX HB1.out.size)) (Nat.le_trans hB1 (Nat.le_trans hwX HB1.out.size)) hz hzr hmr hrl hNr).mono ?_; rintro e w5 ⟨x5, n5, c5, rfl, h5, hb5⟩; rw [hok5]; have H5 := Lib.hid h5; have HB5 := Lib.hid (HB1.out.trans (hb5.mono HB1.out.size)); have hpc5 := HPC.out _ HB5.out; rw [hLV]; clear h5 hb5)
                  | (go_at_call 83; refine (specDropEntry_any xo no co E nm WX.heap.size _ (HLO.out.below HB5.out (Nat.le_refl _)) HB5.out.size hzE hnmz).mono ?_; rintro e w6 ⟨v6, rfl, ho6, hb6⟩; obtain ⟨x6, n6, c6, rfl, hlo6⟩ := ho6.lst; have HB6 := Lib.hid (HB5.out.trans (hb6.mono HB5.out.size)); have HSS6 := Lib.hid (Lst.more (Lst.below H5.out hb6 (Nat.le_refl _)) hb6.size); have hpc6 := HPC.out _ HB6.out; have HLO6 := Lib.hid hlo6; have hnr : ((n6 : Int) == 0) = false := (by have h9 := hlo6.len; have h10 := List.length_pos_iff.2 HRE.out; simp; omega); clear ho6 hb6 hlo6)
                  | (go_at_call 65; refine (specFolderText_any _ _ _ _ _ _ HLO6.out hzM).mono ?_; rintro e w8 ⟨rfl, q8, rfl⟩)
                  | (go_at_call 64; refine (specPutText_any x5 n5 c5 _ _ w6.heap.size _ (HSS6.out.drewN _) (le_drewN (Nat.le_refl _)) hzL hft).mono ?_; rintro e w9 ⟨v9, rfl, ho9, hb9⟩; obtain ⟨x9, n9, c9, rfl, hlo9⟩ := ho9.lst; have H9 := Lib.hid hlo9; have HB9 := Lib.hid ((below_drewN HB6.out _).trans (hb9.mono (le_drewN HB6.out.size))); clear ho9 hb9 hlo9))
                go_ret3
                exact rdPut_of HF.out H9.out (HBW.out.trans (HB9.out.mono hwX))
    · have HLS := Lib.hid h
      go_enter Try.func75, Try.ntmps75
      go_wp2_with (first
        | (go_at_call 37; refine (specL4Get_any x n cap l p B _ HLS.out).mono ?_; rintro e w' ⟨rfl, rfl⟩)
        | (go_at_call 82; refine (specReadFolder_any _ _ hgz).mono ?_; rintro e WX ⟨v, rfl, ho, hb2⟩; rw [hok]; obtain ⟨xo, no, co, rfl, hlo⟩ := ho.lst; have HLO := Lib.hid hlo; have HBX0 := Lib.hid hb2; clear ho hb2 hlo))
      have HBW := Lib.hid (show Below w.heap.size w WX from HBX0.out)
      have hwX : w.heap.size ≤ WX.heap.size := HBX0.out.size
      have HPC := Lib.hid (show ∀ w', Below WX.heap.size WX w' → w'.cell? ⟨b1, o1, none⟩ = some (.string nm) from fun w' hb => by
        have hbb := HBW.out.trans (hb.mono hwX)
        exact (World.cell?_of_block (w := w) (w' := w') (a := ⟨b1, o1, none⟩) (hbb.block b1 (by omega))).trans hc1)
      have HLSF := Lib.hid (show ∀ w', Below WX.heap.size WX w' → Pcs w' B x n cap l from fun w' hb => h.below (HBW.out.trans (hb.mono hwX)) hB)
      have HPSF := Lib.hid (show ∀ w', Below WX.heap.size WX w' → Strs w' B1 (some ⟨b1, o1, none⟩) m d (nm :: r) from fun w' hb => h1.below (HBW.out.trans (hb.mono hwX)) hB1)
      have HZS := Lib.hid (ents_sizes (fold_ents (s := getT l p)))
      have HEL := Lib.hid (entsB_at (fold_ents (s := getT l p))).1
      obtain ⟨E, hE⟩ : ∃ E, foldL (getT l p) = E := ⟨_, rfl⟩
      have HDEF := Lib.hid (show dropB l p (nm :: r) = if lastE nm (-1) E < 0 then (l, -1, false)
          else if r = [] then endB l (leftE E nm (-1))
          else if (dropB l (lastE nm (-1) E) r).2.2 = false then (l, -1, false)
          else endB (dropB l (lastE nm (-1) E) r).1 (leftE E nm (dropB l (lastE nm (-1) E) r).2.1) by rw [dropB, hE])
      rw [hE] at HLO HZS HEL
      clear hE
      have hlol := HLO.out.len
      have hloc := HLO.out.le
      have hlom := HLO.out.max
      unfold maxLen at hlom
      have hno3 : no ≤ 3 := by have := HEL.out; omega
      have HLOL := Lib.hid hlol
      clear h h1 hc1 hlol
      go_loopw [13, 14] (fun cv jv wq => ∃ (j : Nat) (c : Int), j ≤ no ∧ jv = .int .i64 j ∧ cv = .int .i64 c ∧ lastE nm (-1) E = lastE nm c (E.drop j) ∧ ∃ q, wq = WX.drewN q) (fun _ jv _ => no - (intOf jv).toNat)
      case atStart => exact ⟨0, -1, by omega, rfl, rfl, by rw [List.drop_zero], 0, rfl⟩
      case round =>
        obtain ⟨j, c, hj, rfl, rfl, hf, hq⟩ := hrel
        have HFL := Lib.hid hf; have HQ := Lib.hid hq; clear hf hq
        have HB1 := Lib.hid (show Below WX.heap.size WX wr by obtain ⟨q, rfl⟩ := HQ.out; exact below_drewN (Below.refl _ _) q)
        have hpc := HPC.out _ HB1.out
        by_cases hjl : j < no
        · have hjl2 : j < E.length := by have := HLOL.out; omega
          obtain ⟨b, off, rfl, hb, hc0, hcp⟩ := (HLO.out.below HB1.out (Nat.le_refl _)).atE hjl
          cases hmn : ((nthE E j).1.toList == nm.toList)
          · have HST := Lib.hid (HFL.out.trans (lastE_no hjl2 hmn))
            go_wp2
            go_quiet (fail)
            go_wp2
            go_roundw
            case rel => exact ⟨j + 1, _, by omega, by go_num, rfl, HST.out, by obtain ⟨q, rfl⟩ := HQ.out; exact ⟨_, by rw [World.drewN_drewN]⟩⟩
            case measure => simp [intOf]; omega
          · have HST := Lib.hid (HFL.out.trans (lastE_yes hjl2 hmn))
            go_wp2
            go_quiet (fail)
            go_wp2
            go_roundw
            case rel => exact ⟨j + 1, _, by omega, by go_num, rfl, HST.out, by obtain ⟨q, rfl⟩ := HQ.out; exact ⟨_, by rw [World.drewN_drewN]⟩⟩
            case measure => simp [intOf]; omega
        · have HCH := Lib.hid (show lastE nm (-1) E = c from HFL.out.trans (lastE_end (by have := HLOL.out; omega)))
          rw [HCH.out] at HDEF
          clear HFL HCH
          by_cases hcn : c < 0
          · have HF := Lib.hid (HDEF.out.trans (if_pos hcn))
            go_wp2
            go_ret3
            exact rdPut_of HF.out ((HLSF.out _ HB1.out).more (Nat.le_trans hB (Nat.le_trans hwX HB1.out.size))) (HBW.out.trans (HB1.out.mono hwX))
          have hc0 : 0 ≤ c := by omega
          by_cases hr : r = []
          · have HD := Lib.hid (show dropB l p (nm :: r) = endB l (leftE E nm (-1)) by rw [HDEF.out, if_neg hcn, if_pos hr])
            have hmm : ¬ (1 : Int) < (m : Int) := by have h2 := HM1.out; rw [hr] at h2; simp at h2; omega
            clear hr
            have hzE : ∀ k, (nthE E k).1.size ≤ maxLen := fun k => Nat.le_trans (HZS.out k) (by unfold maxLen; omega)
            have hnmz : nm.size ≤ maxLen := Nat.le_trans (hz1 0) (by unfold maxLen; omega)
            have hft : ∀ {L : List Ent}, (folderB L).size ≤ maxLen := fun {L} => Nat.le_trans (folderB_size L) (by unfold maxLen; omega)
            have hzL : ∀ k, (nthP l k).2.size ≤ maxLen := fun k => Nat.le_trans (short_nth (hz) k) (by unfold maxLen; omega)
            have hzM : ∀ k, (nthE (dropE E nm).1 k).1.size ≤ maxLen := drop_names hzE
            have HLF := Lib.hid (show leftE E nm (-1) = (dropE E nm).1 from if_neg (by omega))
            rcases Classical.em ((dropE E nm).1 = []) with hre | hre
            all_goals have HRE := Lib.hid hre
            all_goals clear hre
            · have HF := Lib.hid (HD.out.trans (show endB l (leftE E nm (-1)) = (l, -1, true) by unfold endB; rw [HLF.out, if_pos HRE.out]))
              go_wp2_with (first
                | (go_at_call 83; refine (specDropEntry_any xo no co E nm WX.heap.size _ (HLO.out.below HB1.out (Nat.le_refl _)) HB1.out.size hzE hnmz).mono ?_; rintro e w6 ⟨v6, rfl, ho6, hb6⟩; obtain ⟨x6, n6, c6, rfl, hlo6⟩ := ho6.lst; have HB6 := Lib.hid (HB1.out.trans (hb6.mono HB1.out.size)); have HSS6 := Lib.hid (Lst.more (HLSF.out _ (HB1.out.trans (hb6.mono HB1.out.size))) (Nat.le_trans hB (Nat.le_trans hwX (Nat.le_trans HB1.out.size hb6.size)))); have hpc6 := HPC.out _ HB6.out; have HLO6 := Lib.hid hlo6; have hnr : ((n6 : Int) == 0) = true := (by have h9 := hlo6.len; rw [HRE.out] at h9; simp at h9; simp; omega); clear ho6 hb6 hlo6))
              go_ret3
              exact rdPut_of HF.out HSS6.out (HBW.out.trans (HB6.out.mono hwX))
            · have HF := Lib.hid (HD.out.trans (show endB l (leftE E nm (-1)) = putB l (folderB ((dropE E nm).1)) by unfold endB; rw [HLF.out, if_neg HRE.out]))
              go_wp2_with (first
                | (go_at_call 83; refine (specDropEntry_any xo no co E nm WX.heap.size _ (HLO.out.below HB1.out (Nat.le_refl _)) HB1.out.size hzE hnmz).mono ?_; rintro e w6 ⟨v6, rfl, ho6, hb6⟩; obtain ⟨x6, n6, c6, rfl, hlo6⟩ := ho6.lst; have HB6 := Lib.hid (HB1.out.trans (hb6.mono HB1.out.size)); have HSS6 := Lib.hid (Lst.more (HLSF.out _ (HB1.out.trans (hb6.mono HB1.out.size))) (Nat.le_trans hB (Nat.le_trans hwX (Nat.le_trans HB1.out.size hb6.size)))); have hpc6 := HPC.out _ HB6.out; have HLO6 := Lib.hid hlo6; have hnr : ((n6 : Int) == 0) = false := (by have h9 := hlo6.len; have h10 := List.length_pos_iff.2 HRE.out; simp; omega); clear ho6 hb6 hlo6)
                | (go_at_call 65; refine (specFolderText_any _ _ _ _ _ _ HLO6.out hzM).mono ?_; rintro e w8 ⟨rfl, q8, rfl⟩)
                | (go_at_call 64; refine (specPutText_any x n cap _ _ w6.heap.size _ (HSS6.out.drewN _) (le_drewN (Nat.le_refl _)) hzL hft).mono ?_; rintro e w9 ⟨v9, rfl, ho9, hb9⟩; obtain ⟨x9, n9, c9, rfl, hlo9⟩ := ho9.lst; have H9 := Lib.hid hlo9; have HB9 := Lib.hid ((below_drewN HB6.out _).trans (hb9.mono (le_drewN HB6.out.size))); clear ho9 hb9 hlo9))
              go_ret3
              exact rdPut_of HF.out H9.out (HBW.out.trans (HB9.out.mono hwX))
          · have hrl : 0 < r.length := List.length_pos_iff.2 hr
            have hmm : (1 : Int) < (m : Int) := by have h2 := HM1.out; omega
            have hd1 : ¬ d = 1 := by have h2 := HM1.out; omega
            have hml1 : (1 : Int) ≤ (m : Int) := by omega
            have hzr : ∀ k, (nthS r k).size ≤ 1048576 := fun k => hz1 (k + 1)
            have hmr : m - 1 ≤ 1000 := by omega
            have HRF := Lib.hid (show ∀ w', Below WX.heap.size WX w' → Strs w' B1 (some ⟨b1, o1 + 1, none⟩) (m - 1) (d - 1) r from fun w' hb => Lst.rest encStr (HPSF.out w' hb) (m := 1) (by omega))
            cases hok5 : (dropB l c r).2.2
            · have HF := Lib.hid (HDEF.out.trans (show _ = (l, -1, false) by rw [if_neg hcn, if_neg hr, if_pos hok5]))
              clear hr
              go_wp2_with (first
                | (go_at_call 75; refine (ih r _ _ n cap _ _ l c B B1 _ (HLSF.out _ HB1.out) (HRF.out _ HB1.out) (Nat.le_trans hB (Nat.le_trans hwX HB1.out.size)) (Nat.le_trans hB1 (Nat.le_trans hwX HB1.out.size)) hz hzr hmr hrl hNr).mono ?_; rintro e w5 ⟨x5, n5, c5, rfl, h5, hb5⟩; rw [hok5]; have H5 := Lib.hid h5; have HB5 := Lib.hid (HB1.out.trans (hb5.mono HB1.out.size)); have hpc5 := HPC.out _ HB5.out; clear h5 hb5))
              go_ret3
              exact rdPut_of HF.out ((HLSF.out _ HB5.out).more (Nat.le_trans hB (Nat.le_trans hwX HB5.out.size))) (HBW.out.trans (HB5.out.mono hwX))
            obtain ⟨LV, hLV⟩ : ∃ LV, (dropB l c r).2.1 = LV := ⟨_, rfl⟩
            have HD := Lib.hid (show dropB l p (nm :: r) = endB (dropB l c r).1 (leftE E nm LV) by rw [HDEF.out, if_neg hcn, if_neg hr, if_neg (by rw [hok5]; simp), hLV])
            clear hr
            by_cases hlv : 0 ≤ LV
            · skip
              have hzE : ∀ k, (nthE E k).1.size ≤ maxLen := fun k => Nat.le_trans (HZS.out k) (by unfold maxLen; omega)
              have hnmz : nm.size ≤ maxLen := Nat.le_trans (hz1 0) (by unfold maxLen; omega)
              have hft : ∀ {L : List Ent}, (folderB L).size ≤ maxLen := fun {L} => Nat.le_trans (folderB_size L) (by unfold maxLen; omega)
              have hzL : ∀ k, (nthP (dropB l c r).1 k).2.size ≤ maxLen := fun k => Nat.le_trans (short_nth (drop_short (m := 1048576) (by decide) hz) k) (by unfold maxLen; omega)
              have hzM : ∀ k, (nthE (putE E (nm, LV)).1 k).1.size ≤ maxLen := put_names hzE hnmz
              have HLF := Lib.hid (show leftE E nm LV = (putE E (nm, LV)).1 from if_pos hlv)
              rcases Classical.em ((putE E (nm, LV)).1 = []) with hre | hre
              all_goals have HRE := Lib.hid hre
              all_goals clear hre
              · have HF := Lib.hid (HD.out.trans (show endB (dropB l c r).1 (leftE E nm LV) = ((dropB l c r).1, -1, true) by unfold endB; rw [HLF.out, if_pos HRE.out]))
                go_wp2_with (first
                  | (go_at_call 75; refine (ih r _ _ n cap _ _ l c B B1 _ (HLSF.out _ HB1.out) (HRF.out _ HB1.out) (Nat.le_trans hB (Nat.le_trans hwX HB1.out.size)) (Nat.le_trans hB1 (Nat.le_trans hwX HB1.out.size)) hz hzr hmr hrl hNr).mono ?_; rintro e w5 ⟨x5, n5, c5, rfl, h5, hb5⟩; rw [hok5]; have H5 := Lib.hid h5; have HB5 := Lib.hid (HB1.out.trans (hb5.mono HB1.out.size)); have hpc5 := HPC.out _ HB5.out; rw [hLV]; clear h5 hb5)
                  | (go_at_call 83; refine (specDropEntry_any xo no co E nm WX.heap.size _ (HLO.out.below HB5.out (Nat.le_refl _)) HB5.out.size hzE hnmz).mono ?_; rintro e w6 ⟨v6, rfl, ho6, hb6⟩; obtain ⟨x6, n6, c6, rfl, hlo6⟩ := ho6.lst; have HB6 := Lib.hid (HB5.out.trans (hb6.mono HB5.out.size)); have HSS6 := Lib.hid (Lst.more (Lst.below H5.out hb6 (Nat.le_refl _)) hb6.size); have hpc6 := HPC.out _ HB6.out; have HLO6 := Lib.hid hlo6; clear ho6 hb6 hlo6)
                  | (go_at_call 84; refine (specPutEntry_any xo no co E (nm, LV) WX.heap.size _ (HLO.out.below HB6.out (Nat.le_refl _)) HB6.out.size hzE hnmz).mono ?_; rintro e w7 ⟨v7, rfl, ho7, hb7⟩; obtain ⟨x7, n7, c7, rfl, hlo7⟩ := ho7.lst; have HB7 := Lib.hid (HB6.out.trans (hb7.mono HB6.out.size)); have HSS7 := Lib.hid (Lst.more (Lst.below HSS6.out hb7 (Nat.le_refl _)) hb7.size); have HLO7 := Lib.hid hlo7; have hnr : ((n7 : Int) == 0) = true := (by have h9 := hlo7.len; rw [HRE.out] at h9; simp at h9; simp; omega); clear ho7 hb7 hlo7))
                go_ret3
                exact rdPut_of HF.out HSS7.out (HBW.out.trans (HB7.out.mono hwX))
              · have HF := Lib.hid (HD.out.trans (show endB (dropB l c r).1 (leftE E nm LV) = putB (dropB l c r).1 (folderB ((putE E (nm, LV)).1)) by unfold endB; rw [HLF.out, if_neg HRE.out]))
                go_wp2_with (first
                  | (go_at_call 75; refine (ih r _ _ n cap _ _ l c B B1 _ (HLSF.out _ HB1.out) (HRF.out _ HB1.out) (Nat.le_trans hB (Nat.le_trans hwX HB1.out.size)) (Nat.le_trans hB1 (Nat.le_trans hwX HB1.out.size)) hz hzr hmr hrl hNr).mono ?_; rintro e w5 ⟨x5, n5, c5, rfl, h5, hb5⟩; rw [hok5]; have H5 := Lib.hid h5; have HB5 := Lib.hid (HB1.out.trans (hb5.mono HB1.out.size)); have hpc5 := HPC.out _ HB5.out; rw [hLV]; clear h5 hb5)
                  | (go_at_call 83; refine (specDropEntry_any xo no co E nm WX.heap.size _ (HLO.out.below HB5.out (Nat.le_refl _)) HB5.out.size hzE hnmz).mono ?_; rintro e w6 ⟨v6, rfl, ho6, hb6⟩; obtain ⟨x6, n6, c6, rfl, hlo6⟩ := ho6.lst; have HB6 := Lib.hid (HB5.out.trans (hb6.mono HB5.out.size)); have HSS6 := Lib.hid (Lst.more (Lst.below H5.out hb6 (Nat.le_refl _)) hb6.size); have hpc6 := HPC.out _ HB6.out; have HLO6 := Lib.hid hlo6; clear ho6 hb6 hlo6)
                  | (go_at_call 84; refine (specPutEntry_any xo no co E (nm, LV) WX.heap.size _ (HLO.out.below HB6.out (Nat.le_refl _)) HB6.out.size hzE hnmz).mono ?_; rintro e w7 ⟨v7, rfl, ho7, hb7⟩; obtain ⟨x7, n7, c7, rfl, hlo7⟩ := ho7.lst; have HB7 := Lib.hid (HB6.out.trans (hb7.mono HB6.out.size)); have HSS7 := Lib.hid (Lst.more (Lst.below HSS6.out hb7 (Nat.le_refl _)) hb7.size); have HLO7 := Lib.hid hlo7; have hnr : ((n7 : Int) == 0) = false := (by have h9 := hlo7.len; have h10 := List.length_pos_iff.2 HRE.out; simp; omega); clear ho7 hb7 hlo7)
                  | (go_at_call 65; refine (specFolderText_any _ _ _ _ _ _ HLO7.out hzM).mono ?_; rintro e w8 ⟨rfl, q8, rfl⟩)
                  | (go_at_call 64; refine (specPutText_any x5 n5 c5 _ _ w7.heap.size _ (HSS7.out.drewN _) (le_drewN (Nat.le_refl _)) hzL hft).mono ?_; rintro e w9 ⟨v9, rfl, ho9, hb9⟩; obtain ⟨x9, n9, c9, rfl, hlo9⟩ := ho9.lst; have H9 := Lib.hid hlo9; have HB9 := Lib.hid ((below_drewN HB7.out _).trans (hb9.mono (le_drewN HB7.out.size))); clear ho9 hb9 hlo9))
                go_ret3
                exact rdPut_of HF.out H9.out (HBW.out.trans (HB9.out.mono hwX))
            · skip
              have hzE : ∀ k, (nthE E k).1.size ≤ maxLen := fun k => Nat.le_trans (HZS.out k) (by unfold maxLen; omega)
              have hnmz : nm.size ≤ maxLen := Nat.le_trans (hz1 0) (by unfold maxLen; omega)
              have hft : ∀ {L : List Ent}, (folderB L).size ≤ maxLen := fun {L} => Nat.le_trans (folderB_size L) (by unfold maxLen; omega)
              have hzL : ∀ k, (nthP (dropB l c r).1 k).2.size ≤ maxLen := fun k => Nat.le_trans (short_nth (drop_short (m := 1048576) (by decide) hz) k) (by unfold maxLen; omega)
              have hzM : ∀ k, (nthE (dropE E nm).1 k).1.size ≤ maxLen := drop_names hzE
              have HLF := Lib.hid (show leftE E nm LV = (dropE E nm).1 from if_neg (by omega))
              rcases Classical.em ((dropE E nm).1 = []) with hre | hre
              all_goals have HRE := Lib.hid hre
              all_goals clear hre
              · have HF := Lib.hid (HD.out.trans (show endB (dropB l c r).1 (leftE E nm LV) = ((dropB l c r).1, -1, true) by unfold endB; rw [HLF.out, if_pos HRE.out]))
                go_wp2_with (first
                  | (go_at_call 75; refine (ih r _ _ n cap _ _ l c B B1 _ (HLSF.out _ HB1.out) (HRF.out _ HB1.out) (Nat.le_trans hB (Nat.le_trans hwX HB1.out.size)) (Nat.le_trans hB1 (Nat.le_trans hwX HB1.out.size)) hz hzr hmr hrl hNr).mono ?_; rintro e w5 ⟨x5, n5, c5, rfl, h5, hb5⟩; rw [hok5]; have H5 := Lib.hid h5; have HB5 := Lib.hid (HB1.out.trans (hb5.mono HB1.out.size)); have hpc5 := HPC.out _ HB5.out; rw [hLV]; clear h5 hb5)
                  | (go_at_call 83; refine (specDropEntry_any xo no co E nm WX.heap.size _ (HLO.out.below HB5.out (Nat.le_refl _)) HB5.out.size hzE hnmz).mono ?_; rintro e w6 ⟨v6, rfl, ho6, hb6⟩; obtain ⟨x6, n6, c6, rfl, hlo6⟩ := ho6.lst; have HB6 := Lib.hid (HB5.out.trans (hb6.mono HB5.out.size)); have HSS6 := Lib.hid (Lst.more (Lst.below H5.out hb6 (Nat.le_refl _)) hb6.size); have hpc6 := HPC.out _ HB6.out; have HLO6 := Lib.hid hlo6; have hnr : ((n6 : Int) == 0) = true := (by have h9 := hlo6.len; rw [HRE.out] at h9; simp at h9; simp; omega); clear ho6 hb6 hlo6))
                go_ret3
                exact rdPut_of HF.out HSS6.out (HBW.out.trans (HB6.out.mono hwX))
              · have HF := Lib.hid (HD.out.trans (show endB (dropB l c r).1 (leftE E nm LV) = putB (dropB l c r).1 (folderB ((dropE E nm).1)) by unfold endB; rw [HLF.out, if_neg HRE.out]))
                go_wp2_with (first
                  | (go_at_call 75; refine (ih r _ _ n cap _ _ l c B B1 _ (HLSF.out _ HB1.out) (HRF.out _ HB1.out) (Nat.le_trans hB (Nat.le_trans hwX HB1.out.size)) (Nat.le_trans hB1 (Nat.le_trans hwX HB1.out.size)) hz hzr hmr hrl hNr).mono ?_; rintro e w5 ⟨x5, n5, c5, rfl, h5, hb5⟩; rw [hok5]; have H5 := Lib.hid h5; have HB5 := Lib.hid (HB1.out.trans (hb5.mono HB1.out.size)); have hpc5 := HPC.out _ HB5.out; rw [hLV]; clear h5 hb5)
                  | (go_at_call 83; refine (specDropEntry_any xo no co E nm WX.heap.size _ (HLO.out.below HB5.out (Nat.le_refl _)) HB5.out.size hzE hnmz).mono ?_; rintro e w6 ⟨v6, rfl, ho6, hb6⟩; obtain ⟨x6, n6, c6, rfl, hlo6⟩ := ho6.lst; have HB6 := Lib.hid (HB5.out.trans (hb6.mono HB5.out.size)); have HSS6 := Lib.hid (Lst.more (Lst.below H5.out hb6 (Nat.le_refl _)) hb6.size); have hpc6 := HPC.out _ HB6.out; have HLO6 := Lib.hid hlo6; have hnr : ((n6 : Int) == 0) = false := (by have h9 := hlo6.len; have h10 := List.length_pos_iff.2 HRE.out; simp; omega); clear ho6 hb6 hlo6)
                  | (go_at_call 65; refine (specFolderText_any _ _ _ _ _ _ HLO6.out hzM).mono ?_; rintro e w8 ⟨rfl, q8, rfl⟩)
                  | (go_at_call 64; refine (specPutText_any x5 n5 c5 _ _ w6.heap.size _ (HSS6.out.drewN _) (le_drewN (Nat.le_refl _)) hzL hft).mono ?_; rintro e w9 ⟨v9, rfl, ho9, hb9⟩; obtain ⟨x9, n9, c9, rfl, hlo9⟩ := ho9.lst; have H9 := Lib.hid hlo9; have HB9 := Lib.hid ((below_drewN HB6.out _).trans (hb9.mono (le_drewN HB6.out.size))); clear ho9 hb9 hlo9))
                go_ret3
                exact rdPut_of HF.out H9.out (HBW.out.trans (HB9.out.mono hwX))
end Go.Proofs.Ytlbebbkkpjgboaa
