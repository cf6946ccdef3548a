/-
  Chapter 10's model: a name is dropped.
-/
import Derived.Test.YtglajbmopiolhaaGreatDoorSet
import Derived.Deep.CutBlock
namespace Go.Proofs.YtglajbmopiolhaaGreatDoor
open Go.RowKit
set_option linter.unusedVariables false
/-- The entries that are left of a folder. -/
def leftE (l : List Ent) (nm : ByteArray) (p : Int) : List Ent := if 0 ≤ p then (putE l (nm, p)).1 else (dropE l nm).1
def endB (l : List Pc) (r : List Ent) : List Pc × Int × Bool := if r = [] then (l, -1, true) else putB l (folderB r)
def dropB : List Pc → Int → List ByteArray → List Pc × Int × Bool
  | l, p, [] => (l, -1, false)
  | l, p, nm :: r =>
    if lastE nm (-1) (foldL (getT l p)) < 0 then (l, -1, false)
    else if r = [] then endB l (leftE (foldL (getT l p)) nm (-1))
    else if (dropB l (lastE nm (-1) (foldL (getT l p))) r).2.2 = false then (l, -1, false)
    else endB (dropB l (lastE nm (-1) (foldL (getT l p))) r).1 (leftE (foldL (getT l p)) nm (dropB l (lastE nm (-1) (foldL (getT l p))) r).2.1)
theorem end_short {m : Nat} (hm : 49 ≤ m) {l : List Pc} {r : List Ent} (h : Short m l) : Short m (endB l r).1 := by
  unfold endB
  split
  · exact h
  · exact put_short h (Nat.le_trans (folderB_size _) hm)
theorem drop_short {m : Nat} (hm : 49 ≤ m) : ∀ {ps : List ByteArray} {l : List Pc} {p : Int}, Short m l → Short m (dropB l p ps).1
  | [], l, p, h => h
  | nm :: r, l, p, h => by
    have ih := drop_short hm (ps := r) (p := lastE nm (-1) (foldL (getT l p))) h
    rw [dropB]
    split
    · exact h
    split
    · exact end_short hm h
    split
    · exact h
    · exact end_short hm ih
theorem drop_names {l : List Ent} {nm : ByteArray} {m : Nat} (hz : ∀ k, (nthE l k).1.size ≤ m) : ∀ k, (nthE (dropE l nm).1 k).1.size ≤ m := by
  unfold dropE
  split
  · exact nthE_all.2 fun q hq => nthE_all.1 hz q ((List.mem_filter.1 hq).1)
  · intro k; simp [nthE]
theorem foldL_no0 {s : ByteArray} (h : isFold s = false) : foldL s = [] := by unfold foldL; rw [h]; rfl
set_option maxHeartbeats 2000000 in
set_option maxRecDepth 100000 in
theorem specDrop_any : ∀ (N : Nat) (ps : List ByteArray) (x y : Option Addr) (n cap m d : Nat) (l : List Pc) (p : Int) (B B1 : Nat) (w : World) (h : Pcs w B x n cap l) (h1 : Strs w B1 y m d ps) (hB : B ≤ w.heap.size) (hB1 : B1 ≤ w.heap.size) (hz : Short 1048576 l) (hz1 : ∀ k, (nthS ps k).size ≤ 1048576) (hm : m ≤ 1000) (h0 : 0 < ps.length) (hN : ps.length ≤ N),
    Calls Tryz.prog 80 #[.slice x n cap, .int .i64 p, .slice y m d] w (RdPut (dropB l p ps) w) := by
  intro N
  induction N with
  | zero => intro ps x y n cap m d l p B B1 w h h1 hB hB1 hz hz1 hm h0 hN; omega
  | succ N ih =>
    intro ps x y n cap m d l p B B1 w h h1 hB hB1 hz hz1 hm h0 hN
    obtain ⟨nm, r, rfl⟩ : ∃ nm r, ps = nm :: r := by
      cases ps with
      | nil => simp at h0
      | cons a b => exact ⟨a, b, rfl⟩
    have hm1 : m = r.length + 1 := by rw [← h1.len]; rfl
    have hle1 := h1.le
    have hmx1 := h1.max
    unfold maxLen at hmx1
    obtain ⟨b1, o1, rfl, hb1, hc1'⟩ := h1.atS (k := 0) (by omega)
    have HC1 := Lib.hid (show w.cell? ⟨b1, o1, none⟩ = some (.string nm) from hc1')
    have hNr : r.length ≤ N := by simp at hN; omega
    have HM1 := Lib.hid hm1
    have hmp : 0 < m := by omega
    have hmpi : (0 : Int) < (m : Int) := by omega
    clear hc1' hm1 h0 hN
    have hgz : (getT l p).size ≤ 1048576 := getT_size (short_nth hz)
    have HH := Lib.hid h; have HH1 := Lib.hid h1
    clear h h1
    go_enter Tryz.func80, Tryz.ntmps80
    go_wp2_with fail
    refine (specL4Get_any x n cap l p B _ HH.out).mono ?_
    rintro e w' ⟨rfl, hw⟩
    subst hw
    go_wp2_with fail
    refine (specReadFolder_any _ _ hgz).mono ?_
    rintro e WX ⟨v, rfl, ho, hb2⟩
    obtain ⟨xo, no, co, rfl, hlo⟩ := ho.lst
    have HLO := Lib.hid hlo; have HBW := Lib.hid hb2
    have hwX : w.heap.size ≤ WX.heap.size := hb2.size
    clear ho hb2 hlo
    have HPC := Lib.hid (show ∀ w', Below WX.heap.size WX w' → w'.cell? ⟨b1, o1, none⟩ = some (.string nm) from fun w' hb => by
      have hbb := HBW.out.trans (hb.mono hwX)
      exact (World.cell?_of_block (w := w) (w' := w') (a := ⟨b1, o1, none⟩) (hbb.block b1 (by omega))).trans HC1.out)
    have HLSF := Lib.hid (show ∀ w', Below WX.heap.size WX w' → Pcs w' B x n cap l from fun w' hb => HH.out.below (HBW.out.trans (hb.mono hwX)) hB)
    have HPSF := Lib.hid (show ∀ w', Below WX.heap.size WX w' → Strs w' B1 (some ⟨b1, o1, none⟩) m d (nm :: r) from fun w' hb => HH1.out.below (HBW.out.trans (hb.mono hwX)) hB1)
    have HEV := Lib.hid (fold_ents (s := getT l p))
    have HNO := Lib.hid (show isFold (getT l p) = false → foldL (getT l p) = [] from foldL_no0)
    have HDEF := Lib.hid (show dropB l p (nm :: r) = if lastE nm (-1) (foldL (getT l p)) < 0 then (l, -1, false)
        else if r = [] then endB l (leftE (foldL (getT l p)) nm (-1))
        else if (dropB l (lastE nm (-1) (foldL (getT l p))) r).2.2 = false then (l, -1, false)
        else endB (dropB l (lastE nm (-1) (foldL (getT l p))) r).1 (leftE (foldL (getT l p)) nm (dropB l (lastE nm (-1) (foldL (getT l p))) r).2.1) by rw [dropB])
    obtain ⟨E, hE⟩ : ∃ E, foldL (getT l p) = E := ⟨_, rfl⟩
    rw [hE] at HLO HEV HNO HDEF
    clear hE hgz
    obtain ⟨fo, hfo⟩ : ∃ fo, isFold (getT l p) = fo := ⟨_, rfl⟩
    rw [hfo] at HNO ⊢
    clear hfo
    have hlol := HLO.out.len
    have hno3 : no ≤ 3 := by have := (entsB_at HEV.out).1; omega
    go_upto_block 0 with fail
    go_cut [12, 13] from 27 to 54 (fun s12 s13 wx => s13 = .int .i64 (lastE nm (-1) E) ∧ ∃ q, wx = WX.drewN q)
    case first =>
      cases fo
      · have hE0 := HNO.out rfl
        have hn0 : no = 0 := by rw [← hlol, hE0]; rfl
        have HLE := Lib.hid (show lastE nm (-1) E = -1 by rw [hE0]; rfl)
        clear hE0 HLO HDEF HEV
        subst hn0
        go_wp2_with fail
        go_loopw [13, 14] (fun cv jv wq => cv = .int .i64 (-1) ∧ jv = .int .i64 0 ∧ ∃ q, wq = WX.drewN q) (fun _ jv _ => 0)
        case atStart => exact ⟨rfl, rfl, 0, rfl⟩
        case round =>
          obtain ⟨rfl, rfl, hq⟩ := hrel
          have HQ := Lib.hid hq; clear hq
          go_wp2_with fail
          go_meet
          case rel => exact ⟨by rw [HLE.out], HQ.out⟩
      · go_wp2_with fail
        go_loopw [13, 14] (fun cv jv wq => ∃ (j : Nat) (c : Int), j ≤ no ∧ jv = .int .i64 j ∧ cv = .int .i64 c ∧ lastE nm (-1) E = lastE nm c (E.drop j) ∧ ∃ q, wq = WX.drewN q) (fun _ jv _ => no - (intOf jv).toNat)
        case atStart => exact ⟨0, -1, by omega, rfl, rfl, by rw [List.drop_zero], 0, rfl⟩
        case round =>
          obtain ⟨j, c, hj, rfl, rfl, hf, hq⟩ := hrel
          have HFL := Lib.hid hf; have HQ := Lib.hid hq; clear hf hq
          have HB1 := Lib.hid (show Below WX.heap.size WX wr by obtain ⟨q, rfl⟩ := HQ.out; exact below_drewN (Below.refl _ _) q)
          have hpc := HPC.out _ HB1.out
          by_cases hjl : j < no
          · have hjl2 : j < E.length := by omega
            obtain ⟨b, off, rfl, hb, hc0, hcp⟩ := (HLO.out.below HB1.out (Nat.le_refl _)).atE hjl
            cases hmn : ((nthE E j).1.toList == nm.toList)
            · have HST := Lib.hid (HFL.out.trans (lastE_no hjl2 hmn))
              go_wp2
              go_quiet (fail)
              go_wp2
              go_roundw
              case rel => exact ⟨j + 1, _, by omega, by go_num, rfl, HST.out, by obtain ⟨q, rfl⟩ := HQ.out; exact ⟨_, by rw [World.drewN_drewN]⟩⟩
              case measure => simp [intOf]; omega
            · have HST := Lib.hid (HFL.out.trans (lastE_yes hjl2 hmn))
              go_wp2
              go_quiet (fail)
              go_wp2
              go_roundw
              case rel => exact ⟨j + 1, _, by omega, by go_num, rfl, HST.out, by obtain ⟨q, rfl⟩ := HQ.out; exact ⟨_, by rw [World.drewN_drewN]⟩⟩
              case measure => simp [intOf]; omega
          · have HST := Lib.hid (HFL.out.trans (lastE_end (by omega)))
            go_wp2_with fail
            go_meet
            case rel => exact ⟨by rw [HST.out], HQ.out⟩
    case rest =>
      rename World => wr
      obtain ⟨rfl, hq⟩ := hcut
      have HB1 := Lib.hid (show Below WX.heap.size WX wr by obtain ⟨q, rfl⟩ := hq; exact below_drewN (Below.refl _ _) q)
      have hpc := HPC.out _ HB1.out
      have hs1 := HB1.out.size
      clear hq HNO
      obtain ⟨c, hc⟩ : ∃ c, lastE nm (-1) E = c := ⟨_, rfl⟩
      rw [hc] at HDEF ⊢
      clear hc
      by_cases hcn : c < 0
      · have HF := Lib.hid (HDEF.out.trans (if_pos hcn))
        go_wp2_with fail
        go_ret3
        exact rdPut_of HF.out ((HLSF.out _ HB1.out).more (Nat.le_trans hB (Nat.le_trans hwX hs1))) (HBW.out.trans (HB1.out.mono hwX))
      have HD2 := Lib.hid (HDEF.out.trans (if_neg hcn))
      clear HDEF
      go_upto_if 60 with fail
      go_cut [0, 15, 16, 17, 18] from 60 to 74 (fun s0 s15 s16 s17 s18 wx => ∃ x5 n5 c5 L left, s0 = .slice x5 n5 c5 ∧ s15 = .int .i64 left ∧ Pcs wx wx.heap.size x5 n5 c5 L ∧ Below WX.heap.size WX wx ∧ Hid (dropB l p (nm :: r) = endB L (leftE E nm left)) ∧ Short 1048576 L)
      case first =>
        by_cases hr : r = []
        · have hd0 : ¬ (1 : Int) < (m : Int) := by have h2 := HM1.out; rw [hr] at h2; simp at h2; omega
          have HD3 := Lib.hid (HD2.out.trans (if_pos hr))
          clear HD2 hr
          go_wp2_with fail
          go_meet
          case rel => exact ⟨_, _, _, l, -1, rfl, rfl, (HLSF.out _ HB1.out).more (Nat.le_trans hB (Nat.le_trans hwX hs1)), HB1.out, HD3, hz⟩
        · have HD3 := Lib.hid (HD2.out.trans (if_neg hr))
          have hrl : 0 < r.length := List.length_pos_iff.2 hr
          have hd0 : (1 : Int) < (m : Int) := by have h2 := HM1.out; omega
          have hml1 : (1 : Int) ≤ (m : Int) := by omega
          have hd1 : ¬ d = 1 := by have h2 := HM1.out; omega
          have HRF := Lib.hid (show Strs wr B1 (some ⟨b1, o1 + 1, none⟩) (m - 1) (d - 1) r from Lst.rest encStr (HPSF.out wr HB1.out) (m := 1) (by have h2 := HM1.out; omega))
          clear HD2 hr
          go_wp2_with fail
          refine (ih r _ _ n cap _ _ l c B B1 _ (HLSF.out _ HB1.out) HRF.out (Nat.le_trans hB (Nat.le_trans hwX hs1)) (Nat.le_trans hB1 (Nat.le_trans hwX hs1)) hz (fun k => hz1 (k + 1)) (by omega) hrl hNr).mono ?_
          rintro e w5 ⟨x5, n5, c5, rfl, h5, hb5⟩
          have H5 := Lib.hid h5; have HB5 := Lib.hid (HB1.out.trans (hb5.mono hs1))
          have hz5 := drop_short (m := 1048576) (by decide) (ps := r) (p := c) hz
          clear h5 hb5
          obtain ⟨⟨L, q, g⟩, hL⟩ : ∃ R, dropB l c r = R := ⟨_, rfl⟩
          rw [hL] at HD3 H5 hz5 ⊢
          clear hL
          cases g
          · have HF := Lib.hid (HD3.out.trans (if_pos rfl))
            clear HD3
            go_wp2_with fail
            go_ret3
            exact rdPut_of HF.out ((HLSF.out _ HB5.out).more (Nat.le_trans hB (Nat.le_trans hwX HB5.out.size))) (HBW.out.trans (HB5.out.mono hwX))
          · have HD4 := Lib.hid (HD3.out.trans (if_neg (by simp)))
            clear HD3
            go_wp2_with fail
            go_meet
            case rel => exact ⟨_, _, _, L, q, rfl, rfl, H5.out, HB5.out, HD4, hz5⟩
      case rest =>
        rename World => w5
        obtain ⟨x5, n5, c5, L, left, rfl, rfl, h5, hb5, HD5, hz5⟩ := hcut
        have H5 := Lib.hid h5; have HB5 := Lib.hid hb5
        have hs5 := hb5.size
        have hpc5 := HPC.out _ hb5
        clear h5 hb5 hpc HD2
        have hzE : ∀ k, (nthE E k).1.size ≤ maxLen := fun k => Nat.le_trans (ents_sizes HEV.out k) (by unfold maxLen; omega)
        have hnmz : nm.size ≤ maxLen := Nat.le_trans (hz1 0) (by unfold maxLen; omega)
        go_wp2_with fail
        refine (specDropEntry_any xo no co E nm WX.heap.size _ (HLO.out.below HB5.out (Nat.le_refl _)) hs5 hzE hnmz).mono ?_
        rintro e w6 ⟨v6, rfl, ho6, hb6⟩
        obtain ⟨x6, n6, c6, rfl, hlo6⟩ := ho6.lst
        have HB6 := Lib.hid (HB5.out.trans (hb6.mono hs5)); have HLO6 := Lib.hid hlo6; have H56 := Lib.hid (H5.out.below hb6 (Nat.le_refl _))
        have hs6 := HB6.out.size
        have hs56 := hb6.size
        have hpc6 := HPC.out _ HB6.out
        clear ho6 hb6 hlo6
        have HLE := Lib.hid (show leftE E nm left = if 0 ≤ left then (putE E (nm, left)).1 else (dropE E nm).1 from rfl)
        go_upto_if 84 with fail
        go_cut [19] from 84 to 94 (fun s19 wx => ∃ x7 n7 c7, s19 = .slice x7 n7 c7 ∧ Ents wx wx.heap.size x7 n7 c7 (leftE E nm left) ∧ Below w6.heap.size w6 wx)
        case first =>
          by_cases hl : 0 ≤ left
          · have HE2 := Lib.hid (HLE.out.trans (if_pos hl))
            go_wp2_with fail
            refine (specPutEntry_any xo no co E (nm, left) WX.heap.size _ (HLO.out.below HB6.out (Nat.le_refl _)) hs6 hzE hnmz).mono ?_
            rintro e w7 ⟨v7, rfl, ho7, hb7⟩
            obtain ⟨x7, n7, c7, rfl, hlo7⟩ := ho7.lst
            have HB7 := Lib.hid hb7; have HLO7 := Lib.hid hlo7
            clear ho7 hb7 hlo7
            go_wp2_with fail
            go_meet
            case rel => exact ⟨_, _, _, rfl, by rw [HE2.out]; exact HLO7.out, HB7.out⟩
          · have HE2 := Lib.hid (HLE.out.trans (if_neg hl))
            go_wp2_with fail
            go_meet
            case rel => exact ⟨_, _, _, rfl, by rw [HE2.out]; exact HLO6.out, Below.refl _ _⟩
        case rest =>
          rename World => w7
          obtain ⟨x7, n7, c7, rfl, hlo7, hb7⟩ := hcut
          have HB7 := Lib.hid (HB6.out.trans (hb7.mono hs6)); have HLO7 := Lib.hid hlo7; have H57 := Lib.hid (H56.out.below hb7 hs56)
          have hs57 := Nat.le_trans hs56 hb7.size
          have hzM : ∀ k, (nthE (leftE E nm left) k).1.size ≤ maxLen := by
            rw [HLE.out]; split
            · exact put_names hzE hnmz
            · exact drop_names hzE
          have hz8 : ∀ k, (nthP L k).2.size ≤ maxLen := fun k => Nat.le_trans (short_nth hz5 k) (by unfold maxLen; omega)
          have hln := hlo7.len
          clear hlo7 hb7 HLE
          obtain ⟨R, hR⟩ : ∃ R, leftE E nm left = R := ⟨_, rfl⟩
          rw [hR] at HLO7 hzM hln HD5
          clear hR
          by_cases hn0 : n7 = 0
          · have HF := Lib.hid (HD5.out.trans (show endB L R = (L, -1, true) from if_pos (List.eq_nil_of_length_eq_zero (by omega))))
            subst hn0
            go_wp2_with fail
            go_ret3
            exact rdPut_of HF.out (H57.out.more hs57) (HBW.out.trans (HB7.out.mono hwX))
          · have HF := Lib.hid (HD5.out.trans (show endB L R = putB L (folderB R) from if_neg (fun e => hn0 (by rw [← hln, e]; rfl))))
            have hd7 : ((n7 : Int) == 0) = false := by simp; omega
            have hft : (folderB R).size ≤ maxLen := Nat.le_trans (folderB_size R) (by unfold maxLen; omega)
            go_wp2_with fail
            refine (specFolderText_any _ _ _ _ _ _ HLO7.out hzM).mono ?_
            rintro e w8 ⟨rfl, q8, rfl⟩
            go_wp2_with fail
            refine (specPutText_any x5 n5 c5 _ _ w5.heap.size _ (H57.out.drewN _) (le_drewN hs57) hz8 hft).mono ?_
            rintro e w9 ⟨v9, rfl, ho9, hb9⟩
            obtain ⟨x9, n9, c9, rfl, hlo9⟩ := ho9.lst
            have H9 := Lib.hid hlo9; have HB9 := Lib.hid ((below_drewN HB7.out _).trans (hb9.mono (le_drewN HB7.out.size)))
            clear ho9 hb9 hlo9
            go_wp2_with fail
            go_ret3
            exact rdPut_of HF.out H9.out (HBW.out.trans (HB9.out.mono hwX))
end Go.Proofs.YtglajbmopiolhaaGreatDoor
/-
  Chapter 10's model: writing and dropping at a path.
-/
namespace Go.Proofs.YtglajbmopiolhaaGreatDoor
open Go.RowKit
set_option linter.unusedVariables false
theorem specEmptyRoot_any (x : Option Addr) (n cap : Nat) (l : List Pc) (B : Nat) (w : World) (h : Pcs w B x n cap l) (hB : B ≤ w.heap.size) (hz : ∀ k, (nthP l k).2.size ≤ maxLen) : Calls Tryz.prog 81 #[.slice x n cap] w (RdPut (putB l (folderB [])) w) := by
  have hft : (folderB []).size ≤ maxLen := Nat.le_trans (folderB_size _) (by unfold maxLen; omega)
  have HLS := Lib.hid (h.alloc hB (.cells #[] 108))
  have HE := Lib.hid (OwnL.new enG 108 (size := 2) w)
  have HB0 := Lib.hid ((Below.refl w.heap.size w).alloc (Nat.le_refl _) (.cells #[] 108))
  go_enter Tryz.func81, Tryz.ntmps81
  go_wp2_with (first
    | (go_at_call 108; refine (specFolderText_any _ _ _ [] _ _ (OwnL.lst' HE.out) (fun k => by simp [nthE])).mono ?_; rintro e w1 ⟨rfl, q, rfl⟩)
    | (go_at_call 86; refine (specPutText_any x n cap l _ B _ (HLS.out.drewN _) (le_drewN (Nat.le_trans hB HB0.out.size)) hz hft).mono ?_; rintro e w2 ⟨v, rfl, ho, hb⟩; obtain ⟨x2, n2, c2, rfl, hlo⟩ := ho.lst; have HLO := Lib.hid hlo; have HB2 := Lib.hid ((below_drewN HB0.out _).trans (hb.mono (le_drewN HB0.out.size))); clear ho hb hlo))
  go_ret3
  exact ⟨_, _, _, rfl, HLO.out, HB2.out⟩
def writeB (l : List Pc) (root : Int) (path content : ByteArray) : List Pc × Int × Bool :=
  if (storeB l && isPath path && !decide (partsB path = []) && contentB content) = false then ([], -1, false)
  else if getO l root = false then (l, root, false)
  else if (setB (printB (fileB content)) l root (partsB path)).2.2 = false then (l, root, false)
  else if (putB (setB (printB (fileB content)) l root (partsB path)).1 (fileB content)).2.2 = false then (l, root, false)
  else ((putB (setB (printB (fileB content)) l root (partsB path)).1 (fileB content)).1, (setB (printB (fileB content)) l root (partsB path)).2.1, true)
def dropAtB (l : List Pc) (root : Int) (path : ByteArray) : List Pc × Int × Bool :=
  if (storeB l && isPath path && !decide (partsB path = [])) = false then ([], -1, false)
  else if (walkB l root (partsB path)).2 = false then (l, root, false)
  else if ((dropB l root (partsB path)).2.2 && decide ((dropB l root (partsB path)).2.1 < 0)) = true then
    (if (putB (dropB l root (partsB path)).1 (folderB [])).2.2 = false then (l, root, false) else ((putB (dropB l root (partsB path)).1 (folderB [])).1, (putB (dropB l root (partsB path)).1 (folderB [])).2.1, true))
  else if (dropB l root (partsB path)).2.2 = false then (l, root, false)
  else ((dropB l root (partsB path)).1, (dropB l root (partsB path)).2.1, true)
theorem nthS_all {l : List ByteArray} {m : Nat} (h : ∀ q ∈ l, q.size ≤ m) (k : Nat) : (nthS l k).size ≤ m := by
  by_cases hk : k < l.length
  · rw [nthS_get hk]; exact h _ (List.getElem_mem _)
  · unfold nthS; rw [List.getD_eq_getElem?_getD, List.getElem?_eq_none (by omega)]; simp
/-- The words of a path are few and short. -/
theorem parts_small {s : ByteArray} : (partsB s).length ≤ 3 ∧ ∀ k, (nthS (partsB s) k).size ≤ 8 := by
  unfold partsB
  split
  · exact ⟨by simp, fun k => by simp [nthS]⟩
  · split
    · rename_i h0 h1
      unfold isPath at h1
      rw [decide_eq_false h0, Bool.false_or, Bool.and_eq_true, decide_eq_true_eq, decide_eq_true_eq] at h1
      have h2 := h1.2
      unfold pathB at h2
      split at h2
      · rename_i h3; rw [h3]; exact ⟨by simp, fun k => by simp [nthS]⟩
      · split at h2
        · rename_i h4
          simp only [Bool.and_eq_true, decide_eq_true_eq] at h4
          exact ⟨h4.2, nthS_all fun q hq => word_size (List.all_eq_true.1 h4.1 q hq)⟩
        · rw [← h2] at h1; exact absurd h1.1 (by decide)
    · exact ⟨by simp, fun k => by simp [nthS]⟩
theorem text_size {s : ByteArray} (h : textB s = true) : s.size ≤ 60 := by
  rcases Nat.lt_or_ge 60 s.size with h2 | h2
  · rw [textV_long _ h2] at h; cases h
  · exact h2
theorem fileB_size (s : ByteArray) : (fileB s).size ≤ 61 := by
  cases h : contentB s
  · rw [fileB_no h]; decide
  · rw [fileB_yes h, ByteArray.size_append]
    unfold contentB at h
    rw [Bool.and_eq_true] at h
    have := text_size h.1
    show 1 + _ ≤ 61
    omega
theorem putB_few (l : List Pc) (t : ByteArray) : (putB l t).1.length ≤ 40 := by
  cases h : storeB l
  · rw [putB_bad h]; simp
  · have h40 := (storeB_at h).1
    have hat := atP_le (printB t) l
    unfold putB putL
    rw [if_neg (by rw [h]; simp)]
    repeat' split
    all_goals simp
    all_goals omega
section
variable {ops : Array Oper} {rest : List Oper} {o : Oper} {a : Act} {Q : Exit → Act → World → Prop}
variable {t e : TypeId} {size : Nat} {z : Value} {w : World}
/-- A list appended to a new row: a row of the call's own with the list in it. -/
theorem wpList_fresh {α : Type} {g : α → List Value} (T : Elt t e size z) (E : Enc g size) {B m c : Nat} {x : Option Addr} {l : List α} (hr : Lst g w B x m c l) (hB : B ≤ w.heap.size) (hm : m ≤ 2000000)
    (hgd : o.guard = none) (s y : Operand) (ho : o.op = .call { callee := .builtin .append, args := #[s, y], argTypes := #[t, t] }) (hs : a.eval s = .slice (some ⟨w.heap.size, 0, none⟩) 0 0) (hy : a.eval y = .slice x m c)
    (h : ∀ v' w', OwnL g e size w' w.heap.size v' l → Below w.heap.size w w' → wpList Tryz.prog ops Q rest (a.put o.dst v') w') : wpList Tryz.prog ops Q (o :: rest) a (w.alloc (.cells #[] e)) :=
  wpList_appL T E (OwnL.newAt g e (size := size) (base := w.heap.size) rfl (Nat.le_refl _)) (hr.alloc hB _) (Nat.zero_le _) hm (le_alloc (Nat.le_refl _) _) hgd s y ho hs hy fun v' w' hown hgr hat =>
    h v' w' (by simpa using hown) (((Below.refl w.heap.size w).alloc (Nat.le_refl _) _).grown hgr (le_alloc (Nat.le_refl _) _) (fun q e' => OwnL.at (OwnL.newAt g e (size := size) (base := w.heap.size) rfl (Nat.le_refl _)) q e'))
end
set_option maxHeartbeats 1000000 in
set_option maxRecDepth 100000 in
theorem specWriteAt_any (x : Option Addr) (n cap : Nat) (l : List Pc) (root : Int) (path content : ByteArray) (B : Nat) (w : World) (h : Pcs w B x n cap l) (hB : B ≤ w.heap.size) (hzm : ∀ k, (nthP l k).2.size ≤ maxLen) (hpz : path.size ≤ 1048576) (hcz : content.size ≤ 1048576) :
    Calls Tryz.prog 52 #[.slice x n cap, .int .i64 root, .string path, .string content] w (RdPut (writeB l root path content) w) := by
  have hcm : content.size ≤ maxLen := by unfold maxLen; omega
  have hfz : (fileB content).size ≤ maxLen := Nat.le_trans (fileB_size _) (by unfold maxLen; omega)
  have HNL := Lib.hid h.len
  have HH := Lib.hid h
  clear h
  go_enter Tryz.func52, Tryz.ntmps52
  go_wp2_with fail
  refine (specPathParts_any path _ hpz).mono ?_
  rintro e w1 ⟨v, rfl, ho, hb⟩
  obtain ⟨y, m, d, rfl, hlo⟩ := ho.lst
  have HPS := Lib.hid hlo; have HB1 := Lib.hid hb; have HML := Lib.hid hlo.len
  have hw1 := hb.size
  clear ho hb hlo
  go_upto_region 2 with fail
  go_cut [12, 43] from 22 to 43 (fun s12 s43 wx => s43 = .bool (!(storeB l && isPath path && !decide (partsB path = []) && contentB content)) ∧ ∃ q, wx = w1.drewN q)
  case first =>
    have HS1 := Lib.hid (HH.out.below HB1.out hB)
    cases hs : storeB l
    · go_wp2_with (go_at_call 39; refine (specStoreValid_any x n cap l B _ HS1.out hzm).mono ?_; rintro e w2 ⟨rfl, hq⟩; rw [hs]; have HQ2 := Lib.hid hq; clear hq)
      go_meet
      case rel => exact ⟨by rw [hs]; rfl, HQ2.out⟩
    cases hp : isPath path
    · go_wp2_with (go_at_call 39; refine (specStoreValid_any x n cap l B _ HS1.out hzm).mono ?_; rintro e w2 ⟨rfl, hq⟩; rw [hs]; have HQ2 := Lib.hid hq; clear hq)
      go_meet
      case rel => exact ⟨by rw [hs, hp]; rfl, HQ2.out⟩
    by_cases hne : partsB path = []
    · have hm0 : ((m : Int) == 0) = true := by have h9 := HML.out; rw [hne] at h9; simp at h9; simp; omega
      have HT := Lib.hid (decide_eq_true hne)
      clear hne
      go_wp2_with (go_at_call 39; refine (specStoreValid_any x n cap l B _ HS1.out hzm).mono ?_; rintro e w2 ⟨rfl, hq⟩; rw [hs]; have HQ2 := Lib.hid hq; clear hq)
      go_meet
      case rel => exact ⟨by rw [hs, hp, HT.out]; rfl, HQ2.out⟩
    have hm0 : ((m : Int) == 0) = false := by have h9 := HML.out; have h10 := List.length_pos_iff.2 hne; simp; omega
    have HT := Lib.hid (decide_eq_false hne)
    clear hne
    cases hc : contentB content
    all_goals
      go_wp2_with (first
        | (go_at_call 39; refine (specStoreValid_any x n cap l B _ HS1.out hzm).mono ?_; rintro e w2 ⟨rfl, hq⟩; rw [hs]; have HQ2 := Lib.hid hq; clear hq)
        | (go_at_call 82; refine (specContentValid_any content _ hcm).mono ?_; rintro e w' ⟨rfl, rfl⟩; rw [hc]))
      go_meet
      case rel => exact ⟨by rw [hs, hp, HT.out, hc]; rfl, HQ2.out⟩
  case rest =>
    rename World => w2
    obtain ⟨rfl, hq⟩ := hcut
    have HB2 := Lib.hid (below_quiet HB1.out hq); have HP2 := Lib.hid (HPS.out.quiet hq)
    have hw2 : w1.heap.size = w2.heap.size := (size_quiet hq).symm
    have hsz2 := HB2.out.size
    clear hq
    cases hT : storeB l && isPath path && !decide (partsB path = []) && contentB content
    · have HF := Lib.hid (show writeB l root path content = ([], -1, false) by unfold writeB; rw [if_pos hT])
      have HO := Lib.hid (OwnL.lst' (OwnL.new pcG 57 (size := 2) w2))
      clear hT
      go_wp2_with fail
      go_ret3
      exact rdPut_of HF.out HO.out (HB2.out.alloc hsz2 _)
    have HW := Lib.hid (show writeB l root path content = if getO l root = false then (l, root, false)
      else if (setB (printB (fileB content)) l root (partsB path)).2.2 = false then (l, root, false)
      else if (putB (setB (printB (fileB content)) l root (partsB path)).1 (fileB content)).2.2 = false then (l, root, false)
      else ((putB (setB (printB (fileB content)) l root (partsB path)).1 (fileB content)).1, (setB (printB (fileB content)) l root (partsB path)).2.1, true) by
      unfold writeB; rw [if_neg (by rw [hT]; simp)])
    have hs : storeB l = true := by
      cases hs : storeB l
      · rw [hs] at hT; cases hT
      · rfl
    have hn40 : n ≤ 2000000 := by have := (storeB_at hs).1; have := HNL.out; omega
    have hzs : Short 1048576 l := fun q hq => Nat.le_trans (store_short hs q hq) (by decide)
    have hps : ∀ k, (nthS (partsB path) k).size ≤ 1048576 := fun k => Nat.le_trans (parts_small.2 k) (by decide)
    have hm3 : m ≤ 1000 := by have h9 := HML.out; have h10 := (parts_small (s := path)).1; omega
    clear hT hs
    go_wp2_with (at_builtin; refine wpList_fresh eltPc encPc (HH.out.below HB2.out hB) (Nat.le_trans hB hsz2) hn40 rfl _ _ rfl rfl rfl ?_; intro v3 w3 hown hb3; obtain ⟨x3, n3, c3, rfl, hl3⟩ := hown.lst; have H3 := Lib.hid hl3; have HB3 := Lib.hid (HB2.out.trans (hb3.mono hsz2)); have HP3 := Lib.hid (HP2.out.below hb3 (by omega)); have hs23 := hb3.size; clear hown hb3 hl3)
    have hw3 := HB3.out.size
    refine (specL4Get_any x n cap l root B _ (HH.out.below HB3.out hB)).mono ?_
    rintro e w' ⟨rfl, hw⟩
    subst hw
    cases hg : getO l root
    · have HF := Lib.hid (HW.out.trans (if_pos hg))
      go_wp2_with fail
      go_ret3
      exact rdPut_of HF.out H3.out HB3.out
    have HW2 := Lib.hid (HW.out.trans (if_neg (by rw [hg]; simp)))
    clear HW
    go_wp2_with fail
    refine (specFileText_any content _ (Nat.le_trans hcz (by decide))).mono ?_
    rintro e w' ⟨rfl, hw⟩
    subst hw
    go_wp2_with fail
    refine (specPrintOf_any _ _ hfz).mono ?_
    rintro e w' ⟨rfl, hw⟩
    subst hw
    go_wp2_with fail
    refine (specSet_any (printB (fileB content)) (partsB path) x y n cap m d l root B w1.heap.size _ (HH.out.below HB3.out hB) HP3.out (Nat.le_trans hB hw3) (by omega) hzs hps hm3).mono ?_
    rintro e w5 ⟨x5, n5, c5, rfl, h5, hb5⟩
    have H5 := Lib.hid h5; have H35 := Lib.hid ((H3.out.below hb5 (Nat.le_refl _)).more hb5.size); have HB5 := Lib.hid (HB3.out.trans (hb5.mono hw3))
    have hw5 := HB5.out.size
    have hz5 : ∀ k, (nthP (setB (printB (fileB content)) l root (partsB path)).1 k).2.size ≤ maxLen := fun k => Nat.le_trans (short_nth (set_short (m := 1048576) (by decide) hzs) k) (by unfold maxLen; omega)
    clear h5 hb5
    obtain ⟨⟨L, q, g⟩, hL⟩ : ∃ R, setB (printB (fileB content)) l root (partsB path) = R := ⟨_, rfl⟩
    rw [hL] at HW2 H5 hz5 ⊢
    clear hL
    cases g
    · have HF := Lib.hid (HW2.out.trans (if_pos rfl))
      go_wp2_with fail
      go_ret3
      exact rdPut_of HF.out H35.out HB5.out
    have HW3 := Lib.hid (HW2.out.trans (if_neg (by simp)))
    clear HW2
    go_wp2_with fail
    refine (specFileText_any content _ (Nat.le_trans hcz (by decide))).mono ?_
    rintro e w' ⟨rfl, hw⟩
    subst hw
    go_wp2_with fail
    refine (specPutText_any x5 n5 c5 _ (fileB content) w5.heap.size _ H5.out (Nat.le_refl _) hz5 hfz).mono ?_
    rintro e w6 ⟨v6, rfl, ho6, hb6⟩
    obtain ⟨x6, n6, c6, rfl, hl6⟩ := ho6.lst
    have H6 := Lib.hid hl6; have H36 := Lib.hid ((H35.out.below hb6 (Nat.le_refl _)).more hb6.size); have HB6 := Lib.hid (HB5.out.trans (hb6.mono hw5))
    have hw6 := HB6.out.size
    have hn6 : n6 ≤ 2000000 := by have h9 := hl6.len; have h10 := putB_few L (fileB content); omega
    clear ho6 hb6 hl6
    obtain ⟨⟨M, q6, g6⟩, hM⟩ : ∃ R, putB L (fileB content) = R := ⟨_, rfl⟩
    simp only [hM] at HW3 H6 ⊢
    clear hM
    cases g6
    · have HF := Lib.hid (HW3.out.trans (if_pos rfl))
      go_wp2_with fail
      go_ret3
      exact rdPut_of HF.out H36.out HB6.out
    have HF := Lib.hid (HW3.out.trans (if_neg (by simp)))
    clear HW3
    go_wp2_with (at_builtin; refine wpList_fresh eltPc encPc H6.out (Nat.le_refl _) hn6 rfl _ _ rfl rfl rfl ?_; intro v7 w7 hown hb7; obtain ⟨x7, n7, c7, rfl, hl7⟩ := hown.lst; have H7 := Lib.hid hl7; have HB7 := Lib.hid (HB6.out.trans (hb7.mono hw6)); clear hown hb7 hl7)
    go_ret3
    exact rdPut_of HF.out H7.out HB7.out
end Go.Proofs.YtglajbmopiolhaaGreatDoor
/-
  Chapter 10's model: dropping at a path.
-/
namespace Go.Proofs.YtglajbmopiolhaaGreatDoor
open Go.RowKit
set_option linter.unusedVariables false
theorem end_few {l : List Pc} {r : List Ent} (h : l.length ≤ 40) : (endB l r).1.length ≤ 40 := by
  unfold endB
  split
  · exact h
  · exact putB_few _ _
theorem drop_few : ∀ {ps : List ByteArray} {l : List Pc} {p : Int}, l.length ≤ 40 → (dropB l p ps).1.length ≤ 40
  | [], l, p, h => h
  | nm :: r, l, p, h => by
    have ih := drop_few (ps := r) (p := lastE nm (-1) (foldL (getT l p))) h
    rw [dropB]
    split
    · exact h
    split
    · exact end_few h
    split
    · exact h
    · exact end_few ih
set_option maxHeartbeats 1000000 in
set_option maxRecDepth 100000 in
theorem specDropAt_any (x : Option Addr) (n cap : Nat) (l : List Pc) (root : Int) (path : ByteArray) (B : Nat) (w : World) (h : Pcs w B x n cap l) (hB : B ≤ w.heap.size) (hzm : ∀ k, (nthP l k).2.size ≤ maxLen) (hpz : path.size ≤ 1048576) :
    Calls Tryz.prog 51 #[.slice x n cap, .int .i64 root, .string path] w (RdPut (dropAtB l root path) w) := by
  have HNL := Lib.hid h.len
  have HH := Lib.hid h
  clear h
  go_enter Tryz.func51, Tryz.ntmps51
  go_wp2_with fail
  refine (specPathParts_any path _ hpz).mono ?_
  rintro e w1 ⟨v, rfl, ho, hb⟩
  obtain ⟨y, m, d, rfl, hlo⟩ := ho.lst
  have HPS := Lib.hid hlo; have HB1 := Lib.hid hb; have HML := Lib.hid hlo.len
  have hw1 := hb.size
  clear ho hb hlo
  go_upto_region 2 with fail
  go_cut [10, 33] from 17 to 33 (fun s10 s33 wx => s33 = .bool (!(storeB l && isPath path && !decide (partsB path = []))) ∧ ∃ q, wx = w1.drewN q)
  case first =>
    have HS1 := Lib.hid (HH.out.below HB1.out hB)
    cases hs : storeB l
    · go_wp2_with (go_at_call 39; refine (specStoreValid_any x n cap l B _ HS1.out hzm).mono ?_; rintro e w2 ⟨rfl, hq⟩; rw [hs]; have HQ2 := Lib.hid hq; clear hq)
      go_meet
      case rel => exact ⟨by rw [hs]; rfl, HQ2.out⟩
    cases hp : isPath path
    · go_wp2_with (go_at_call 39; refine (specStoreValid_any x n cap l B _ HS1.out hzm).mono ?_; rintro e w2 ⟨rfl, hq⟩; rw [hs]; have HQ2 := Lib.hid hq; clear hq)
      go_meet
      case rel => exact ⟨by rw [hs, hp]; rfl, HQ2.out⟩
    by_cases hne : partsB path = []
    · have hm0 : ((m : Int) == 0) = true := by have h9 := HML.out; rw [hne] at h9; simp at h9; simp; omega
      have HT := Lib.hid (decide_eq_true hne)
      clear hne
      go_wp2_with (go_at_call 39; refine (specStoreValid_any x n cap l B _ HS1.out hzm).mono ?_; rintro e w2 ⟨rfl, hq⟩; rw [hs]; have HQ2 := Lib.hid hq; clear hq)
      go_meet
      case rel => exact ⟨by rw [hs, hp, HT.out]; rfl, HQ2.out⟩
    have hm0 : ((m : Int) == 0) = false := by have h9 := HML.out; have h10 := List.length_pos_iff.2 hne; simp; omega
    have HT := Lib.hid (decide_eq_false hne)
    clear hne
    go_wp2_with (go_at_call 39; refine (specStoreValid_any x n cap l B _ HS1.out hzm).mono ?_; rintro e w2 ⟨rfl, hq⟩; rw [hs]; have HQ2 := Lib.hid hq; clear hq)
    go_meet
    case rel => exact ⟨by rw [hs, hp, HT.out]; rfl, HQ2.out⟩
  case rest =>
    rename World => w2
    obtain ⟨rfl, hq⟩ := hcut
    have HB2 := Lib.hid (below_quiet HB1.out hq); have HP2 := Lib.hid (HPS.out.quiet hq)
    have hw2 : w1.heap.size = w2.heap.size := (size_quiet hq).symm
    have hsz2 := HB2.out.size
    clear hq
    cases hT : storeB l && isPath path && !decide (partsB path = [])
    · have HF := Lib.hid (show dropAtB l root path = ([], -1, false) by unfold dropAtB; rw [if_pos hT])
      have HO := Lib.hid (OwnL.lst' (OwnL.new pcG 57 (size := 2) w2))
      clear hT
      go_wp2_with fail
      go_ret3
      exact rdPut_of HF.out HO.out (HB2.out.alloc hsz2 _)
    have HW := Lib.hid (show dropAtB l root path = if (walkB l root (partsB path)).2 = false then (l, root, false)
      else if ((dropB l root (partsB path)).2.2 && decide ((dropB l root (partsB path)).2.1 < 0)) = true then
        (if (putB (dropB l root (partsB path)).1 (folderB [])).2.2 = false then (l, root, false) else ((putB (dropB l root (partsB path)).1 (folderB [])).1, (putB (dropB l root (partsB path)).1 (folderB [])).2.1, true))
      else if (dropB l root (partsB path)).2.2 = false then (l, root, false)
      else ((dropB l root (partsB path)).1, (dropB l root (partsB path)).2.1, true) by
      unfold dropAtB; rw [if_neg (by rw [hT]; simp)])
    have hpl : 0 < (partsB path).length := List.length_pos_iff.2 (fun e => by rw [e, decide_eq_true rfl, Bool.not_true, Bool.and_false] at hT; cases hT)
    have hs : storeB l = true := by
      cases hs : storeB l
      · rw [hs] at hT; cases hT
      · rfl
    have hl40 := (storeB_at hs).1
    have hn40 : n ≤ 2000000 := by have := HNL.out; omega
    have hzs : Short 1048576 l := fun q hq => Nat.le_trans (store_short hs q hq) (by decide)
    have hps : ∀ k, (nthS (partsB path) k).size ≤ 1048576 := fun k => Nat.le_trans (parts_small.2 k) (by decide)
    have hm3 : m ≤ 1000 := by have h9 := HML.out; have h10 := (parts_small (s := path)).1; omega
    clear hT hs
    go_wp2_with (at_builtin; refine wpList_fresh eltPc encPc (HH.out.below HB2.out hB) (Nat.le_trans hB hsz2) hn40 rfl _ _ rfl rfl rfl ?_; intro v3 w3 hown hb3; obtain ⟨x3, n3, c3, rfl, hl3⟩ := hown.lst; have H3 := Lib.hid hl3; have HB3 := Lib.hid (HB2.out.trans (hb3.mono hsz2)); have HP3 := Lib.hid (HP2.out.below hb3 (by omega)); have hs23 := hb3.size; clear hown hb3 hl3)
    have hw3 := HB3.out.size
    refine (specWalk_any x y n cap m d l (partsB path) root B w1.heap.size _ (HH.out.below HB3.out hB) HP3.out (Nat.le_trans hB hw3) (by omega) (short_nth hzs)).mono ?_
    rintro e w4 ⟨rfl, hb4⟩
    have H34 := Lib.hid ((H3.out.below hb4 (Nat.le_refl _)).more hb4.size); have HB4 := Lib.hid (HB3.out.trans (hb4.mono hw3)); have HP4 := Lib.hid (HP3.out.below hb4 (by omega))
    have hw4 := HB4.out.size
    have hs34 := hb4.size
    clear hb4
    obtain ⟨⟨cw, gw⟩, hg⟩ : ∃ R, walkB l root (partsB path) = R := ⟨_, rfl⟩
    rw [hg] at HW ⊢
    clear hg
    cases gw
    · have HF := Lib.hid (HW.out.trans (if_pos rfl))
      go_wp2_with fail
      go_ret3
      exact rdPut_of HF.out H34.out HB4.out
    have HW2 := Lib.hid (HW.out.trans (if_neg (by simp)))
    clear HW
    go_wp2_with fail
    refine (specDrop_any _ (partsB path) x y n cap m d l root B w1.heap.size _ (HH.out.below HB4.out hB) HP4.out (Nat.le_trans hB hw4) (by omega) hzs hps hm3 hpl (Nat.le_refl _)).mono ?_
    rintro e w5 ⟨x5, n5, c5, rfl, h5, hb5⟩
    have H5 := Lib.hid h5; have H35 := Lib.hid ((H34.out.below hb5 (Nat.le_refl _)).more hb5.size); have HB5 := Lib.hid (HB4.out.trans (hb5.mono hw4))
    have hw5 := HB5.out.size
    have hz5 : ∀ k, (nthP (dropB l root (partsB path)).1 k).2.size ≤ maxLen := fun k => Nat.le_trans (short_nth (drop_short (m := 1048576) (by decide) hzs) k) (by unfold maxLen; omega)
    have hd40 := drop_few (ps := partsB path) (p := root) hl40
    have hln5 := h5.len
    clear h5 hb5
    obtain ⟨⟨L, q, g⟩, hL⟩ : ∃ R, dropB l root (partsB path) = R := ⟨_, rfl⟩
    rw [hL] at HW2 H5 hz5 hd40 hln5 ⊢
    clear hL
    go_upto_region 9 with fail
    go_cut [61] from 57 to 61 (fun s61 wx => s61 = .bool (g && decide (q < 0)) ∧ w5 = wx)
    case first =>
      cases g
      · go_wp2_with fail
        go_meet
        case rel => exact ⟨rfl, rfl⟩
      · by_cases hneg : q < 0
        · have HT := Lib.hid (decide_eq_true hneg)
          go_wp2_with fail
          go_meet
          case rel => exact ⟨by rw [HT.out]; rfl, rfl⟩
        · have HT := Lib.hid (decide_eq_false hneg)
          go_wp2_with fail
          go_meet
          case rel => exact ⟨by rw [HT.out]; rfl, rfl⟩
    obtain ⟨rfl, rfl⟩ := hcut
    have HTH := Lib.hid (show (g = false → (g && decide (q < 0)) = false) ∧ (g = true → q < 0 → (g && decide (q < 0)) = true) ∧ (g = true → ¬ q < 0 → (g && decide (q < 0)) = false) from ⟨fun e => by rw [e]; rfl, fun e h => by rw [e, decide_eq_true h]; rfl, fun e h => by rw [e, decide_eq_false h]; rfl⟩)
    obtain ⟨th, hth⟩ : ∃ th, (g && decide (q < 0)) = th := ⟨_, rfl⟩
    rw [hth] at HTH ⊢
    clear hth
    go_upto_if 61 with fail
    go_cut [14, 15, 16] from 49 to 67 (fun s14 s15 s16 wx => ∃ x6 n6 c6 M q6 g6, s14 = .slice x6 n6 c6 ∧ s15 = .int .i64 q6 ∧ s16 = .bool g6 ∧ Pcs wx wx.heap.size x6 n6 c6 M ∧ Below w5.heap.size w5 wx ∧ M.length ≤ 40 ∧ Hid (dropAtB l root path = if g6 = false then (l, root, false) else (M, q6, true)))
    case first =>
      cases g
      · have HX := Lib.hid (HW2.out.trans (show _ = (l, root, false) from rfl))
        have hth := HTH.out.1 rfl
        subst hth
        go_wp2_with fail
        go_meet
        case rel => exact ⟨_, _, _, L, q, false, rfl, rfl, rfl, H5.out, Below.refl _ _, hd40, HX⟩
      · by_cases hneg : q < 0
        · have HX := Lib.hid (HW2.out.trans (if_pos (by rw [decide_eq_true hneg]; rfl)))
          have hth := HTH.out.2.1 rfl hneg
          subst hth
          go_wp2_with fail
          refine (specEmptyRoot_any x5 n5 c5 _ w5.heap.size _ H5.out (Nat.le_refl _) hz5).mono ?_
          rintro e w6 ⟨x6, n6, c6, rfl, h6, hb6⟩
          have H6 := Lib.hid h6; have HB6 := Lib.hid hb6
          have hf := putB_few L (folderB [])
          clear h6 hb6
          obtain ⟨⟨M, q6, g6⟩, hM⟩ : ∃ R, putB L (folderB []) = R := ⟨_, rfl⟩
          rw [hM] at hf
          simp only [hM] at HX H6 ⊢
          clear hM
          go_wp2_with fail
          go_meet
          case rel => exact ⟨_, _, _, M, q6, g6, rfl, rfl, rfl, H6.out, HB6.out, hf, HX⟩
        · have HX := Lib.hid (HW2.out.trans (show _ = (L, q, true) by rw [if_neg (by rw [decide_eq_false hneg]; simp)]; rfl))
          have hth := HTH.out.2.2 rfl hneg
          subst hth
          go_wp2_with fail
          go_meet
          case rel => exact ⟨_, _, _, L, q, true, rfl, rfl, rfl, H5.out, Below.refl _ _, hd40, HX⟩
    case rest =>
      rename World => w6
      obtain ⟨x6, n6, c6, M, q6, g6, rfl, rfl, rfl, h6, hb6, hM, HX⟩ := hcut
      have H6 := Lib.hid h6; have H36 := Lib.hid ((H35.out.below hb6 (Nat.le_refl _)).more hb6.size); have HB6 := Lib.hid (HB5.out.trans (hb6.mono hw5))
      have hw6 := HB6.out.size
      have hn6 : n6 ≤ 2000000 := by have h9 := h6.len; omega
      clear h6 hb6 HW2 HTH
      cases g6
      · have HF := Lib.hid (HX.out.trans (if_pos rfl))
        go_wp2_with fail
        go_ret3
        exact rdPut_of HF.out H36.out HB6.out
      have HF := Lib.hid (HX.out.trans (if_neg (by simp)))
      go_wp2_with (at_builtin; refine wpList_fresh eltPc encPc H6.out (Nat.le_refl _) hn6 rfl _ _ rfl rfl rfl ?_; intro v7 w7 hown hb7; obtain ⟨x7, n7, c7, rfl, hl7⟩ := hown.lst; have H7 := Lib.hid hl7; have HB7 := Lib.hid (HB6.out.trans (hb7.mono hw6)); clear hown hb7 hl7)
      go_ret3
      exact rdPut_of HF.out H7.out HB7.out
end Go.Proofs.YtglajbmopiolhaaGreatDoor
