/-
  Chapter 10's model: a print is set at names.
-/
import Derived.Test.YtglajbmopiolhaaGreatDoorEnts
import Derived.Test.YtglajbmopiolhaaGreatDoorEntries2
import Derived.Deep.CutRange
namespace Go.Proofs.YtglajbmopiolhaaGreatDoor
open Go.RowKit
set_option linter.unusedVariables false
/-- The print of the last entry with a name, or what there was. -/
def lastE (nm : ByteArray) : Int → List Ent → Int
  | c, [] => c
  | c, q :: r => lastE nm (if (q.1.toList == nm.toList) = true then q.2 else c) r
theorem lastE_yes {l : List Ent} {nm : ByteArray} {c : Int} {j : Nat} (h : j < l.length) (hn : ((nthE l j).1.toList == nm.toList) = true) : lastE nm c (l.drop j) = lastE nm (nthE l j).2 (l.drop (j + 1)) := by
  rw [List.drop_eq_getElem_cons h, lastE, ← nthE_get h, if_pos hn]
theorem lastE_no {l : List Ent} {nm : ByteArray} {c : Int} {j : Nat} (h : j < l.length) (hn : ((nthE l j).1.toList == nm.toList) = false) : lastE nm c (l.drop j) = lastE nm c (l.drop (j + 1)) := by
  rw [List.drop_eq_getElem_cons h, lastE, ← nthE_get h, if_neg (by rw [hn]; simp)]
theorem lastE_end {l : List Ent} {nm : ByteArray} {c : Int} {j : Nat} (h : l.length ≤ j) : lastE nm c (l.drop j) = c := by rw [List.drop_of_length_le h]; rfl
/-- The entries of the folder of a print; none of a print below 0. -/
def entsAt (l : List Pc) (p : Int) : List Ent := if 0 ≤ p then foldL (getT l p) else []
def setB (leaf : Int) : List Pc → Int → List ByteArray → List Pc × Int × Bool
  | l, p, [] => (l, leaf, true)
  | l, p, nm :: r =>
    if (decide (0 ≤ p) && !isFold (getT l p)) = true then (l, -1, false)
    else if (decide (r = []) && decide (0 ≤ lastE nm (-1) (entsAt l p)) && (!getO l (lastE nm (-1) (entsAt l p)) || !decide (kindB (getT l (lastE nm (-1) (entsAt l p))) = 1))) = true then (l, -1, false)
    else if (setB leaf l (lastE nm (-1) (entsAt l p)) r).2.2 = false then ((setB leaf l (lastE nm (-1) (entsAt l p)) r).1, -1, false)
    else if (putE (entsAt l p) (nm, (setB leaf l (lastE nm (-1) (entsAt l p)) r).2.1)).2 = false then ((setB leaf l (lastE nm (-1) (entsAt l p)) r).1, -1, false)
    else putB (setB leaf l (lastE nm (-1) (entsAt l p)) r).1 (folderB (putE (entsAt l p) (nm, (setB leaf l (lastE nm (-1) (entsAt l p)) r).2.1)).1)
/-- A store that can be read, a print and a bool. -/
def RdPut (t : List Pc × Int × Bool) (w : World) (e : Ending) (w' : World) : Prop := ∃ x n c, e = .returned (.tuple #[.slice x n c, .int .i64 t.2.1, .bool t.2.2]) ∧ Pcs w' w'.heap.size x n c t.1 ∧ Below w.heap.size w w'
theorem rdPut_of {t : List Pc × Int × Bool} {l : List Pc} {p : Int} {b : Bool} {w w' : World} {x : Option Addr} {n c : Nat} (h : t = (l, p, b)) (hr : Pcs w' w'.heap.size x n c l) (hb : Below w.heap.size w w') : RdPut t w (.returned (.tuple #[.slice x n c, .int .i64 p, .bool b])) w' := by rw [h]; exact ⟨x, n, c, rfl, hr, hb⟩
theorem fold_ents {s : ByteArray} : entsB (foldL s) = true := by
  unfold foldL
  split
  · rename_i h
    unfold isFold at h
    cases he : entsOf s with
    | none => rw [he] at h; cases h
    | some l =>
      rw [he] at h
      simp only [Bool.and_eq_true, decide_eq_true_eq] at h
      cases hv : entsB l
      · rw [folderB_no hv] at h
        have : s.size = 0 := by rw [← h.1]; rfl
        omega
      · exact hv
  · rfl
theorem entsAt_ok (l : List Pc) (p : Int) : entsB (entsAt l p) = true := by
  unfold entsAt; split
  · exact fold_ents
  · rfl
theorem ents_sizes {l : List Ent} (h : entsB l = true) (k : Nat) : (nthE l k).1.size ≤ 8 := by
  by_cases hk : k < l.length
  · exact word_size (okE_word ((entsB_at h).2 k hk)).1
  · unfold nthE; rw [List.getD_eq_getElem?_getD, List.getElem?_eq_none (by omega)]; simp
theorem textE_size {l : List Ent} (h : entsB l = true) : (textE l).size ≤ 49 := by
  have key : ∀ k, k ≤ l.length → (textE (l.take k)).size ≤ 1 + 16 * k := by
    intro k
    induction k with
    | zero => intro _; rw [List.take_zero]; decide
    | succ k ih =>
      intro hk
      rw [textE_snoc (by omega)]
      unfold addE
      have h1 := ih (by omega)
      have h2 := ents_sizes h k
      have h3 := hexB_size (nthE l k).2
      rw [ByteArray.size_append, ByteArray.size_append, ByteArray.size_append, ByteArray.size_append]
      have e1 : (ByteArray.mk #[61]).size = 1 := rfl
      have e2 : (ByteArray.mk #[59]).size = 1 := rfl
      omega
  have h1 := key l.length (Nat.le_refl _)
  rw [List.take_length] at h1
  have := (entsB_at h).1
  omega
theorem folderB_size (l : List Ent) : (folderB l).size ≤ 49 := by
  cases h : entsB l
  · rw [folderB_no h]; decide
  · rw [folderB_yes h]; exact textE_size h
theorem set_short {leaf : Int} {m : Nat} (hm : 49 ≤ m) : ∀ {ps : List ByteArray} {l : List Pc} {p : Int}, Short m l → Short m (setB leaf l p ps).1
  | [], l, p, h => h
  | nm :: r, l, p, h => by
    have ih := set_short (leaf := leaf) hm (ps := r) (p := lastE nm (-1) (entsAt l p)) h
    rw [setB]
    split
    · exact h
    split
    · exact h
    split
    · exact ih
    split
    · exact ih
    · exact put_short ih (Nat.le_trans (folderB_size _) hm)
theorem put_names {l : List Ent} {p : Ent} {m : Nat} (hz : ∀ k, (nthE l k).1.size ≤ m) (hp : p.1.size ≤ m) : ∀ k, (nthE (putE l p).1 k).1.size ≤ m := by
  unfold putE
  split
  · intro k; simp [nthE]
  · split
    · exact put_sizes rfl hz hp
    · exact hz
def setTest (l : List Pc) (r : List ByteArray) (c : Int) : Bool := decide (r = []) && decide (0 ≤ c) && (!getO l c || !decide (kindB (getT l c) = 1))
set_option maxHeartbeats 2000000 in
set_option maxRecDepth 100000 in
theorem specSet_any (leaf : Int) : ∀ (ps : List ByteArray) (x y : Option Addr) (n cap m d : Nat) (l : List Pc) (p : Int) (B B1 : Nat) (w : World) (h : Pcs w B x n cap l) (h1 : Strs w B1 y m d ps) (hB : B ≤ w.heap.size) (hB1 : B1 ≤ w.heap.size) (hz : Short 1048576 l) (hz1 : ∀ k, (nthS ps k).size ≤ 1048576) (hm : m ≤ 1000),
    Calls Tryz.prog 84 #[.slice x n cap, .int .i64 p, .slice y m d, .int .i64 leaf] w (RdPut (setB leaf l p ps) w) := by
  intro ps
  induction ps with
  | nil =>
    intro x y n cap m d l p B B1 w h h1 hB hB1 hz hz1 hm
    have hm0 : m = 0 := by have := h1.len; simpa using this.symm
    subst hm0
    go_enter Tryz.func84, Tryz.ntmps84
    go_wp2_with fail
    go_ret3
    exact rdPut_of rfl (h.more hB) (Below.refl _ _)
  | cons nm r ih =>
    intro x y n cap m d l p B B1 w h h1 hB hB1 hz hz1 hm
    have hlen := h1.len
    have hm1 : m = r.length + 1 := by rw [← hlen]; rfl
    have hle1 := h1.le
    have hmx1 := h1.max
    unfold maxLen at hmx1
    obtain ⟨b1, o1, rfl, hb1, hc1'⟩ := h1.atS (k := 0) (by omega)
    have HC1 := Lib.hid (show w.cell? ⟨b1, o1, none⟩ = some (.string nm) from hc1')
    clear hc1'
    have hd0 : ((m : Int) == 0) = false := by simp; omega
    have HM1 := Lib.hid hm1
    have hmp : 0 < m := by omega
    have hmpi : (0 : Int) < (m : Int) := by omega
    clear hm1 hlen
    have HH := Lib.hid h; have HH1 := Lib.hid h1
    have hgz : (getT l p).size ≤ 1048576 := getT_size (short_nth hz)
    clear h h1
    go_enter Tryz.func84, Tryz.ntmps84
    go_upto_if 30 with fail
    go_cut [11] from 30 to 45 (fun s11 wx => ∃ xo no co, s11 = .slice xo no co ∧ Ents wx wx.heap.size xo no co (entsAt l p) ∧ Below w.heap.size w wx ∧ Hid (¬ (decide (0 ≤ p) && !isFold (getT l p)) = true))
    case first =>
      have HB0 := Lib.hid ((Below.refl w.heap.size w).alloc (Nat.le_refl _) (.cells #[] 108))
      have HLS := Lib.hid (HH.out.alloc hB (.cells #[] 108))
      by_cases hp : 0 ≤ p
      · have HE := Lib.hid (show entsAt l p = foldL (getT l p) from if_pos hp)
        go_wp2_with fail
        refine (specL4Get_any x n cap l p B _ HLS.out).mono ?_
        rintro e w' ⟨rfl, hw⟩
        subst hw
        go_wp2_with fail
        refine (specReadFolder_any _ _ hgz).mono ?_
        rintro e w2 ⟨v, rfl, ho, hb2⟩
        obtain ⟨xo, no, co, rfl, hlo⟩ := ho.lst
        rw [← HE.out] at hlo
        have HLO := Lib.hid hlo; have HB2 := Lib.hid (HB0.out.trans (hb2.mono HB0.out.size))
        clear ho hb2 hlo
        cases hok : isFold (getT l p)
        · have HF := Lib.hid (show setB leaf l p (nm :: r) = (l, -1, false) by rw [setB, if_pos (by rw [decide_eq_true hp, hok]; rfl)])
          go_wp2_with fail
          go_ret3
          exact rdPut_of HF.out ((HH.out.below HB2.out hB).more (Nat.le_trans hB HB2.out.size)) HB2.out
        · have HNG := Lib.hid (show ¬ (decide (0 ≤ p) && !isFold (getT l p)) = true by rw [hok]; simp)
          go_wp2_with fail
          go_meet
          case rel => exact ⟨_, _, _, rfl, HLO.out, HB2.out, HNG⟩
      · have HNG := Lib.hid (show ¬ (decide (0 ≤ p) && !isFold (getT l p)) = true by rw [decide_eq_false hp]; simp)
        have HLO := Lib.hid (show Ents (w.alloc (.cells #[] 108)) (w.alloc (.cells #[] 108)).heap.size (some ⟨w.heap.size, 0, none⟩) 0 0 (entsAt l p) by
          rw [show entsAt l p = [] from if_neg hp]
          exact Lst.empty _ _ _ _ _ (by unfold maxLen; omega))
        go_wp2_with fail
        go_meet
        case rel => exact ⟨_, _, _, rfl, HLO.out, HB0.out, HNG⟩
    case rest =>
      rename World => WX
      obtain ⟨xo, no, co, rfl, hlo, hb, HNG⟩ := hcut
      have HLO := Lib.hid hlo; have HBW := Lib.hid hb
      have hwX : w.heap.size ≤ WX.heap.size := hb.size
      clear hlo hb
      have HPC := Lib.hid (show ∀ w', Below WX.heap.size WX w' → w'.cell? ⟨b1, o1, none⟩ = some (.string nm) from fun w' hb => by
        have hbb := HBW.out.trans (hb.mono hwX)
        exact (World.cell?_of_block (w := w) (w' := w') (a := ⟨b1, o1, none⟩) (hbb.block b1 (by omega))).trans HC1.out)
      have HLSF := Lib.hid (show ∀ w', Below WX.heap.size WX w' → Pcs w' B x n cap l from fun w' hb => HH.out.below (HBW.out.trans (hb.mono hwX)) hB)
      have HPSF := Lib.hid (show ∀ w', Below WX.heap.size WX w' → Strs w' B1 (some ⟨b1, o1, none⟩) m d (nm :: r) from fun w' hb => HH1.out.below (HBW.out.trans (hb.mono hwX)) hB1)
      have HZS := Lib.hid (ents_sizes (entsAt_ok l p))
      have hlol := HLO.out.len
      have hno3 : no ≤ 3 := by have := (entsB_at (entsAt_ok l p)).1; omega
      have hgc : ∀ c, (getT l c).size ≤ 1048576 := fun c => getT_size (short_nth hz)
      have hzm : ∀ c k, (nthP (setB leaf l c r).1 k).2.size ≤ maxLen := fun c k => Nat.le_trans (short_nth (set_short (m := 1048576) (by decide) hz) k) (by unfold maxLen; omega)
      have hzE : ∀ k, (nthE (entsAt l p) k).1.size ≤ maxLen := fun k => Nat.le_trans (HZS.out k) (by unfold maxLen; omega)
      have hnmz : nm.size ≤ maxLen := Nat.le_trans (hz1 0) (by unfold maxLen; omega)
      have hzr : ∀ k, (nthS r k).size ≤ 1048576 := fun k => hz1 (k + 1)
      have hft : ∀ L : List Ent, (folderB L).size ≤ maxLen := fun L => Nat.le_trans (folderB_size L) (by unfold maxLen; omega)
      have HUN := Lib.hid (show ∀ c, lastE nm (-1) (entsAt l p) = c → setB leaf l p (nm :: r) = if setTest l r c = true then (l, -1, false)
          else if (setB leaf l c r).2.2 = false then ((setB leaf l c r).1, -1, false)
          else if (putE (entsAt l p) (nm, (setB leaf l c r).2.1)).2 = false then ((setB leaf l c r).1, -1, false)
          else putB (setB leaf l c r).1 (folderB (putE (entsAt l p) (nm, (setB leaf l c r).2.1)).1) from fun c hc => by subst hc; rw [setB, if_neg HNG.out]; rfl)
      clear HNG hgz
      go_wp2_with fail
      go_loopw [16, 17] (fun cv jv wq => ∃ (j : Nat) (c : Int), j ≤ no ∧ jv = .int .i64 j ∧ cv = .int .i64 c ∧ lastE nm (-1) (entsAt l p) = lastE nm c ((entsAt l p).drop j) ∧ ∃ q, wq = WX.drewN q) (fun _ jv _ => no - (intOf jv).toNat)
      case atStart => exact ⟨0, -1, by omega, rfl, rfl, by rw [List.drop_zero], 0, rfl⟩
      case round =>
        obtain ⟨j, c, hj, rfl, rfl, hf, hq⟩ := hrel
        have HFL := Lib.hid hf; have HQ := Lib.hid hq; clear hf hq
        have HB1 := Lib.hid (show Below WX.heap.size WX wr by obtain ⟨q, rfl⟩ := HQ.out; exact below_drewN (Below.refl _ _) q)
        have hpc := HPC.out _ HB1.out
        have hs1 := HB1.out.size
        by_cases hjl : j < no
        · have hjl2 : j < (entsAt l p).length := by omega
          obtain ⟨b, off, rfl, hb, hc0, hcp⟩ := (HLO.out.below HB1.out (Nat.le_refl _)).atE hjl
          cases hmn : ((nthE (entsAt l p) j).1.toList == nm.toList)
          · have HST := Lib.hid (HFL.out.trans (lastE_no hjl2 hmn))
            go_wp2
            go_quiet (fail)
            go_wp2
            go_roundw
            case rel => exact ⟨j + 1, _, by omega, by go_num, rfl, HST.out, by obtain ⟨q, rfl⟩ := HQ.out; exact ⟨_, by rw [World.drewN_drewN]⟩⟩
            case measure => simp [intOf]; omega
          · have HST := Lib.hid (HFL.out.trans (lastE_yes hjl2 hmn))
            go_wp2
            go_quiet (fail)
            go_wp2
            go_roundw
            case rel => exact ⟨j + 1, _, by omega, by go_num, rfl, HST.out, by obtain ⟨q, rfl⟩ := HQ.out; exact ⟨_, by rw [World.drewN_drewN]⟩⟩
            case measure => simp [intOf]; omega
        · have HSET := Lib.hid (HUN.out c (HFL.out.trans (lastE_end (by omega))))
          clear HFL HUN
          go_wp2_with fail
          refine (specL4Get_any x n cap l c B _ (HLSF.out _ HB1.out)).mono ?_
          rintro e w' ⟨rfl, hw⟩
          subst hw
          go_upto_region 17 with fail
          go_cut [19, 87] from 66 to 87 (fun s19 s87 wx => s87 = .bool (setTest l r c) ∧ Below WX.heap.size WX wx)
          case first =>
            have hkz := hgc c
            by_cases hr : r = []
            · have hmm : ((m : Int) == 1) = true := by have h2 := HM1.out; rw [hr] at h2; simp at h2; simp; omega
              by_cases hc0 : 0 ≤ c
              · cases hgo : getO l c
                · have HT := Lib.hid (show setTest l r c = true by unfold setTest; rw [decide_eq_true hr, decide_eq_true hc0, hgo]; rfl)
                  clear hr
                  go_wp2_with fail
                  go_meet
                  case rel => exact ⟨by rw [HT.out], HB1.out⟩
                · by_cases hk1 : kindB (getT l c) = 1
                  · have HT := Lib.hid (show setTest l r c = false by unfold setTest; rw [hgo, hk1]; simp)
                    clear hr
                    go_wp2_with (go_at_call 109; refine (specTextKind_any _ _ hkz).mono ?_; rintro e w3 ⟨rfl, hb3⟩)
                    go_meet
                    case rel => exact ⟨by rw [HT.out], HB1.out.trans (hb3.mono hs1)⟩
                  · have HT := Lib.hid (show setTest l r c = true by unfold setTest; rw [decide_eq_true hr, decide_eq_true hc0, hgo, decide_eq_false hk1]; rfl)
                    have hkb : (kindB (getT l c) != 1) = true := by simpa using hk1
                    clear hr
                    go_wp2_with (go_at_call 109; refine (specTextKind_any _ _ hkz).mono ?_; rintro e w3 ⟨rfl, hb3⟩)
                    go_meet
                    case rel => exact ⟨by rw [HT.out], HB1.out.trans (hb3.mono hs1)⟩
              · have HT := Lib.hid (show setTest l r c = false by unfold setTest; rw [decide_eq_false hc0]; simp)
                clear hr
                go_wp2_with fail
                go_meet
                case rel => exact ⟨by rw [HT.out], HB1.out⟩
            · have HT := Lib.hid (show setTest l r c = false by unfold setTest; rw [decide_eq_false hr]; rfl)
              have hrl : 0 < r.length := List.length_pos_iff.2 hr
              have hmm : ((m : Int) == 1) = false := by have h2 := HM1.out; simp; omega
              clear hr
              go_wp2_with fail
              go_meet
              case rel => exact ⟨by rw [HT.out], HB1.out⟩
          case rest =>
            clear HB1 HQ hpc hs1
            rename World => wk
            obtain ⟨rfl, hb1⟩ := hcut
            have HB1 := Lib.hid hb1
            have hpc := HPC.out _ hb1
            have hs1 := hb1.size
            clear hb1
            cases hT : setTest l r c
            rotate_left
            · have HF := Lib.hid (HSET.out.trans (by rw [if_pos hT]))
              clear HSET hT
              go_wp2_with fail
              go_ret3
              exact rdPut_of HF.out ((HLSF.out _ HB1.out).more (Nat.le_trans hB (Nat.le_trans hwX hs1))) (HBW.out.trans (HB1.out.mono hwX))
            have HS2 := Lib.hid (HSET.out.trans (if_neg (by rw [hT]; simp)))
            clear HSET hT
            have hml1 : (1 : Int) ≤ (m : Int) := by have h2 := HM1.out; omega
            go_upto_region 19 with fail
            go_cut [0, 16, 20] from 89 to 98 (fun s0 s16 s20 wx => ∃ x5 n5 c5, s0 = .slice x5 n5 c5 ∧ s16 = .int .i64 (setB leaf l c r).2.1 ∧ s20 = .bool (setB leaf l c r).2.2 ∧ Pcs wx wx.heap.size x5 n5 c5 (setB leaf l c r).1 ∧ Below WX.heap.size WX wx)
            case first =>
              clear HS2
              by_cases hd1 : d = 1
              · have hm1' : m = 1 := by omega
                have HRF := Lib.hid (show Strs wk B1 (some ⟨b1, o1, none⟩) 0 0 r by
                  have h2 := HM1.out
                  rw [List.eq_nil_of_length_eq_zero (show r.length = 0 by omega)]; exact Lst.empty _ _ _ _ _ (by unfold maxLen; omega))
                subst hd1
                subst hm1'
                go_wp2_with fail
                refine (ih _ _ n cap _ _ l c B B1 _ (HLSF.out _ HB1.out) HRF.out (Nat.le_trans hB (Nat.le_trans hwX hs1)) (Nat.le_trans hB1 (Nat.le_trans hwX hs1)) hz hzr (by omega)).mono ?_
                rintro e w5 ⟨x5, n5, c5, rfl, h5, hb5⟩
                have H5 := Lib.hid h5; have HB5 := Lib.hid (HB1.out.trans (hb5.mono hs1))
                clear h5 hb5
                go_wp2_with fail
                go_meet
                case rel => exact ⟨_, _, _, rfl, rfl, rfl, H5.out, HB5.out⟩
              · have hd2 : (1 : Int) ≤ (d : Int) := by omega
                have HRF := Lib.hid (show Strs wk B1 (some ⟨b1, o1 + 1, none⟩) (m - 1) (d - 1) r from Lst.rest encStr (HPSF.out wk HB1.out) (m := 1) (by have h2 := HM1.out; omega))
                go_wp2_with fail
                refine (ih _ _ n cap _ _ l c B B1 _ (HLSF.out _ HB1.out) HRF.out (Nat.le_trans hB (Nat.le_trans hwX hs1)) (Nat.le_trans hB1 (Nat.le_trans hwX hs1)) hz hzr (by omega)).mono ?_
                rintro e w5 ⟨x5, n5, c5, rfl, h5, hb5⟩
                have H5 := Lib.hid h5; have HB5 := Lib.hid (HB1.out.trans (hb5.mono hs1))
                clear h5 hb5
                go_wp2_with fail
                go_meet
                case rel => exact ⟨_, _, _, rfl, rfl, rfl, H5.out, HB5.out⟩
            case rest =>
              rename World => W5
              obtain ⟨x5, n5, c5, rfl, rfl, rfl, h5, hb5⟩ := hcut
              have H5 := Lib.hid h5; have HB5 := Lib.hid hb5
              have hs5 := hb5.size
              have hpc5 := HPC.out _ hb5
              have hz5 := hzm c
              clear h5 hb5 hpc hzm
              obtain ⟨⟨L, q, g⟩, hL⟩ : ∃ R, setB leaf l c r = R := ⟨_, rfl⟩
              rw [hL] at HS2 H5 hz5
              simp only [hL]
              clear hL
              cases g
              · have HF := Lib.hid (HS2.out.trans (if_pos rfl))
                clear HS2
                go_wp2_with fail
                go_ret3
                exact rdPut_of HF.out H5.out (HBW.out.trans (HB5.out.mono hwX))
              have HS3 := Lib.hid (HS2.out.trans (if_neg (by simp)))
              clear HS2
              go_wp2_with fail
              refine (specPutEntry_any xo no co (entsAt l p) (nm, q) WX.heap.size _ (HLO.out.below HB5.out (Nat.le_refl _)) hs5 hzE hnmz).mono ?_
              rintro e w6 ⟨v6, rfl, ho6, hb6⟩
              obtain ⟨x6, n6, c6, rfl, hlo6⟩ := ho6.lst
              have H56 := Lib.hid (H5.out.below hb6 (Nat.le_refl _)); have HB6 := Lib.hid (HB5.out.trans (hb6.mono hs5)); have HLO6 := Lib.hid hlo6
              have hs6 := hb6.size
              have hzM := put_names (p := (nm, q)) hzE hnmz
              clear ho6 hb6 hlo6
              cases hfine : (putE (entsAt l p) (nm, q)).2
              · have HF := Lib.hid (HS3.out.trans (if_pos hfine))
                clear HS3
                go_wp2_with fail
                go_ret3
                exact rdPut_of HF.out (H56.out.more hs6) (HBW.out.trans (HB6.out.mono hwX))
              have HF := Lib.hid (HS3.out.trans (if_neg (by rw [hfine]; simp)))
              clear HS3 hfine
              go_wp2_with fail
              refine (specFolderText_any _ _ _ _ _ _ HLO6.out hzM).mono ?_
              rintro e w7 ⟨rfl, q7, rfl⟩
              go_wp2_with fail
              refine (specPutText_any x5 n5 c5 _ _ W5.heap.size _ (H56.out.drewN _) (le_drewN hs6) hz5 (hft _)).mono ?_
              rintro e w8 ⟨v8, rfl, ho8, hb8⟩
              obtain ⟨x8, n8, c8, rfl, hlo8⟩ := ho8.lst
              have H8 := Lib.hid hlo8; have HB8 := Lib.hid ((below_drewN HB6.out _).trans (hb8.mono (le_drewN HB6.out.size)))
              clear ho8 hb8 hlo8
              go_wp2_with fail
              go_ret3
              exact rdPut_of HF.out H8.out (HBW.out.trans (HB8.out.mono hwX))
end Go.Proofs.YtglajbmopiolhaaGreatDoor
