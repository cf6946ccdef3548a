/-
  Chapter 10's model: a print is set at names.
-/
import Derived.Test.YtikmmhccgmmneaaGreatDoorEnts
import Derived.Test.YtikmmhccgmmneaaGreatDoorEntries2
namespace Go.Proofs.YtikmmhccgmmneaaGreatDoor
open Go.RowKit
set_option linter.unusedVariables false
/-- The print of the last entry with a name, or what there was. -/
def lastE (nm : ByteArray) : Int → List Ent → Int
  | c, [] => c
  | c, q :: r => lastE nm (if (q.1.toList == nm.toList) = true then q.2 else c) r
theorem lastE_yes {l : List Ent} {nm : ByteArray} {c : Int} {j : Nat} (h : j < l.length) (hn : ((nthE l j).1.toList == nm.toList) = true) : lastE nm c (l.drop j) = lastE nm (nthE l j).2 (l.drop (j + 1)) := by
  rw [List.drop_eq_getElem_cons h, lastE, ← nthE_get h, if_pos hn]
theorem lastE_no {l : List Ent} {nm : ByteArray} {c : Int} {j : Nat} (h : j < l.length) (hn : ((nthE l j).1.toList == nm.toList) = false) : lastE nm c (l.drop j) = lastE nm c (l.drop (j + 1)) := by
  rw [List.drop_eq_getElem_cons h, lastE, ← nthE_get h, if_neg (by rw [hn]; simp)]
theorem lastE_end {l : List Ent} {nm : ByteArray} {c : Int} {j : Nat} (h : l.length ≤ j) : lastE nm c (l.drop j) = c := by rw [List.drop_of_length_le h]; rfl
/-- The entries of the folder of a print; none of a print below 0. -/
def entsAt (l : List Pc) (p : Int) : List Ent := if 0 ≤ p then foldL (getT l p) else []
def setB (leaf : Int) : List Pc → Int → List ByteArray → List Pc × Int × Bool
  | l, p, [] => (l, leaf, true)
  | l, p, nm :: r =>
    if (decide (0 ≤ p) && !isFold (getT l p)) = true then (l, -1, false)
    else if (decide (r = []) && decide (0 ≤ lastE nm (-1) (entsAt l p)) && (!getO l (lastE nm (-1) (entsAt l p)) || !decide (kindB (getT l (lastE nm (-1) (entsAt l p))) = 1))) = true then (l, -1, false)
    else if (setB leaf l (lastE nm (-1) (entsAt l p)) r).2.2 = false then ((setB leaf l (lastE nm (-1) (entsAt l p)) r).1, -1, false)
    else if (putE (entsAt l p) (nm, (setB leaf l (lastE nm (-1) (entsAt l p)) r).2.1)).2 = false then ((setB leaf l (lastE nm (-1) (entsAt l p)) r).1, -1, false)
    else putB (setB leaf l (lastE nm (-1) (entsAt l p)) r).1 (folderB (putE (entsAt l p) (nm, (setB leaf l (lastE nm (-1) (entsAt l p)) r).2.1)).1)
/-- A store that can be read, a print and a bool. -/
def RdPut (t : List Pc × Int × Bool) (w : World) (e : Ending) (w' : World) : Prop := ∃ x n c, e = .returned (.tuple #[.slice x n c, .int .i64 t.2.1, .bool t.2.2]) ∧ Pcs w' w'.heap.size x n c t.1 ∧ Below w.heap.size w w'
theorem rdPut_of {t : List Pc × Int × Bool} {l : List Pc} {p : Int} {b : Bool} {w w' : World} {x : Option Addr} {n c : Nat} (h : t = (l, p, b)) (hr : Pcs w' w'.heap.size x n c l) (hb : Below w.heap.size w w') : RdPut t w (.returned (.tuple #[.slice x n c, .int .i64 p, .bool b])) w' := by rw [h]; exact ⟨x, n, c, rfl, hr, hb⟩
theorem fold_ents {s : ByteArray} : entsB (foldL s) = true := by
  unfold foldL
  split
  · rename_i h
    unfold isFold at h
    cases he : entsOf s with
    | none => rw [he] at h; cases h
    | some l =>
      rw [he] at h
      simp only [Bool.and_eq_true, decide_eq_true_eq] at h
      cases hv : entsB l
      · rw [folderB_no hv] at h
        have : s.size = 0 := by rw [← h.1]; rfl
        omega
      · exact hv
  · rfl
theorem entsAt_ok (l : List Pc) (p : Int) : entsB (entsAt l p) = true := by
  unfold entsAt; split
  · exact fold_ents
  · rfl
theorem ents_sizes {l : List Ent} (h : entsB l = true) (k : Nat) : (nthE l k).1.size ≤ 8 := by
  by_cases hk : k < l.length
  · exact word_size (okE_word ((entsB_at h).2 k hk)).1
  · unfold nthE; rw [List.getD_eq_getElem?_getD, List.getElem?_eq_none (by omega)]; simp
theorem textE_size {l : List Ent} (h : entsB l = true) : (textE l).size ≤ 49 := by
  have key : ∀ k, k ≤ l.length → (textE (l.take k)).size ≤ 1 + 16 * k := by
    intro k
    induction k with
    | zero => intro _; rw [List.take_zero]; decide
    | succ k ih =>
      intro hk
      rw [textE_snoc (by omega)]
      unfold addE
      have h1 := ih (by omega)
      have h2 := ents_sizes h k
      have h3 := hexB_size (nthE l k).2
      rw [ByteArray.size_append, ByteArray.size_append, ByteArray.size_append, ByteArray.size_append]
      have e1 : (ByteArray.mk #[61]).size = 1 := rfl
      have e2 : (ByteArray.mk #[59]).size = 1 := rfl
      omega
  have h1 := key l.length (Nat.le_refl _)
  rw [List.take_length] at h1
  have := (entsB_at h).1
  omega
theorem folderB_size (l : List Ent) : (folderB l).size ≤ 49 := by
  cases h : entsB l
  · rw [folderB_no h]; decide
  · rw [folderB_yes h]; exact textE_size h
theorem set_short {leaf : Int} {m : Nat} (hm : 49 ≤ m) : ∀ {ps : List ByteArray} {l : List Pc} {p : Int}, Short m l → Short m (setB leaf l p ps).1
  | [], l, p, h => h
  | nm :: r, l, p, h => by
    have ih := set_short (leaf := leaf) hm (ps := r) (p := lastE nm (-1) (entsAt l p)) h
    rw [setB]
    split
    · exact h
    split
    · exact h
    split
    · exact ih
    split
    · exact ih
    · exact put_short ih (Nat.le_trans (folderB_size _) hm)
theorem put_names {l : List Ent} {p : Ent} {m : Nat} (hz : ∀ k, (nthE l k).1.size ≤ m) (hp : p.1.size ≤ m) : ∀ k, (nthE (putE l p).1 k).1.size ≤ m := by
  unfold putE
  split
  · intro k; simp [nthE]
  · split
    · exact put_sizes rfl hz hp
    · exact hz
set_option maxHeartbeats 8000000 in
set_option maxRecDepth 100000 in
theorem specSet_any (leaf : Int) : ∀ (ps : List ByteArray) (x y : Option Addr) (n cap m d : Nat) (l : List Pc) (p : Int) (B B1 : Nat) (w : World) (h : Pcs w B x n cap l) (h1 : Strs w B1 y m d ps) (hB : B ≤ w.heap.size) (hB1 : B1 ≤ w.heap.size) (hz : Short 1048576 l) (hz1 : ∀ k, (nthS ps k).size ≤ 1048576) (hm : m ≤ 1000),
    Calls Tryz.prog 94 #[.slice x n cap, .int .i64 p, .slice y m d, .int .i64 leaf] w (RdPut (setB leaf l p ps) w) := by
  intro ps
  induction ps with
  | nil =>
    intro x y n cap m d l p B B1 w h h1 hB hB1 hz hz1 hm
    have hm0 : m = 0 := by have := h1.len; simpa using this.symm
    subst hm0
    go_enter Tryz.func94, Tryz.ntmps94
    go_wp2_with fail
    go_ret3
    exact rdPut_of rfl (h.more hB) (Below.refl _ _)
  | cons nm r ih =>
    intro x y n cap m d l p B B1 w h h1 hB hB1 hz hz1 hm
    have hlen := h1.len
    have hm1 : m = r.length + 1 := by rw [← hlen]; rfl
    have hle1 := h1.le
    have hmx1 := h1.max
    unfold maxLen at hmx1
    obtain ⟨b1, o1, rfl, hb1, hc1'⟩ := h1.atS (k := 0) (by omega)
    have hc1 : w.cell? ⟨b1, o1, none⟩ = some (.string nm) := hc1'
    clear hc1'
    have hd0 : ((m : Int) == 0) = false := by simp; omega
    have HM1 := Lib.hid hm1
    have hmp : 0 < m := by omega
    have hmpi : (0 : Int) < (m : Int) := by omega
    clear hm1 hlen
    by_cases hp : 0 ≤ p
    · have hgz : (getT l p).size ≤ 1048576 := getT_size (short_nth hz)
      cases hok : isFold (getT l p)
      · have HF := Lib.hid (show setB leaf l p (nm :: r) = (l, -1, false) by rw [setB, if_pos (by rw [decide_eq_true hp, hok]; rfl)])
        have hnew0 : w.heap.size ≤ (w.alloc (.cells #[] 51)).heap.size := by simp
        have HLS := Lib.hid (h.alloc hB (.cells #[] 51))
        have HB0 := Lib.hid ((Below.refl w.heap.size w).alloc (Nat.le_refl _) (.cells #[] 51))
        go_enter Tryz.func94, Tryz.ntmps94
        go_wp2_with (first
          | (go_at_call 45; refine (specL4Get_any x n cap l p B _ HLS.out).mono ?_; rintro e w' ⟨rfl, rfl⟩)
          | (go_at_call 30; refine (specReadFolder_any _ _ hgz).mono ?_; rintro e w2 ⟨v, rfl, ho, hb2⟩; rw [hok]; have HLS2 := Lib.hid (HLS.out.below (hb2.mono hnew0) hB); have HB2 := Lib.hid (HB0.out.trans (hb2.mono hnew0)); clear ho hb2))
        go_ret3
        exact rdPut_of HF.out (HLS2.out.more (Nat.le_trans hB HB2.out.size)) HB2.out
      · have HE := Lib.hid (show entsAt l p = foldL (getT l p) from if_pos hp)
        have HNG := Lib.hid (show ¬ (decide (0 ≤ p) && !isFold (getT l p)) = true by rw [hok]; simp)
        have hnew0 : w.heap.size ≤ (w.alloc (.cells #[] 51)).heap.size := by simp
        have HLS := Lib.hid (h.alloc hB (.cells #[] 51))
        have HB0 := Lib.hid ((Below.refl w.heap.size w).alloc (Nat.le_refl _) (.cells #[] 51))
        go_enter Tryz.func94, Tryz.ntmps94
        go_wp2_with (first
          | (go_at_call 45; refine (specL4Get_any x n cap l p B _ HLS.out).mono ?_; rintro e w' ⟨rfl, rfl⟩)
          | (go_at_call 30; refine (specReadFolder_any _ _ hgz).mono ?_; rintro e WX ⟨v, rfl, ho, hb2⟩; rw [hok]; obtain ⟨xo, no, co, rfl, hlo⟩ := ho.lst; rw [← HE.out] at hlo; have HLO := Lib.hid hlo; have HBX0 := Lib.hid (HB0.out.trans (hb2.mono hnew0)); clear ho hb2 hlo))
        have HBW := Lib.hid (show Below w.heap.size w WX from HBX0.out)
        have hwX : w.heap.size ≤ WX.heap.size := HBX0.out.size
        have HPC := Lib.hid (show ∀ w', Below WX.heap.size WX w' → w'.cell? ⟨b1, o1, none⟩ = some (.string nm) from fun w' hb => by
          have hbb := HBW.out.trans (hb.mono hwX)
          exact (World.cell?_of_block (w := w) (w' := w') (a := ⟨b1, o1, none⟩) (hbb.block b1 (by omega))).trans hc1)
        have HLSF := Lib.hid (show ∀ w', Below WX.heap.size WX w' → Pcs w' B x n cap l from fun w' hb => h.below (HBW.out.trans (hb.mono hwX)) hB)
        have HPSF := Lib.hid (show ∀ w', Below WX.heap.size WX w' → Strs w' B1 (some ⟨b1, o1, none⟩) m d (nm :: r) from fun w' hb => h1.below (HBW.out.trans (hb.mono hwX)) hB1)
        have HZS := Lib.hid (ents_sizes (entsAt_ok l p))
        have HEL := Lib.hid (entsB_at (entsAt_ok l p)).1
        have hlol := HLO.out.len
        have hloc := HLO.out.le
        have hlom := HLO.out.max
        unfold maxLen at hlom
        have hno3 : no ≤ 3 := by have := HEL.out; omega
        clear h h1 hc1
        go_loopw [16, 17] (fun cv jv wq => ∃ (j : Nat) (c : Int), j ≤ no ∧ jv = .int .i64 j ∧ cv = .int .i64 c ∧ lastE nm (-1) (entsAt l p) = lastE nm c ((entsAt l p).drop j) ∧ ∃ q, wq = WX.drewN q) (fun _ jv _ => no - (intOf jv).toNat)
        case atStart => exact ⟨0, -1, by omega, rfl, rfl, by rw [List.drop_zero], 0, rfl⟩
        case round =>
          obtain ⟨j, c, hj, rfl, rfl, hf, hq⟩ := hrel
          have HFL := Lib.hid hf; have HQ := Lib.hid hq; clear hf hq
          have HB1 := Lib.hid (show Below WX.heap.size WX wr by obtain ⟨q, rfl⟩ := HQ.out; exact below_drewN (Below.refl _ _) q)
          have hpc := HPC.out _ HB1.out
          by_cases hjl : j < no
          · have hjl2 : j < (entsAt l p).length := by omega
            obtain ⟨b, off, rfl, hb, hc0, hcp⟩ := (HLO.out.below HB1.out (Nat.le_refl _)).atE hjl
            cases hmn : ((nthE (entsAt l p) j).1.toList == nm.toList)
            · have HST := Lib.hid (HFL.out.trans (lastE_no hjl2 hmn))
              go_wp2
              go_quiet (fail)
              go_wp2
              go_roundw
              case rel => exact ⟨j + 1, _, by omega, by go_num, rfl, HST.out, by obtain ⟨q, rfl⟩ := HQ.out; exact ⟨_, by rw [World.drewN_drewN]⟩⟩
              case measure => simp [intOf]; omega
            · have HST := Lib.hid (HFL.out.trans (lastE_yes hjl2 hmn))
              go_wp2
              go_quiet (fail)
              go_wp2
              go_roundw
              case rel => exact ⟨j + 1, _, by omega, by go_num, rfl, HST.out, by obtain ⟨q, rfl⟩ := HQ.out; exact ⟨_, by rw [World.drewN_drewN]⟩⟩
              case measure => simp [intOf]; omega
          · have HCH := Lib.hid (show lastE nm (-1) (entsAt l p) = c from HFL.out.trans (lastE_end (by omega)))
            have HSET := Lib.hid (show setB leaf l p (nm :: r) = if (decide (r = []) && decide (0 ≤ c) && (!getO l c || !decide (kindB (getT l c) = 1))) = true then (l, -1, false)
                else if (setB leaf l c r).2.2 = false then ((setB leaf l c r).1, -1, false)
                else if (putE (entsAt l p) (nm, (setB leaf l c r).2.1)).2 = false then ((setB leaf l c r).1, -1, false)
                else putB (setB leaf l c r).1 (folderB (putE (entsAt l p) (nm, (setB leaf l c r).2.1)).1) by rw [setB, if_neg HNG.out, HCH.out])
            have hgc : (getT l c).size ≤ 1048576 := getT_size (short_nth hz)
            clear HFL
            cases hgo : getO l c
            · by_cases hr : r = []
              · have HRN := Lib.hid hr
                have hmm : ((m : Int) == 1) = true := by have h2 := HM1.out; rw [HRN.out] at h2; simp at h2; simp; omega
                clear hr
                by_cases hc0 : 0 ≤ c
                · have HF := Lib.hid (HSET.out.trans (show _ = (l, -1, false) by rw [if_pos (by rw [hgo, decide_eq_true HRN.out, decide_eq_true hc0]; rfl)]))
                  go_wp2_with (first
                    | (go_at_call 45; refine (specL4Get_any x n cap l c B _ (HLSF.out _ HB1.out)).mono ?_; rintro e w' ⟨rfl, rfl⟩; rw [hgo]))
                  go_ret3
                  exact rdPut_of HF.out ((HLSF.out _ HB1.out).more (Nat.le_trans hB (Nat.le_trans hwX HB1.out.size))) (HBW.out.trans (HB1.out.mono hwX))
                · have HTEST := Lib.hid (show ¬ (decide (r = []) && decide (0 ≤ c) && (!getO l c || !decide (kindB (getT l c) = 1))) = true by rw [decide_eq_false hc0]; simp)
                  have hc0' : c < 0 := by omega
                  have hml1 : (1 : Int) ≤ (m : Int) := by have h2 := HM1.out; omega
                  by_cases hd1 : d = 1
                  · have hm1' : m = 1 := by have h2 := HM1.out; rw [HRN.out] at h2; simpa using h2
                    subst hd1
                    subst hm1'
                    have HRF := Lib.hid (show ∀ w', Below WX.heap.size WX w' → Strs w' B1 (some ⟨b1, o1, none⟩) 0 0 r from fun w' hb => by rw [HRN.out]; exact Lst.empty _ _ _ _ _ (by unfold maxLen; omega))
                    have hz5 : ∀ k, (nthP (setB leaf l c r).1 k).2.size ≤ maxLen := fun k => Nat.le_trans (short_nth (set_short (m := 1048576) (by decide) hz) k) (by unfold maxLen; omega)
                    have hzE : ∀ k, (nthE (entsAt l p) k).1.size ≤ maxLen := fun k => Nat.le_trans (HZS.out k) (by unfold maxLen; omega)
                    have hnmz : nm.size ≤ maxLen := Nat.le_trans (hz1 0) (by unfold maxLen; omega)
                    have hzr : ∀ k, (nthS r k).size ≤ 1048576 := fun k => hz1 (k + 1)
                    have hmr : 0 ≤ 1000 := by omega
                    have hft : ∀ {L : List Ent}, (folderB L).size ≤ maxLen := fun {L} => Nat.le_trans (folderB_size L) (by unfold maxLen; omega)
                    cases hok5 : (setB leaf l c r).2.2
                    · have HF := Lib.hid (HSET.out.trans (by rw [if_neg HTEST.out, if_pos hok5]))
                      go_wp2_with (first
                        | (go_at_call 45; refine (specL4Get_any x n cap l c B _ (HLSF.out _ HB1.out)).mono ?_; rintro e w' ⟨rfl, rfl⟩; rw [hgo])
                        | (go_at_call 94; refine (ih _ _ n cap _ _ l c B B1 _ (HLSF.out _ HB1.out) (HRF.out _ HB1.out) (Nat.le_trans hB (Nat.le_trans hwX HB1.out.size)) (Nat.le_trans hB1 (Nat.le_trans hwX HB1.out.size)) hz hzr hmr).mono ?_; rintro e w5 ⟨x5, n5, c5, rfl, h5, hb5⟩; rw [hok5]; have H5 := Lib.hid h5; have HB5 := Lib.hid (HB1.out.trans (hb5.mono HB1.out.size)); have hpc5 := HPC.out _ HB5.out; clear h5 hb5))
                      go_ret3
                      exact rdPut_of HF.out H5.out (HBW.out.trans (HB5.out.mono hwX))
                    cases hfine : (putE (entsAt l p) (nm, (setB leaf l c r).2.1)).2
                    · have HF := Lib.hid (HSET.out.trans (by rw [if_neg HTEST.out, if_neg (by rw [hok5]; simp), if_pos hfine]))
                      go_wp2_with (first
                        | (go_at_call 45; refine (specL4Get_any x n cap l c B _ (HLSF.out _ HB1.out)).mono ?_; rintro e w' ⟨rfl, rfl⟩; rw [hgo])
                        | (go_at_call 94; refine (ih _ _ n cap _ _ l c B B1 _ (HLSF.out _ HB1.out) (HRF.out _ HB1.out) (Nat.le_trans hB (Nat.le_trans hwX HB1.out.size)) (Nat.le_trans hB1 (Nat.le_trans hwX HB1.out.size)) hz hzr hmr).mono ?_; rintro e w5 ⟨x5, n5, c5, rfl, h5, hb5⟩; rw [hok5]; have H5 := Lib.hid h5; have HB5 := Lib.hid (HB1.out.trans (hb5.mono HB1.out.size)); have hpc5 := HPC.out _ HB5.out; clear h5 hb5)
                        | (go_at_call 104; refine (specPutEntry_any xo no co (entsAt l p) (nm, (setB leaf l c r).2.1) WX.heap.size _ (HLO.out.below HB5.out (Nat.le_refl _)) HB5.out.size hzE hnmz).mono ?_; rintro e w6 ⟨v6, rfl, ho6, hb6⟩; rw [hfine]; obtain ⟨x6, n6, c6, rfl, hlo6⟩ := ho6.lst; have H56 := Lib.hid (H5.out.below hb6 (Nat.le_refl _)); have HB6 := Lib.hid (HB5.out.trans (hb6.mono HB5.out.size)); have HS6 := Lib.hid hb6.size; have HLO6 := Lib.hid hlo6; clear ho6 hb6 hlo6))
                      go_ret3
                      exact rdPut_of HF.out (H56.out.more HS6.out) (HBW.out.trans (HB6.out.mono hwX))
                    · have HF := Lib.hid (HSET.out.trans (by rw [if_neg HTEST.out, if_neg (by rw [hok5]; simp), if_neg (by rw [hfine]; simp)]))
                      have hzM : ∀ k, (nthE (putE (entsAt l p) (nm, (setB leaf l c r).2.1)).1 k).1.size ≤ maxLen := put_names hzE hnmz
                      go_wp2_with (first
                        | (go_at_call 45; refine (specL4Get_any x n cap l c B _ (HLSF.out _ HB1.out)).mono ?_; rintro e w' ⟨rfl, rfl⟩; rw [hgo])
                        | (go_at_call 94; refine (ih _ _ n cap _ _ l c B B1 _ (HLSF.out _ HB1.out) (HRF.out _ HB1.out) (Nat.le_trans hB (Nat.le_trans hwX HB1.out.size)) (Nat.le_trans hB1 (Nat.le_trans hwX HB1.out.size)) hz hzr hmr).mono ?_; rintro e w5 ⟨x5, n5, c5, rfl, h5, hb5⟩; rw [hok5]; have H5 := Lib.hid h5; have HB5 := Lib.hid (HB1.out.trans (hb5.mono HB1.out.size)); have hpc5 := HPC.out _ HB5.out; clear h5 hb5)
                        | (go_at_call 104; refine (specPutEntry_any xo no co (entsAt l p) (nm, (setB leaf l c r).2.1) WX.heap.size _ (HLO.out.below HB5.out (Nat.le_refl _)) HB5.out.size hzE hnmz).mono ?_; rintro e w6 ⟨v6, rfl, ho6, hb6⟩; rw [hfine]; obtain ⟨x6, n6, c6, rfl, hlo6⟩ := ho6.lst; have H56 := Lib.hid (H5.out.below hb6 (Nat.le_refl _)); have HB6 := Lib.hid (HB5.out.trans (hb6.mono HB5.out.size)); have HS6 := Lib.hid hb6.size; have HLO6 := Lib.hid hlo6; clear ho6 hb6 hlo6)
                        | (go_at_call 59; refine (specFolderText_any _ _ _ _ _ _ HLO6.out hzM).mono ?_; rintro e w7 ⟨rfl, q7, rfl⟩)
                        | (go_at_call 78; refine (specPutText_any x5 n5 c5 _ _ w5.heap.size _ (H56.out.drewN _) (le_drewN HS6.out) hz5 hft).mono ?_; rintro e w8 ⟨v8, rfl, ho8, hb8⟩; obtain ⟨x8, n8, c8, rfl, hlo8⟩ := ho8.lst; have H8 := Lib.hid hlo8; have HB8 := Lib.hid ((below_drewN HB6.out _).trans (hb8.mono (le_drewN HB6.out.size))); clear ho8 hb8 hlo8))
                      go_ret3
                      exact rdPut_of HF.out H8.out (HBW.out.trans (HB8.out.mono hwX))
                  · have hd2 : (1 : Int) ≤ (d : Int) := by omega
                    have hdd : ¬ d = 1 := hd1
                    have HRF := Lib.hid (show ∀ w', Below WX.heap.size WX w' → Strs w' B1 (some ⟨b1, o1 + 1, none⟩) (m - 1) (d - 1) r from fun w' hb => Lst.rest encStr (HPSF.out w' hb) (m := 1) (by have h2 := HM1.out; omega))
                    have hz5 : ∀ k, (nthP (setB leaf l c r).1 k).2.size ≤ maxLen := fun k => Nat.le_trans (short_nth (set_short (m := 1048576) (by decide) hz) k) (by unfold maxLen; omega)
                    have hzE : ∀ k, (nthE (entsAt l p) k).1.size ≤ maxLen := fun k => Nat.le_trans (HZS.out k) (by unfold maxLen; omega)
                    have hnmz : nm.size ≤ maxLen := Nat.le_trans (hz1 0) (by unfold maxLen; omega)
                    have hzr : ∀ k, (nthS r k).size ≤ 1048576 := fun k => hz1 (k + 1)
                    have hmr : m - 1 ≤ 1000 := by omega
                    have hft : ∀ {L : List Ent}, (folderB L).size ≤ maxLen := fun {L} => Nat.le_trans (folderB_size L) (by unfold maxLen; omega)
                    cases hok5 : (setB leaf l c r).2.2
                    · have HF := Lib.hid (HSET.out.trans (by rw [if_neg HTEST.out, if_pos hok5]))
                      go_wp2_with (first
                        | (go_at_call 45; refine (specL4Get_any x n cap l c B _ (HLSF.out _ HB1.out)).mono ?_; rintro e w' ⟨rfl, rfl⟩; rw [hgo])
                        | (go_at_call 94; refine (ih _ _ n cap _ _ l c B B1 _ (HLSF.out _ HB1.out) (HRF.out _ HB1.out) (Nat.le_trans hB (Nat.le_trans hwX HB1.out.size)) (Nat.le_trans hB1 (Nat.le_trans hwX HB1.out.size)) hz hzr hmr).mono ?_; rintro e w5 ⟨x5, n5, c5, rfl, h5, hb5⟩; rw [hok5]; have H5 := Lib.hid h5; have HB5 := Lib.hid (HB1.out.trans (hb5.mono HB1.out.size)); have hpc5 := HPC.out _ HB5.out; clear h5 hb5))
                      go_ret3
                      exact rdPut_of HF.out H5.out (HBW.out.trans (HB5.out.mono hwX))
                    cases hfine : (putE (entsAt l p) (nm, (setB leaf l c r).2.1)).2
                    · have HF := Lib.hid (HSET.out.trans (by rw [if_neg HTEST.out, if_neg (by rw [hok5]; simp), if_pos hfine]))
                      go_wp2_with (first
                        | (go_at_call 45; refine (specL4Get_any x n cap l c B _ (HLSF.out _ HB1.out)).mono ?_; rintro e w' ⟨rfl, rfl⟩; rw [hgo])
                        | (go_at_call 94; refine (ih _ _ n cap _ _ l c B B1 _ (HLSF.out _ HB1.out) (HRF.out _ HB1.out) (Nat.le_trans hB (Nat.le_trans hwX HB1.out.size)) (Nat.le_trans hB1 (Nat.le_trans hwX HB1.out.size)) hz hzr hmr).mono ?_; rintro e w5 ⟨x5, n5, c5, rfl, h5, hb5⟩; rw [hok5]; have H5 := Lib.hid h5; have HB5 := Lib.hid (HB1.out.trans (hb5.mono HB1.out.size)); have hpc5 := HPC.out _ HB5.out; clear h5 hb5)
                        | (go_at_call 104; refine (specPutEntry_any xo no co (entsAt l p) (nm, (setB leaf l c r).2.1) WX.heap.size _ (HLO.out.below HB5.out (Nat.le_refl _)) HB5.out.size hzE hnmz).mono ?_; rintro e w6 ⟨v6, rfl, ho6, hb6⟩; rw [hfine]; obtain ⟨x6, n6, c6, rfl, hlo6⟩ := ho6.lst; have H56 := Lib.hid (H5.out.below hb6 (Nat.le_refl _)); have HB6 := Lib.hid (HB5.out.trans (hb6.mono HB5.out.size)); have HS6 := Lib.hid hb6.size; have HLO6 := Lib.hid hlo6; clear ho6 hb6 hlo6))
                      go_ret3
                      exact rdPut_of HF.out (H56.out.more HS6.out) (HBW.out.trans (HB6.out.mono hwX))
                    · have HF := Lib.hid (HSET.out.trans (by rw [if_neg HTEST.out, if_neg (by rw [hok5]; simp), if_neg (by rw [hfine]; simp)]))
                      have hzM : ∀ k, (nthE (putE (entsAt l p) (nm, (setB leaf l c r).2.1)).1 k).1.size ≤ maxLen := put_names hzE hnmz
                      go_wp2_with (first
                        | (go_at_call 45; refine (specL4Get_any x n cap l c B _ (HLSF.out _ HB1.out)).mono ?_; rintro e w' ⟨rfl, rfl⟩; rw [hgo])
                        | (go_at_call 94; refine (ih _ _ n cap _ _ l c B B1 _ (HLSF.out _ HB1.out) (HRF.out _ HB1.out) (Nat.le_trans hB (Nat.le_trans hwX HB1.out.size)) (Nat.le_trans hB1 (Nat.le_trans hwX HB1.out.size)) hz hzr hmr).mono ?_; rintro e w5 ⟨x5, n5, c5, rfl, h5, hb5⟩; rw [hok5]; have H5 := Lib.hid h5; have HB5 := Lib.hid (HB1.out.trans (hb5.mono HB1.out.size)); have hpc5 := HPC.out _ HB5.out; clear h5 hb5)
                        | (go_at_call 104; refine (specPutEntry_any xo no co (entsAt l p) (nm, (setB leaf l c r).2.1) WX.heap.size _ (HLO.out.below HB5.out (Nat.le_refl _)) HB5.out.size hzE hnmz).mono ?_; rintro e w6 ⟨v6, rfl, ho6, hb6⟩; rw [hfine]; obtain ⟨x6, n6, c6, rfl, hlo6⟩ := ho6.lst; have H56 := Lib.hid (H5.out.below hb6 (Nat.le_refl _)); have HB6 := Lib.hid (HB5.out.trans (hb6.mono HB5.out.size)); have HS6 := Lib.hid hb6.size; have HLO6 := Lib.hid hlo6; clear ho6 hb6 hlo6)
                        | (go_at_call 59; refine (specFolderText_any _ _ _ _ _ _ HLO6.out hzM).mono ?_; rintro e w7 ⟨rfl, q7, rfl⟩)
                        | (go_at_call 78; refine (specPutText_any x5 n5 c5 _ _ w5.heap.size _ (H56.out.drewN _) (le_drewN HS6.out) hz5 hft).mono ?_; rintro e w8 ⟨v8, rfl, ho8, hb8⟩; obtain ⟨x8, n8, c8, rfl, hlo8⟩ := ho8.lst; have H8 := Lib.hid hlo8; have HB8 := Lib.hid ((below_drewN HB6.out _).trans (hb8.mono (le_drewN HB6.out.size))); clear ho8 hb8 hlo8))
                      go_ret3
                      exact rdPut_of HF.out H8.out (HBW.out.trans (HB8.out.mono hwX))
              · have HTEST := Lib.hid (show ¬ (decide (r = []) && decide (0 ≤ c) && (!getO l c || !decide (kindB (getT l c) = 1))) = true by rw [decide_eq_false hr]; simp)
                have hrl : 0 < r.length := List.length_pos_iff.2 hr
                have hmm : ((m : Int) == 1) = false := by have h2 := HM1.out; simp; omega
                have hd1 : ¬ d = 1 := by have h2 := HM1.out; omega
                have hml1 : (1 : Int) ≤ (m : Int) := by have h2 := HM1.out; omega
                clear hr hrl
                have HRF := Lib.hid (show ∀ w', Below WX.heap.size WX w' → Strs w' B1 (some ⟨b1, o1 + 1, none⟩) (m - 1) (d - 1) r from fun w' hb => Lst.rest encStr (HPSF.out w' hb) (m := 1) (by have h2 := HM1.out; omega))
                have hz5 : ∀ k, (nthP (setB leaf l c r).1 k).2.size ≤ maxLen := fun k => Nat.le_trans (short_nth (set_short (m := 1048576) (by decide) hz) k) (by unfold maxLen; omega)
                have hzE : ∀ k, (nthE (entsAt l p) k).1.size ≤ maxLen := fun k => Nat.le_trans (HZS.out k) (by unfold maxLen; omega)
                have hnmz : nm.size ≤ maxLen := Nat.le_trans (hz1 0) (by unfold maxLen; omega)
                have hzr : ∀ k, (nthS r k).size ≤ 1048576 := fun k => hz1 (k + 1)
                have hmr : m - 1 ≤ 1000 := by omega
                have hft : ∀ {L : List Ent}, (folderB L).size ≤ maxLen := fun {L} => Nat.le_trans (folderB_size L) (by unfold maxLen; omega)
                cases hok5 : (setB leaf l c r).2.2
                · have HF := Lib.hid (HSET.out.trans (by rw [if_neg HTEST.out, if_pos hok5]))
                  go_wp2_with (first
                    | (go_at_call 45; refine (specL4Get_any x n cap l c B _ (HLSF.out _ HB1.out)).mono ?_; rintro e w' ⟨rfl, rfl⟩; rw [hgo])
                    | (go_at_call 94; refine (ih _ _ n cap _ _ l c B B1 _ (HLSF.out _ HB1.out) (HRF.out _ HB1.out) (Nat.le_trans hB (Nat.le_trans hwX HB1.out.size)) (Nat.le_trans hB1 (Nat.le_trans hwX HB1.out.size)) hz hzr hmr).mono ?_; rintro e w5 ⟨x5, n5, c5, rfl, h5, hb5⟩; rw [hok5]; have H5 := Lib.hid h5; have HB5 := Lib.hid (HB1.out.trans (hb5.mono HB1.out.size)); have hpc5 := HPC.out _ HB5.out; clear h5 hb5))
                  go_ret3
                  exact rdPut_of HF.out H5.out (HBW.out.trans (HB5.out.mono hwX))
                cases hfine : (putE (entsAt l p) (nm, (setB leaf l c r).2.1)).2
                · have HF := Lib.hid (HSET.out.trans (by rw [if_neg HTEST.out, if_neg (by rw [hok5]; simp), if_pos hfine]))
                  go_wp2_with (first
                    | (go_at_call 45; refine (specL4Get_any x n cap l c B _ (HLSF.out _ HB1.out)).mono ?_; rintro e w' ⟨rfl, rfl⟩; rw [hgo])
                    | (go_at_call 94; refine (ih _ _ n cap _ _ l c B B1 _ (HLSF.out _ HB1.out) (HRF.out _ HB1.out) (Nat.le_trans hB (Nat.le_trans hwX HB1.out.size)) (Nat.le_trans hB1 (Nat.le_trans hwX HB1.out.size)) hz hzr hmr).mono ?_; rintro e w5 ⟨x5, n5, c5, rfl, h5, hb5⟩; rw [hok5]; have H5 := Lib.hid h5; have HB5 := Lib.hid (HB1.out.trans (hb5.mono HB1.out.size)); have hpc5 := HPC.out _ HB5.out; clear h5 hb5)
                    | (go_at_call 104; refine (specPutEntry_any xo no co (entsAt l p) (nm, (setB leaf l c r).2.1) WX.heap.size _ (HLO.out.below HB5.out (Nat.le_refl _)) HB5.out.size hzE hnmz).mono ?_; rintro e w6 ⟨v6, rfl, ho6, hb6⟩; rw [hfine]; obtain ⟨x6, n6, c6, rfl, hlo6⟩ := ho6.lst; have H56 := Lib.hid (H5.out.below hb6 (Nat.le_refl _)); have HB6 := Lib.hid (HB5.out.trans (hb6.mono HB5.out.size)); have HS6 := Lib.hid hb6.size; have HLO6 := Lib.hid hlo6; clear ho6 hb6 hlo6))
                  go_ret3
                  exact rdPut_of HF.out (H56.out.more HS6.out) (HBW.out.trans (HB6.out.mono hwX))
                · have HF := Lib.hid (HSET.out.trans (by rw [if_neg HTEST.out, if_neg (by rw [hok5]; simp), if_neg (by rw [hfine]; simp)]))
                  have hzM : ∀ k, (nthE (putE (entsAt l p) (nm, (setB leaf l c r).2.1)).1 k).1.size ≤ maxLen := put_names hzE hnmz
                  go_wp2_with (first
                    | (go_at_call 45; refine (specL4Get_any x n cap l c B _ (HLSF.out _ HB1.out)).mono ?_; rintro e w' ⟨rfl, rfl⟩; rw [hgo])
                    | (go_at_call 94; refine (ih _ _ n cap _ _ l c B B1 _ (HLSF.out _ HB1.out) (HRF.out _ HB1.out) (Nat.le_trans hB (Nat.le_trans hwX HB1.out.size)) (Nat.le_trans hB1 (Nat.le_trans hwX HB1.out.size)) hz hzr hmr).mono ?_; rintro e w5 ⟨x5, n5, c5, rfl, h5, hb5⟩; rw [hok5]; have H5 := Lib.hid h5; have HB5 := Lib.hid (HB1.out.trans (hb5.mono HB1.out.size)); have hpc5 := HPC.out _ HB5.out; clear h5 hb5)
                    | (go_at_call 104; refine (specPutEntry_any xo no co (entsAt l p) (nm, (setB leaf l c r).2.1) WX.heap.size _ (HLO.out.below HB5.out (Nat.le_refl _)) HB5.out.size hzE hnmz).mono ?_; rintro e w6 ⟨v6, rfl, ho6, hb6⟩; rw [hfine]; obtain ⟨x6, n6, c6, rfl, hlo6⟩ := ho6.lst; have H56 := Lib.hid (H5.out.below hb6 (Nat.le_refl _)); have HB6 := Lib.hid (HB5.out.trans (hb6.mono HB5.out.size)); have HS6 := Lib.hid hb6.size; have HLO6 := Lib.hid hlo6; clear ho6 hb6 hlo6)
                    | (go_at_call 59; refine (specFolderText_any _ _ _ _ _ _ HLO6.out hzM).mono ?_; rintro e w7 ⟨rfl, q7, rfl⟩)
                    | (go_at_call 78; refine (specPutText_any x5 n5 c5 _ _ w5.heap.size _ (H56.out.drewN _) (le_drewN HS6.out) hz5 hft).mono ?_; rintro e w8 ⟨v8, rfl, ho8, hb8⟩; obtain ⟨x8, n8, c8, rfl, hlo8⟩ := ho8.lst; have H8 := Lib.hid hlo8; have HB8 := Lib.hid ((below_drewN HB6.out _).trans (hb8.mono (le_drewN HB6.out.size))); clear ho8 hb8 hlo8))
                  go_ret3
                  exact rdPut_of HF.out H8.out (HBW.out.trans (HB8.out.mono hwX))
            · by_cases hr : r = []
              · have HRN := Lib.hid hr
                have hmm : ((m : Int) == 1) = true := by have h2 := HM1.out; rw [HRN.out] at h2; simp at h2; simp; omega
                clear hr
                have hml1 : (1 : Int) ≤ (m : Int) := by have h2 := HM1.out; omega
                by_cases hc0 : 0 ≤ c
                · by_cases hk1 : kindB (getT l c) = 1
                  · have HTEST := Lib.hid (show ¬ (decide (r = []) && decide (0 ≤ c) && (!getO l c || !decide (kindB (getT l c) = 1))) = true by rw [hgo, decide_eq_true hk1]; simp)
                    have hkd : (kindB (getT l c) != 1) = false := by simpa using hk1
                    clear hk1
                    by_cases hd1 : d = 1
                    · have hm1' : m = 1 := by have h2 := HM1.out; rw [HRN.out] at h2; simpa using h2
                      subst hd1
                      subst hm1'
                      have HRF := Lib.hid (show ∀ w', Below WX.heap.size WX w' → Strs w' B1 (some ⟨b1, o1, none⟩) 0 0 r from fun w' hb => by rw [HRN.out]; exact Lst.empty _ _ _ _ _ (by unfold maxLen; omega))
                      have hz5 : ∀ k, (nthP (setB leaf l c r).1 k).2.size ≤ maxLen := fun k => Nat.le_trans (short_nth (set_short (m := 1048576) (by decide) hz) k) (by unfold maxLen; omega)
                      have hzE : ∀ k, (nthE (entsAt l p) k).1.size ≤ maxLen := fun k => Nat.le_trans (HZS.out k) (by unfold maxLen; omega)
                      have hnmz : nm.size ≤ maxLen := Nat.le_trans (hz1 0) (by unfold maxLen; omega)
                      have hzr : ∀ k, (nthS r k).size ≤ 1048576 := fun k => hz1 (k + 1)
                      have hmr : 0 ≤ 1000 := by omega
                      have hft : ∀ {L : List Ent}, (folderB L).size ≤ maxLen := fun {L} => Nat.le_trans (folderB_size L) (by unfold maxLen; omega)
                      cases hok5 : (setB leaf l c r).2.2
                      · have HF := Lib.hid (HSET.out.trans (by rw [if_neg HTEST.out, if_pos hok5]))
                        go_wp2_with (first
                          | (go_at_call 45; refine (specL4Get_any x n cap l c B _ (HLSF.out _ HB1.out)).mono ?_; rintro e w' ⟨rfl, rfl⟩; rw [hgo])
                          | (go_at_call 105; refine (specTextKind_any _ _ hgc).mono ?_; rintro e w3 ⟨rfl, hb3⟩; have HB3 := Lib.hid (HB1.out.trans (hb3.mono HB1.out.size)); clear hb3)
                          | (go_at_call 94; refine (ih _ _ n cap _ _ l c B B1 _ (HLSF.out _ HB3.out) (HRF.out _ HB3.out) (Nat.le_trans hB (Nat.le_trans hwX HB3.out.size)) (Nat.le_trans hB1 (Nat.le_trans hwX HB3.out.size)) hz hzr hmr).mono ?_; rintro e w5 ⟨x5, n5, c5, rfl, h5, hb5⟩; rw [hok5]; have H5 := Lib.hid h5; have HB5 := Lib.hid (HB3.out.trans (hb5.mono HB3.out.size)); have hpc5 := HPC.out _ HB5.out; clear h5 hb5))
                        go_ret3
                        exact rdPut_of HF.out H5.out (HBW.out.trans (HB5.out.mono hwX))
                      cases hfine : (putE (entsAt l p) (nm, (setB leaf l c r).2.1)).2
                      · have HF := Lib.hid (HSET.out.trans (by rw [if_neg HTEST.out, if_neg (by rw [hok5]; simp), if_pos hfine]))
                        go_wp2_with (first
                          | (go_at_call 45; refine (specL4Get_any x n cap l c B _ (HLSF.out _ HB1.out)).mono ?_; rintro e w' ⟨rfl, rfl⟩; rw [hgo])
                          | (go_at_call 105; refine (specTextKind_any _ _ hgc).mono ?_; rintro e w3 ⟨rfl, hb3⟩; have HB3 := Lib.hid (HB1.out.trans (hb3.mono HB1.out.size)); clear hb3)
                          | (go_at_call 94; refine (ih _ _ n cap _ _ l c B B1 _ (HLSF.out _ HB3.out) (HRF.out _ HB3.out) (Nat.le_trans hB (Nat.le_trans hwX HB3.out.size)) (Nat.le_trans hB1 (Nat.le_trans hwX HB3.out.size)) hz hzr hmr).mono ?_; rintro e w5 ⟨x5, n5, c5, rfl, h5, hb5⟩; rw [hok5]; have H5 := Lib.hid h5; have HB5 := Lib.hid (HB3.out.trans (hb5.mono HB3.out.size)); have hpc5 := HPC.out _ HB5.out; clear h5 hb5)
                          | (go_at_call 104; refine (specPutEntry_any xo no co (entsAt l p) (nm, (setB leaf l c r).2.1) WX.heap.size _ (HLO.out.below HB5.out (Nat.le_refl _)) HB5.out.size hzE hnmz).mono ?_; rintro e w6 ⟨v6, rfl, ho6, hb6⟩; rw [hfine]; obtain ⟨x6, n6, c6, rfl, hlo6⟩ := ho6.lst; have H56 := Lib.hid (H5.out.below hb6 (Nat.le_refl _)); have HB6 := Lib.hid (HB5.out.trans (hb6.mono HB5.out.size)); have HS6 := Lib.hid hb6.size; have HLO6 := Lib.hid hlo6; clear ho6 hb6 hlo6))
                        go_ret3
                        exact rdPut_of HF.out (H56.out.more HS6.out) (HBW.out.trans (HB6.out.mono hwX))
                      · have HF := Lib.hid (HSET.out.trans (by rw [if_neg HTEST.out, if_neg (by rw [hok5]; simp), if_neg (by rw [hfine]; simp)]))
                        have hzM : ∀ k, (nthE (putE (entsAt l p) (nm, (setB leaf l c r).2.1)).1 k).1.size ≤ maxLen := put_names hzE hnmz
                        go_wp2_with (first
                          | (go_at_call 45; refine (specL4Get_any x n cap l c B _ (HLSF.out _ HB1.out)).mono ?_; rintro e w' ⟨rfl, rfl⟩; rw [hgo])
                          | (go_at_call 105; refine (specTextKind_any _ _ hgc).mono ?_; rintro e w3 ⟨rfl, hb3⟩; have HB3 := Lib.hid (HB1.out.trans (hb3.mono HB1.out.size)); clear hb3)
                          | (go_at_call 94; refine (ih _ _ n cap _ _ l c B B1 _ (HLSF.out _ HB3.out) (HRF.out _ HB3.out) (Nat.le_trans hB (Nat.le_trans hwX HB3.out.size)) (Nat.le_trans hB1 (Nat.le_trans hwX HB3.out.size)) hz hzr hmr).mono ?_; rintro e w5 ⟨x5, n5, c5, rfl, h5, hb5⟩; rw [hok5]; have H5 := Lib.hid h5; have HB5 := Lib.hid (HB3.out.trans (hb5.mono HB3.out.size)); have hpc5 := HPC.out _ HB5.out; clear h5 hb5)
                          | (go_at_call 104; refine (specPutEntry_any xo no co (entsAt l p) (nm, (setB leaf l c r).2.1) WX.heap.size _ (HLO.out.below HB5.out (Nat.le_refl _)) HB5.out.size hzE hnmz).mono ?_; rintro e w6 ⟨v6, rfl, ho6, hb6⟩; rw [hfine]; obtain ⟨x6, n6, c6, rfl, hlo6⟩ := ho6.lst; have H56 := Lib.hid (H5.out.below hb6 (Nat.le_refl _)); have HB6 := Lib.hid (HB5.out.trans (hb6.mono HB5.out.size)); have HS6 := Lib.hid hb6.size; have HLO6 := Lib.hid hlo6; clear ho6 hb6 hlo6)
                          | (go_at_call 59; refine (specFolderText_any _ _ _ _ _ _ HLO6.out hzM).mono ?_; rintro e w7 ⟨rfl, q7, rfl⟩)
                          | (go_at_call 78; refine (specPutText_any x5 n5 c5 _ _ w5.heap.size _ (H56.out.drewN _) (le_drewN HS6.out) hz5 hft).mono ?_; rintro e w8 ⟨v8, rfl, ho8, hb8⟩; obtain ⟨x8, n8, c8, rfl, hlo8⟩ := ho8.lst; have H8 := Lib.hid hlo8; have HB8 := Lib.hid ((below_drewN HB6.out _).trans (hb8.mono (le_drewN HB6.out.size))); clear ho8 hb8 hlo8))
                        go_ret3
                        exact rdPut_of HF.out H8.out (HBW.out.trans (HB8.out.mono hwX))
                    · have hd2 : (1 : Int) ≤ (d : Int) := by omega
                      have hdd : ¬ d = 1 := hd1
                      have HRF := Lib.hid (show ∀ w', Below WX.heap.size WX w' → Strs w' B1 (some ⟨b1, o1 + 1, none⟩) (m - 1) (d - 1) r from fun w' hb => Lst.rest encStr (HPSF.out w' hb) (m := 1) (by have h2 := HM1.out; omega))
                      have hz5 : ∀ k, (nthP (setB leaf l c r).1 k).2.size ≤ maxLen := fun k => Nat.le_trans (short_nth (set_short (m := 1048576) (by decide) hz) k) (by unfold maxLen; omega)
                      have hzE : ∀ k, (nthE (entsAt l p) k).1.size ≤ maxLen := fun k => Nat.le_trans (HZS.out k) (by unfold maxLen; omega)
                      have hnmz : nm.size ≤ maxLen := Nat.le_trans (hz1 0) (by unfold maxLen; omega)
                      have hzr : ∀ k, (nthS r k).size ≤ 1048576 := fun k => hz1 (k + 1)
                      have hmr : m - 1 ≤ 1000 := by omega
                      have hft : ∀ {L : List Ent}, (folderB L).size ≤ maxLen := fun {L} => Nat.le_trans (folderB_size L) (by unfold maxLen; omega)
                      cases hok5 : (setB leaf l c r).2.2
                      · have HF := Lib.hid (HSET.out.trans (by rw [if_neg HTEST.out, if_pos hok5]))
                        go_wp2_with (first
                          | (go_at_call 45; refine (specL4Get_any x n cap l c B _ (HLSF.out _ HB1.out)).mono ?_; rintro e w' ⟨rfl, rfl⟩; rw [hgo])
                          | (go_at_call 105; refine (specTextKind_any _ _ hgc).mono ?_; rintro e w3 ⟨rfl, hb3⟩; have HB3 := Lib.hid (HB1.out.trans (hb3.mono HB1.out.size)); clear hb3)
                          | (go_at_call 94; refine (ih _ _ n cap _ _ l c B B1 _ (HLSF.out _ HB3.out) (HRF.out _ HB3.out) (Nat.le_trans hB (Nat.le_trans hwX HB3.out.size)) (Nat.le_trans hB1 (Nat.le_trans hwX HB3.out.size)) hz hzr hmr).mono ?_; rintro e w5 ⟨x5, n5, c5, rfl, h5, hb5⟩; rw [hok5]; have H5 := Lib.hid h5; have HB5 := Lib.hid (HB3.out.trans (hb5.mono HB3.out.size)); have hpc5 := HPC.out _ HB5.out; clear h5 hb5))
                        go_ret3
                        exact rdPut_of HF.out H5.out (HBW.out.trans (HB5.out.mono hwX))
                      cases hfine : (putE (entsAt l p) (nm, (setB leaf l c r).2.1)).2
                      · have HF := Lib.hid (HSET.out.trans (by rw [if_neg HTEST.out, if_neg (by rw [hok5]; simp), if_pos hfine]))
                        go_wp2_with (first
                          | (go_at_call 45; refine (specL4Get_any x n cap l c B _ (HLSF.out _ HB1.out)).mono ?_; rintro e w' ⟨rfl, rfl⟩; rw [hgo])
                          | (go_at_call 105; refine (specTextKind_any _ _ hgc).mono ?_; rintro e w3 ⟨rfl, hb3⟩; have HB3 := Lib.hid (HB1.out.trans (hb3.mono HB1.out.size)); clear hb3)
                          | (go_at_call 94; refine (ih _ _ n cap _ _ l c B B1 _ (HLSF.out _ HB3.out) (HRF.out _ HB3.out) (Nat.le_trans hB (Nat.le_trans hwX HB3.out.size)) (Nat.le_trans hB1 (Nat.le_trans hwX HB3.out.size)) hz hzr hmr).mono ?_; rintro e w5 ⟨x5, n5, c5, rfl, h5, hb5⟩; rw [hok5]; have H5 := Lib.hid h5; have HB5 := Lib.hid (HB3.out.trans (hb5.mono HB3.out.size)); have hpc5 := HPC.out _ HB5.out; clear h5 hb5)
                          | (go_at_call 104; refine (specPutEntry_any xo no co (entsAt l p) (nm, (setB leaf l c r).2.1) WX.heap.size _ (HLO.out.below HB5.out (Nat.le_refl _)) HB5.out.size hzE hnmz).mono ?_; rintro e w6 ⟨v6, rfl, ho6, hb6⟩; rw [hfine]; obtain ⟨x6, n6, c6, rfl, hlo6⟩ := ho6.lst; have H56 := Lib.hid (H5.out.below hb6 (Nat.le_refl _)); have HB6 := Lib.hid (HB5.out.trans (hb6.mono HB5.out.size)); have HS6 := Lib.hid hb6.size; have HLO6 := Lib.hid hlo6; clear ho6 hb6 hlo6))
                        go_ret3
                        exact rdPut_of HF.out (H56.out.more HS6.out) (HBW.out.trans (HB6.out.mono hwX))
                      · have HF := Lib.hid (HSET.out.trans (by rw [if_neg HTEST.out, if_neg (by rw [hok5]; simp), if_neg (by rw [hfine]; simp)]))
                        have hzM : ∀ k, (nthE (putE (entsAt l p) (nm, (setB leaf l c r).2.1)).1 k).1.size ≤ maxLen := put_names hzE hnmz
                        go_wp2_with (first
                          | (go_at_call 45; refine (specL4Get_any x n cap l c B _ (HLSF.out _ HB1.out)).mono ?_; rintro e w' ⟨rfl, rfl⟩; rw [hgo])
                          | (go_at_call 105; refine (specTextKind_any _ _ hgc).mono ?_; rintro e w3 ⟨rfl, hb3⟩; have HB3 := Lib.hid (HB1.out.trans (hb3.mono HB1.out.size)); clear hb3)
                          | (go_at_call 94; refine (ih _ _ n cap _ _ l c B B1 _ (HLSF.out _ HB3.out) (HRF.out _ HB3.out) (Nat.le_trans hB (Nat.le_trans hwX HB3.out.size)) (Nat.le_trans hB1 (Nat.le_trans hwX HB3.out.size)) hz hzr hmr).mono ?_; rintro e w5 ⟨x5, n5, c5, rfl, h5, hb5⟩; rw [hok5]; have H5 := Lib.hid h5; have HB5 := Lib.hid (HB3.out.trans (hb5.mono HB3.out.size)); have hpc5 := HPC.out _ HB5.out; clear h5 hb5)
                          | (go_at_call 104; refine (specPutEntry_any xo no co (entsAt l p) (nm, (setB leaf l c r).2.1) WX.heap.size _ (HLO.out.below HB5.out (Nat.le_refl _)) HB5.out.size hzE hnmz).mono ?_; rintro e w6 ⟨v6, rfl, ho6, hb6⟩; rw [hfine]; obtain ⟨x6, n6, c6, rfl, hlo6⟩ := ho6.lst; have H56 := Lib.hid (H5.out.below hb6 (Nat.le_refl _)); have HB6 := Lib.hid (HB5.out.trans (hb6.mono HB5.out.size)); have HS6 := Lib.hid hb6.size; have HLO6 := Lib.hid hlo6; clear ho6 hb6 hlo6)
                          | (go_at_call 59; refine (specFolderText_any _ _ _ _ _ _ HLO6.out hzM).mono ?_; rintro e w7 ⟨rfl, q7, rfl⟩)
                          | (go_at_call 78; refine (specPutText_any x5 n5 c5 _ _ w5.heap.size _ (H56.out.drewN _) (le_drewN HS6.out) hz5 hft).mono ?_; rintro e w8 ⟨v8, rfl, ho8, hb8⟩; obtain ⟨x8, n8, c8, rfl, hlo8⟩ := ho8.lst; have H8 := Lib.hid hlo8; have HB8 := Lib.hid ((below_drewN HB6.out _).trans (hb8.mono (le_drewN HB6.out.size))); clear ho8 hb8 hlo8))
                        go_ret3
                        exact rdPut_of HF.out H8.out (HBW.out.trans (HB8.out.mono hwX))
                  · have HF := Lib.hid (HSET.out.trans (show _ = (l, -1, false) by rw [if_pos (by rw [hgo, decide_eq_true HRN.out, decide_eq_true hc0, decide_eq_false hk1]; rfl)]))
                    have hkd : (kindB (getT l c) != 1) = true := by simpa using hk1
                    clear hk1
                    go_wp2_with (first
                      | (go_at_call 45; refine (specL4Get_any x n cap l c B _ (HLSF.out _ HB1.out)).mono ?_; rintro e w' ⟨rfl, rfl⟩; rw [hgo])
                      | (go_at_call 105; refine (specTextKind_any _ _ hgc).mono ?_; rintro e w3 ⟨rfl, hb3⟩; have HB3 := Lib.hid (HB1.out.trans (hb3.mono HB1.out.size)); clear hb3))
                    go_ret3
                    exact rdPut_of HF.out ((HLSF.out _ HB3.out).more (Nat.le_trans hB (Nat.le_trans hwX HB3.out.size))) (HBW.out.trans (HB3.out.mono hwX))
                · have HTEST := Lib.hid (show ¬ (decide (r = []) && decide (0 ≤ c) && (!getO l c || !decide (kindB (getT l c) = 1))) = true by rw [decide_eq_false hc0]; simp)
                  have hc0' : c < 0 := by omega
                  by_cases hd1 : d = 1
                  · have hm1' : m = 1 := by have h2 := HM1.out; rw [HRN.out] at h2; simpa using h2
                    subst hd1
                    subst hm1'
                    have HRF := Lib.hid (show ∀ w', Below WX.heap.size WX w' → Strs w' B1 (some ⟨b1, o1, none⟩) 0 0 r from fun w' hb => by rw [HRN.out]; exact Lst.empty _ _ _ _ _ (by unfold maxLen; omega))
                    have hz5 : ∀ k, (nthP (setB leaf l c r).1 k).2.size ≤ maxLen := fun k => Nat.le_trans (short_nth (set_short (m := 1048576) (by decide) hz) k) (by unfold maxLen; omega)
                    have hzE : ∀ k, (nthE (entsAt l p) k).1.size ≤ maxLen := fun k => Nat.le_trans (HZS.out k) (by unfold maxLen; omega)
                    have hnmz : nm.size ≤ maxLen := Nat.le_trans (hz1 0) (by unfold maxLen; omega)
                    have hzr : ∀ k, (nthS r k).size ≤ 1048576 := fun k => hz1 (k + 1)
                    have hmr : 0 ≤ 1000 := by omega
                    have hft : ∀ {L : List Ent}, (folderB L).size ≤ maxLen := fun {L} => Nat.le_trans (folderB_size L) (by unfold maxLen; omega)
                    cases hok5 : (setB leaf l c r).2.2
                    · have HF := Lib.hid (HSET.out.trans (by rw [if_neg HTEST.out, if_pos hok5]))
                      go_wp2_with (first
                        | (go_at_call 45; refine (specL4Get_any x n cap l c B _ (HLSF.out _ HB1.out)).mono ?_; rintro e w' ⟨rfl, rfl⟩; rw [hgo])
                        | (go_at_call 94; refine (ih _ _ n cap _ _ l c B B1 _ (HLSF.out _ HB1.out) (HRF.out _ HB1.out) (Nat.le_trans hB (Nat.le_trans hwX HB1.out.size)) (Nat.le_trans hB1 (Nat.le_trans hwX HB1.out.size)) hz hzr hmr).mono ?_; rintro e w5 ⟨x5, n5, c5, rfl, h5, hb5⟩; rw [hok5]; have H5 := Lib.hid h5; have HB5 := Lib.hid (HB1.out.trans (hb5.mono HB1.out.size)); have hpc5 := HPC.out _ HB5.out; clear h5 hb5))
                      go_ret3
                      exact rdPut_of HF.out H5.out (HBW.out.trans (HB5.out.mono hwX))
                    cases hfine : (putE (entsAt l p) (nm, (setB leaf l c r).2.1)).2
                    · have HF := Lib.hid (HSET.out.trans (by rw [if_neg HTEST.out, if_neg (by rw [hok5]; simp), if_pos hfine]))
                      go_wp2_with (first
                        | (go_at_call 45; refine (specL4Get_any x n cap l c B _ (HLSF.out _ HB1.out)).mono ?_; rintro e w' ⟨rfl, rfl⟩; rw [hgo])
                        | (go_at_call 94; refine (ih _ _ n cap _ _ l c B B1 _ (HLSF.out _ HB1.out) (HRF.out _ HB1.out) (Nat.le_trans hB (Nat.le_trans hwX HB1.out.size)) (Nat.le_trans hB1 (Nat.le_trans hwX HB1.out.size)) hz hzr hmr).mono ?_; rintro e w5 ⟨x5, n5, c5, rfl, h5, hb5⟩; rw [hok5]; have H5 := Lib.hid h5; have HB5 := Lib.hid (HB1.out.trans (hb5.mono HB1.out.size)); have hpc5 := HPC.out _ HB5.out; clear h5 hb5)
                        | (go_at_call 104; refine (specPutEntry_any xo no co (entsAt l p) (nm, (setB leaf l c r).2.1) WX.heap.size _ (HLO.out.below HB5.out (Nat.le_refl _)) HB5.out.size hzE hnmz).mono ?_; rintro e w6 ⟨v6, rfl, ho6, hb6⟩; rw [hfine]; obtain ⟨x6, n6, c6, rfl, hlo6⟩ := ho6.lst; have H56 := Lib.hid (H5.out.below hb6 (Nat.le_refl _)); have HB6 := Lib.hid (HB5.out.trans (hb6.mono HB5.out.size)); have HS6 := Lib.hid hb6.size; have HLO6 := Lib.hid hlo6; clear ho6 hb6 hlo6))
                      go_ret3
                      exact rdPut_of HF.out (H56.out.more HS6.out) (HBW.out.trans (HB6.out.mono hwX))
                    · have HF := Lib.hid (HSET.out.trans (by rw [if_neg HTEST.out, if_neg (by rw [hok5]; simp), if_neg (by rw [hfine]; simp)]))
                      have hzM : ∀ k, (nthE (putE (entsAt l p) (nm, (setB leaf l c r).2.1)).1 k).1.size ≤ maxLen := put_names hzE hnmz
                      go_wp2_with (first
                        | (go_at_call 45; refine (specL4Get_any x n cap l c B _ (HLSF.out _ HB1.out)).mono ?_; rintro e w' ⟨rfl, rfl⟩; rw [hgo])
                        | (go_at_call 94; refine (ih _ _ n cap _ _ l c B B1 _ (HLSF.out _ HB1.out) (HRF.out _ HB1.out) (Nat.le_trans hB (Nat.le_trans hwX HB1.out.size)) (Nat.le_trans hB1 (Nat.le_trans hwX HB1.out.size)) hz hzr hmr).mono ?_; rintro e w5 ⟨x5, n5, c5, rfl, h5, hb5⟩; rw [hok5]; have H5 := Lib.hid h5; have HB5 := Lib.hid (HB1.out.trans (hb5.mono HB1.out.size)); have hpc5 := HPC.out _ HB5.out; clear h5 hb5)
                        | (go_at_call 104; refine (specPutEntry_any xo no co (entsAt l p) (nm, (setB leaf l c r).2.1) WX.heap.size _ (HLO.out.below HB5.out (Nat.le_refl _)) HB5.out.size hzE hnmz).mono ?_; rintro e w6 ⟨v6, rfl, ho6, hb6⟩; rw [hfine]; obtain ⟨x6, n6, c6, rfl, hlo6⟩ := ho6.lst; have H56 := Lib.hid (H5.out.below hb6 (Nat.le_refl _)); have HB6 := Lib.hid (HB5.out.trans (hb6.mono HB5.out.size)); have HS6 := Lib.hid hb6.size; have HLO6 := Lib.hid hlo6; clear ho6 hb6 hlo6)
                        | (go_at_call 59; refine (specFolderText_any _ _ _ _ _ _ HLO6.out hzM).mono ?_; rintro e w7 ⟨rfl, q7, rfl⟩)
                        | (go_at_call 78; refine (specPutText_any x5 n5 c5 _ _ w5.heap.size _ (H56.out.drewN _) (le_drewN HS6.out) hz5 hft).mono ?_; rintro e w8 ⟨v8, rfl, ho8, hb8⟩; obtain ⟨x8, n8, c8, rfl, hlo8⟩ := ho8.lst; have H8 := Lib.hid hlo8; have HB8 := Lib.hid ((below_drewN HB6.out _).trans (hb8.mono (le_drewN HB6.out.size))); clear ho8 hb8 hlo8))
                      go_ret3
                      exact rdPut_of HF.out H8.out (HBW.out.trans (HB8.out.mono hwX))
                  · have hd2 : (1 : Int) ≤ (d : Int) := by omega
                    have hdd : ¬ d = 1 := hd1
                    have HRF := Lib.hid (show ∀ w', Below WX.heap.size WX w' → Strs w' B1 (some ⟨b1, o1 + 1, none⟩) (m - 1) (d - 1) r from fun w' hb => Lst.rest encStr (HPSF.out w' hb) (m := 1) (by have h2 := HM1.out; omega))
                    have hz5 : ∀ k, (nthP (setB leaf l c r).1 k).2.size ≤ maxLen := fun k => Nat.le_trans (short_nth (set_short (m := 1048576) (by decide) hz) k) (by unfold maxLen; omega)
                    have hzE : ∀ k, (nthE (entsAt l p) k).1.size ≤ maxLen := fun k => Nat.le_trans (HZS.out k) (by unfold maxLen; omega)
                    have hnmz : nm.size ≤ maxLen := Nat.le_trans (hz1 0) (by unfold maxLen; omega)
                    have hzr : ∀ k, (nthS r k).size ≤ 1048576 := fun k => hz1 (k + 1)
                    have hmr : m - 1 ≤ 1000 := by omega
                    have hft : ∀ {L : List Ent}, (folderB L).size ≤ maxLen := fun {L} => Nat.le_trans (folderB_size L) (by unfold maxLen; omega)
                    cases hok5 : (setB leaf l c r).2.2
                    · have HF := Lib.hid (HSET.out.trans (by rw [if_neg HTEST.out, if_pos hok5]))
                      go_wp2_with (first
                        | (go_at_call 45; refine (specL4Get_any x n cap l c B _ (HLSF.out _ HB1.out)).mono ?_; rintro e w' ⟨rfl, rfl⟩; rw [hgo])
                        | (go_at_call 94; refine (ih _ _ n cap _ _ l c B B1 _ (HLSF.out _ HB1.out) (HRF.out _ HB1.out) (Nat.le_trans hB (Nat.le_trans hwX HB1.out.size)) (Nat.le_trans hB1 (Nat.le_trans hwX HB1.out.size)) hz hzr hmr).mono ?_; rintro e w5 ⟨x5, n5, c5, rfl, h5, hb5⟩; rw [hok5]; have H5 := Lib.hid h5; have HB5 := Lib.hid (HB1.out.trans (hb5.mono HB1.out.size)); have hpc5 := HPC.out _ HB5.out; clear h5 hb5))
                      go_ret3
                      exact rdPut_of HF.out H5.out (HBW.out.trans (HB5.out.mono hwX))
                    cases hfine : (putE (entsAt l p) (nm, (setB leaf l c r).2.1)).2
                    · have HF := Lib.hid (HSET.out.trans (by rw [if_neg HTEST.out, if_neg (by rw [hok5]; simp), if_pos hfine]))
                      go_wp2_with (first
                        | (go_at_call 45; refine (specL4Get_any x n cap l c B _ (HLSF.out _ HB1.out)).mono ?_; rintro e w' ⟨rfl, rfl⟩; rw [hgo])
                        | (go_at_call 94; refine (ih _ _ n cap _ _ l c B B1 _ (HLSF.out _ HB1.out) (HRF.out _ HB1.out) (Nat.le_trans hB (Nat.le_trans hwX HB1.out.size)) (Nat.le_trans hB1 (Nat.le_trans hwX HB1.out.size)) hz hzr hmr).mono ?_; rintro e w5 ⟨x5, n5, c5, rfl, h5, hb5⟩; rw [hok5]; have H5 := Lib.hid h5; have HB5 := Lib.hid (HB1.out.trans (hb5.mono HB1.out.size)); have hpc5 := HPC.out _ HB5.out; clear h5 hb5)
                        | (go_at_call 104; refine (specPutEntry_any xo no co (entsAt l p) (nm, (setB leaf l c r).2.1) WX.heap.size _ (HLO.out.below HB5.out (Nat.le_refl _)) HB5.out.size hzE hnmz).mono ?_; rintro e w6 ⟨v6, rfl, ho6, hb6⟩; rw [hfine]; obtain ⟨x6, n6, c6, rfl, hlo6⟩ := ho6.lst; have H56 := Lib.hid (H5.out.below hb6 (Nat.le_refl _)); have HB6 := Lib.hid (HB5.out.trans (hb6.mono HB5.out.size)); have HS6 := Lib.hid hb6.size; have HLO6 := Lib.hid hlo6; clear ho6 hb6 hlo6))
                      go_ret3
                      exact rdPut_of HF.out (H56.out.more HS6.out) (HBW.out.trans (HB6.out.mono hwX))
                    · have HF := Lib.hid (HSET.out.trans (by rw [if_neg HTEST.out, if_neg (by rw [hok5]; simp), if_neg (by rw [hfine]; simp)]))
                      have hzM : ∀ k, (nthE (putE (entsAt l p) (nm, (setB leaf l c r).2.1)).1 k).1.size ≤ maxLen := put_names hzE hnmz
                      go_wp2_with (first
                        | (go_at_call 45; refine (specL4Get_any x n cap l c B _ (HLSF.out _ HB1.out)).mono ?_; rintro e w' ⟨rfl, rfl⟩; rw [hgo])
                        | (go_at_call 94; refine (ih _ _ n cap _ _ l c B B1 _ (HLSF.out _ HB1.out) (HRF.out _ HB1.out) (Nat.le_trans hB (Nat.le_trans hwX HB1.out.size)) (Nat.le_trans hB1 (Nat.le_trans hwX HB1.out.size)) hz hzr hmr).mono ?_; rintro e w5 ⟨x5, n5, c5, rfl, h5, hb5⟩; rw [hok5]; have H5 := Lib.hid h5; have HB5 := Lib.hid (HB1.out.trans (hb5.mono HB1.out.size)); have hpc5 := HPC.out _ HB5.out; clear h5 hb5)
                        | (go_at_call 104; refine (specPutEntry_any xo no co (entsAt l p) (nm, (setB leaf l c r).2.1) WX.heap.size _ (HLO.out.below HB5.out (Nat.le_refl _)) HB5.out.size hzE hnmz).mono ?_; rintro e w6 ⟨v6, rfl, ho6, hb6⟩; rw [hfine]; obtain ⟨x6, n6, c6, rfl, hlo6⟩ := ho6.lst; have H56 := Lib.hid (H5.out.below hb6 (Nat.le_refl _)); have HB6 := Lib.hid (HB5.out.trans (hb6.mono HB5.out.size)); have HS6 := Lib.hid hb6.size; have HLO6 := Lib.hid hlo6; clear ho6 hb6 hlo6)
                        | (go_at_call 59; refine (specFolderText_any _ _ _ _ _ _ HLO6.out hzM).mono ?_; rintro e w7 ⟨rfl, q7, rfl⟩)
                        | (go_at_call 78; refine (specPutText_any x5 n5 c5 _ _ w5.heap.size _ (H56.out.drewN _) (le_drewN HS6.out) hz5 hft).mono ?_; rintro e w8 ⟨v8, rfl, ho8, hb8⟩; obtain ⟨x8, n8, c8, rfl, hlo8⟩ := ho8.lst; have H8 := Lib.hid hlo8; have HB8 := Lib.hid ((below_drewN HB6.out _).trans (hb8.mono (le_drewN HB6.out.size))); clear ho8 hb8 hlo8))
                      go_ret3
                      exact rdPut_of HF.out H8.out (HBW.out.trans (HB8.out.mono hwX))
              · have HTEST := Lib.hid (show ¬ (decide (r = []) && decide (0 ≤ c) && (!getO l c || !decide (kindB (getT l c) = 1))) = true by rw [decide_eq_false hr]; simp)
                have hrl : 0 < r.length := List.length_pos_iff.2 hr
                have hmm : ((m : Int) == 1) = false := by have h2 := HM1.out; simp; omega
                have hd1 : ¬ d = 1 := by have h2 := HM1.out; omega
                have hml1 : (1 : Int) ≤ (m : Int) := by have h2 := HM1.out; omega
                clear hr hrl
                have HRF := Lib.hid (show ∀ w', Below WX.heap.size WX w' → Strs w' B1 (some ⟨b1, o1 + 1, none⟩) (m - 1) (d - 1) r from fun w' hb => Lst.rest encStr (HPSF.out w' hb) (m := 1) (by have h2 := HM1.out; omega))
                have hz5 : ∀ k, (nthP (setB leaf l c r).1 k).2.size ≤ maxLen := fun k => Nat.le_trans (short_nth (set_short (m := 1048576) (by decide) hz) k) (by unfold maxLen; omega)
                have hzE : ∀ k, (nthE (entsAt l p) k).1.size ≤ maxLen := fun k => Nat.le_trans (HZS.out k) (by unfold maxLen; omega)
                have hnmz : nm.size ≤ maxLen := Nat.le_trans (hz1 0) (by unfold maxLen; omega)
                have hzr : ∀ k, (nthS r k).size ≤ 1048576 := fun k => hz1 (k + 1)
                have hmr : m - 1 ≤ 1000 := by omega
                have hft : ∀ {L : List Ent}, (folderB L).size ≤ maxLen := fun {L} => Nat.le_trans (folderB_size L) (by unfold maxLen; omega)
                cases hok5 : (setB leaf l c r).2.2
                · have HF := Lib.hid (HSET.out.trans (by rw [if_neg HTEST.out, if_pos hok5]))
                  go_wp2_with (first
                    | (go_at_call 45; refine (specL4Get_any x n cap l c B _ (HLSF.out _ HB1.out)).mono ?_; rintro e w' ⟨rfl, rfl⟩; rw [hgo])
                    | (go_at_call 94; refine (ih _ _ n cap _ _ l c B B1 _ (HLSF.out _ HB1.out) (HRF.out _ HB1.out) (Nat.le_trans hB (Nat.le_trans hwX HB1.out.size)) (Nat.le_trans hB1 (Nat.le_trans hwX HB1.out.size)) hz hzr hmr).mono ?_; rintro e w5 ⟨x5, n5, c5, rfl, h5, hb5⟩; rw [hok5]; have H5 := Lib.hid h5; have HB5 := Lib.hid (HB1.out.trans (hb5.mono HB1.out.size)); have hpc5 := HPC.out _ HB5.out; clear h5 hb5))
                  go_ret3
                  exact rdPut_of HF.out H5.out (HBW.out.trans (HB5.out.mono hwX))
                cases hfine : (putE (entsAt l p) (nm, (setB leaf l c r).2.1)).2
                · have HF := Lib.hid (HSET.out.trans (by rw [if_neg HTEST.out, if_neg (by rw [hok5]; simp), if_pos hfine]))
                  go_wp2_with (first
                    | (go_at_call 45; refine (specL4Get_any x n cap l c B _ (HLSF.out _ HB1.out)).mono ?_; rintro e w' ⟨rfl, rfl⟩; rw [hgo])
                    | (go_at_call 94; refine (ih _ _ n cap _ _ l c B B1 _ (HLSF.out _ HB1.out) (HRF.out _ HB1.out) (Nat.le_trans hB (Nat.le_trans hwX HB1.out.size)) (Nat.le_trans hB1 (Nat.le_trans hwX HB1.out.size)) hz hzr hmr).mono ?_; rintro e w5 ⟨x5, n5, c5, rfl, h5, hb5⟩; rw [hok5]; have H5 := Lib.hid h5; have HB5 := Lib.hid (HB1.out.trans (hb5.mono HB1.out.size)); have hpc5 := HPC.out _ HB5.out; clear h5 hb5)
                    | (go_at_call 104; refine (specPutEntry_any xo no co (entsAt l p) (nm, (setB leaf l c r).2.1) WX.heap.size _ (HLO.out.below HB5.out (Nat.le_refl _)) HB5.out.size hzE hnmz).mono ?_; rintro e w6 ⟨v6, rfl, ho6, hb6⟩; rw [hfine]; obtain ⟨x6, n6, c6, rfl, hlo6⟩ := ho6.lst; have H56 := Lib.hid (H5.out.below hb6 (Nat.le_refl _)); have HB6 := Lib.hid (HB5.out.trans (hb6.mono HB5.out.size)); have HS6 := Lib.hid hb6.size; have HLO6 := Lib.hid hlo6; clear ho6 hb6 hlo6))
                  go_ret3
                  exact rdPut_of HF.out (H56.out.more HS6.out) (HBW.out.trans (HB6.out.mono hwX))
                · have HF := Lib.hid (HSET.out.trans (by rw [if_neg HTEST.out, if_neg (by rw [hok5]; simp), if_neg (by rw [hfine]; simp)]))
                  have hzM : ∀ k, (nthE (putE (entsAt l p) (nm, (setB leaf l c r).2.1)).1 k).1.size ≤ maxLen := put_names hzE hnmz
                  go_wp2_with (first
                    | (go_at_call 45; refine (specL4Get_any x n cap l c B _ (HLSF.out _ HB1.out)).mono ?_; rintro e w' ⟨rfl, rfl⟩; rw [hgo])
                    | (go_at_call 94; refine (ih _ _ n cap _ _ l c B B1 _ (HLSF.out _ HB1.out) (HRF.out _ HB1.out) (Nat.le_trans hB (Nat.le_trans hwX HB1.out.size)) (Nat.le_trans hB1 (Nat.le_trans hwX HB1.out.size)) hz hzr hmr).mono ?_; rintro e w5 ⟨x5, n5, c5, rfl, h5, hb5⟩; rw [hok5]; have H5 := Lib.hid h5; have HB5 := Lib.hid (HB1.out.trans (hb5.mono HB1.out.size)); have hpc5 := HPC.out _ HB5.out; clear h5 hb5)
                    | (go_at_call 104; refine (specPutEntry_any xo no co (entsAt l p) (nm, (setB leaf l c r).2.1) WX.heap.size _ (HLO.out.below HB5.out (Nat.le_refl _)) HB5.out.size hzE hnmz).mono ?_; rintro e w6 ⟨v6, rfl, ho6, hb6⟩; rw [hfine]; obtain ⟨x6, n6, c6, rfl, hlo6⟩ := ho6.lst; have H56 := Lib.hid (H5.out.below hb6 (Nat.le_refl _)); have HB6 := Lib.hid (HB5.out.trans (hb6.mono HB5.out.size)); have HS6 := Lib.hid hb6.size; have HLO6 := Lib.hid hlo6; clear ho6 hb6 hlo6)
                    | (go_at_call 59; refine (specFolderText_any _ _ _ _ _ _ HLO6.out hzM).mono ?_; rintro e w7 ⟨rfl, q7, rfl⟩)
                    | (go_at_call 78; refine (specPutText_any x5 n5 c5 _ _ w5.heap.size _ (H56.out.drewN _) (le_drewN HS6.out) hz5 hft).mono ?_; rintro e w8 ⟨v8, rfl, ho8, hb8⟩; obtain ⟨x8, n8, c8, rfl, hlo8⟩ := ho8.lst; have H8 := Lib.hid hlo8; have HB8 := Lib.hid ((below_drewN HB6.out _).trans (hb8.mono (le_drewN HB6.out.size))); clear ho8 hb8 hlo8))
                  go_ret3
                  exact rdPut_of HF.out H8.out (HBW.out.trans (HB8.out.mono hwX))
    · have HE := Lib.hid (show entsAt l p = [] from if_neg hp)
      have HNG := Lib.hid (show ¬ (decide (0 ≤ p) && !isFold (getT l p)) = true by rw [decide_eq_false hp]; simp)
      have hp' : p < 0 := by omega
      obtain ⟨WX, hWX⟩ : ∃ WX, w.alloc (.cells #[] 51) = WX := ⟨_, rfl⟩
      have HBX0 := Lib.hid (show Below w.heap.size w WX by rw [← hWX]; exact (Below.refl w.heap.size w).alloc (Nat.le_refl _) _)
      have HLO := Lib.hid (show Ents WX WX.heap.size (some ⟨w.heap.size, 0, none⟩) 0 0 (entsAt l p) by rw [HE.out]; exact Lst.empty _ _ _ _ _ (by unfold maxLen; omega))
      go_enter Tryz.func94, Tryz.ntmps94
      go_wp2_with fail
      have HBW := Lib.hid (show Below w.heap.size w WX from HBX0.out)
      have hwX : w.heap.size ≤ WX.heap.size := HBX0.out.size
      have HPC := Lib.hid (show ∀ w', Below WX.heap.size WX w' → w'.cell? ⟨b1, o1, none⟩ = some (.string nm) from fun w' hb => by
        have hbb := HBW.out.trans (hb.mono hwX)
        exact (World.cell?_of_block (w := w) (w' := w') (a := ⟨b1, o1, none⟩) (hbb.block b1 (by omega))).trans hc1)
      have HLSF := Lib.hid (show ∀ w', Below WX.heap.size WX w' → Pcs w' B x n cap l from fun w' hb => h.below (HBW.out.trans (hb.mono hwX)) hB)
      have HPSF := Lib.hid (show ∀ w', Below WX.heap.size WX w' → Strs w' B1 (some ⟨b1, o1, none⟩) m d (nm :: r) from fun w' hb => h1.below (HBW.out.trans (hb.mono hwX)) hB1)
      have HZS := Lib.hid (ents_sizes (entsAt_ok l p))
      have HEL := Lib.hid (entsB_at (entsAt_ok l p)).1
      have hlol := HLO.out.len
      have hloc := HLO.out.le
      have hlom := HLO.out.max
      unfold maxLen at hlom
      have hno3 : 0 ≤ 3 := by have := HEL.out; omega
      clear h h1 hc1
      go_loopw [16, 17] (fun cv jv wq => ∃ (j : Nat) (c : Int), j ≤ 0 ∧ jv = .int .i64 j ∧ cv = .int .i64 c ∧ lastE nm (-1) (entsAt l p) = lastE nm c ((entsAt l p).drop j) ∧ ∃ q, wq = WX.drewN q) (fun _ jv _ => 0 - (intOf jv).toNat)
      case atStart => exact ⟨0, -1, by omega, rfl, rfl, by rw [List.drop_zero], 0, rfl⟩
      case round =>
        obtain ⟨j, c, hj, rfl, rfl, hf, hq⟩ := hrel
        have HFL := Lib.hid hf; have HQ := Lib.hid hq; clear hf hq
        have HB1 := Lib.hid (show Below WX.heap.size WX wr by obtain ⟨q, rfl⟩ := HQ.out; exact below_drewN (Below.refl _ _) q)
        have hpc := HPC.out _ HB1.out
        by_cases hjl : j < 0
        · exfalso; omega
        · have HCH := Lib.hid (show lastE nm (-1) (entsAt l p) = c from HFL.out.trans (lastE_end (by omega)))
          have HSET := Lib.hid (show setB leaf l p (nm :: r) = if (decide (r = []) && decide (0 ≤ c) && (!getO l c || !decide (kindB (getT l c) = 1))) = true then (l, -1, false)
              else if (setB leaf l c r).2.2 = false then ((setB leaf l c r).1, -1, false)
              else if (putE (entsAt l p) (nm, (setB leaf l c r).2.1)).2 = false then ((setB leaf l c r).1, -1, false)
              else putB (setB leaf l c r).1 (folderB (putE (entsAt l p) (nm, (setB leaf l c r).2.1)).1) by rw [setB, if_neg HNG.out, HCH.out])
          have hgc : (getT l c).size ≤ 1048576 := getT_size (short_nth hz)
          clear HFL
          cases hgo : getO l c
          · by_cases hr : r = []
            · have HRN := Lib.hid hr
              have hmm : ((m : Int) == 1) = true := by have h2 := HM1.out; rw [HRN.out] at h2; simp at h2; simp; omega
              clear hr
              by_cases hc0 : 0 ≤ c
              · have HF := Lib.hid (HSET.out.trans (show _ = (l, -1, false) by rw [if_pos (by rw [hgo, decide_eq_true HRN.out, decide_eq_true hc0]; rfl)]))
                go_wp2_with (first
                  | (go_at_call 45; refine (specL4Get_any x n cap l c B _ (HLSF.out _ HB1.out)).mono ?_; rintro e w' ⟨rfl, rfl⟩; rw [hgo]))
                go_ret3
                exact rdPut_of HF.out ((HLSF.out _ HB1.out).more (Nat.le_trans hB (Nat.le_trans hwX HB1.out.size))) (HBW.out.trans (HB1.out.mono hwX))
              · have HTEST := Lib.hid (show ¬ (decide (r = []) && decide (0 ≤ c) && (!getO l c || !decide (kindB (getT l c) = 1))) = true by rw [decide_eq_false hc0]; simp)
                have hc0' : c < 0 := by omega
                have hml1 : (1 : Int) ≤ (m : Int) := by have h2 := HM1.out; omega
                by_cases hd1 : d = 1
                · have hm1' : m = 1 := by have h2 := HM1.out; rw [HRN.out] at h2; simpa using h2
                  subst hd1
                  subst hm1'
                  have HRF := Lib.hid (show ∀ w', Below WX.heap.size WX w' → Strs w' B1 (some ⟨b1, o1, none⟩) 0 0 r from fun w' hb => by rw [HRN.out]; exact Lst.empty _ _ _ _ _ (by unfold maxLen; omega))
                  have hz5 : ∀ k, (nthP (setB leaf l c r).1 k).2.size ≤ maxLen := fun k => Nat.le_trans (short_nth (set_short (m := 1048576) (by decide) hz) k) (by unfold maxLen; omega)
                  have hzE : ∀ k, (nthE (entsAt l p) k).1.size ≤ maxLen := fun k => Nat.le_trans (HZS.out k) (by unfold maxLen; omega)
                  have hnmz : nm.size ≤ maxLen := Nat.le_trans (hz1 0) (by unfold maxLen; omega)
                  have hzr : ∀ k, (nthS r k).size ≤ 1048576 := fun k => hz1 (k + 1)
                  have hmr : 0 ≤ 1000 := by omega
                  have hft : ∀ {L : List Ent}, (folderB L).size ≤ maxLen := fun {L} => Nat.le_trans (folderB_size L) (by unfold maxLen; omega)
                  cases hok5 : (setB leaf l c r).2.2
                  · have HF := Lib.hid (HSET.out.trans (by rw [if_neg HTEST.out, if_pos hok5]))
                    go_wp2_with (first
                      | (go_at_call 45; refine (specL4Get_any x n cap l c B _ (HLSF.out _ HB1.out)).mono ?_; rintro e w' ⟨rfl, rfl⟩; rw [hgo])
                      | (go_at_call 94; refine (ih _ _ n cap _ _ l c B B1 _ (HLSF.out _ HB1.out) (HRF.out _ HB1.out) (Nat.le_trans hB (Nat.le_trans hwX HB1.out.size)) (Nat.le_trans hB1 (Nat.le_trans hwX HB1.out.size)) hz hzr hmr).mono ?_; rintro e w5 ⟨x5, n5, c5, rfl, h5, hb5⟩; rw [hok5]; have H5 := Lib.hid h5; have HB5 := Lib.hid (HB1.out.trans (hb5.mono HB1.out.size)); have hpc5 := HPC.out _ HB5.out; clear h5 hb5))
                    go_ret3
                    exact rdPut_of HF.out H5.out (HBW.out.trans (HB5.out.mono hwX))
                  cases hfine : (putE (entsAt l p) (nm, (setB leaf l c r).2.1)).2
                  · have HF := Lib.hid (HSET.out.trans (by rw [if_neg HTEST.out, if_neg (by rw [hok5]; simp), if_pos hfine]))
                    go_wp2_with (first
                      | (go_at_call 45; refine (specL4Get_any x n cap l c B _ (HLSF.out _ HB1.out)).mono ?_; rintro e w' ⟨rfl, rfl⟩; rw [hgo])
                      | (go_at_call 94; refine (ih _ _ n cap _ _ l c B B1 _ (HLSF.out _ HB1.out) (HRF.out _ HB1.out) (Nat.le_trans hB (Nat.le_trans hwX HB1.out.size)) (Nat.le_trans hB1 (Nat.le_trans hwX HB1.out.size)) hz hzr hmr).mono ?_; rintro e w5 ⟨x5, n5, c5, rfl, h5, hb5⟩; rw [hok5]; have H5 := Lib.hid h5; have HB5 := Lib.hid (HB1.out.trans (hb5.mono HB1.out.size)); have hpc5 := HPC.out _ HB5.out; clear h5 hb5)
                      | (go_at_call 104; refine (specPutEntry_any (some ⟨w.heap.size, 0, none⟩) 0 0 (entsAt l p) (nm, (setB leaf l c r).2.1) WX.heap.size _ (HLO.out.below HB5.out (Nat.le_refl _)) HB5.out.size hzE hnmz).mono ?_; rintro e w6 ⟨v6, rfl, ho6, hb6⟩; rw [hfine]; obtain ⟨x6, n6, c6, rfl, hlo6⟩ := ho6.lst; have H56 := Lib.hid (H5.out.below hb6 (Nat.le_refl _)); have HB6 := Lib.hid (HB5.out.trans (hb6.mono HB5.out.size)); have HS6 := Lib.hid hb6.size; have HLO6 := Lib.hid hlo6; clear ho6 hb6 hlo6))
                    go_ret3
                    exact rdPut_of HF.out (H56.out.more HS6.out) (HBW.out.trans (HB6.out.mono hwX))
                  · have HF := Lib.hid (HSET.out.trans (by rw [if_neg HTEST.out, if_neg (by rw [hok5]; simp), if_neg (by rw [hfine]; simp)]))
                    have hzM : ∀ k, (nthE (putE (entsAt l p) (nm, (setB leaf l c r).2.1)).1 k).1.size ≤ maxLen := put_names hzE hnmz
                    go_wp2_with (first
                      | (go_at_call 45; refine (specL4Get_any x n cap l c B _ (HLSF.out _ HB1.out)).mono ?_; rintro e w' ⟨rfl, rfl⟩; rw [hgo])
                      | (go_at_call 94; refine (ih _ _ n cap _ _ l c B B1 _ (HLSF.out _ HB1.out) (HRF.out _ HB1.out) (Nat.le_trans hB (Nat.le_trans hwX HB1.out.size)) (Nat.le_trans hB1 (Nat.le_trans hwX HB1.out.size)) hz hzr hmr).mono ?_; rintro e w5 ⟨x5, n5, c5, rfl, h5, hb5⟩; rw [hok5]; have H5 := Lib.hid h5; have HB5 := Lib.hid (HB1.out.trans (hb5.mono HB1.out.size)); have hpc5 := HPC.out _ HB5.out; clear h5 hb5)
                      | (go_at_call 104; refine (specPutEntry_any (some ⟨w.heap.size, 0, none⟩) 0 0 (entsAt l p) (nm, (setB leaf l c r).2.1) WX.heap.size _ (HLO.out.below HB5.out (Nat.le_refl _)) HB5.out.size hzE hnmz).mono ?_; rintro e w6 ⟨v6, rfl, ho6, hb6⟩; rw [hfine]; obtain ⟨x6, n6, c6, rfl, hlo6⟩ := ho6.lst; have H56 := Lib.hid (H5.out.below hb6 (Nat.le_refl _)); have HB6 := Lib.hid (HB5.out.trans (hb6.mono HB5.out.size)); have HS6 := Lib.hid hb6.size; have HLO6 := Lib.hid hlo6; clear ho6 hb6 hlo6)
                      | (go_at_call 59; refine (specFolderText_any _ _ _ _ _ _ HLO6.out hzM).mono ?_; rintro e w7 ⟨rfl, q7, rfl⟩)
                      | (go_at_call 78; refine (specPutText_any x5 n5 c5 _ _ w5.heap.size _ (H56.out.drewN _) (le_drewN HS6.out) hz5 hft).mono ?_; rintro e w8 ⟨v8, rfl, ho8, hb8⟩; obtain ⟨x8, n8, c8, rfl, hlo8⟩ := ho8.lst; have H8 := Lib.hid hlo8; have HB8 := Lib.hid ((below_drewN HB6.out _).trans (hb8.mono (le_drewN HB6.out.size))); clear ho8 hb8 hlo8))
                    go_ret3
                    exact rdPut_of HF.out H8.out (HBW.out.trans (HB8.out.mono hwX))
                · have hd2 : (1 : Int) ≤ (d : Int) := by omega
                  have hdd : ¬ d = 1 := hd1
                  have HRF := Lib.hid (show ∀ w', Below WX.heap.size WX w' → Strs w' B1 (some ⟨b1, o1 + 1, none⟩) (m - 1) (d - 1) r from fun w' hb => Lst.rest encStr (HPSF.out w' hb) (m := 1) (by have h2 := HM1.out; omega))
                  have hz5 : ∀ k, (nthP (setB leaf l c r).1 k).2.size ≤ maxLen := fun k => Nat.le_trans (short_nth (set_short (m := 1048576) (by decide) hz) k) (by unfold maxLen; omega)
                  have hzE : ∀ k, (nthE (entsAt l p) k).1.size ≤ maxLen := fun k => Nat.le_trans (HZS.out k) (by unfold maxLen; omega)
                  have hnmz : nm.size ≤ maxLen := Nat.le_trans (hz1 0) (by unfold maxLen; omega)
                  have hzr : ∀ k, (nthS r k).size ≤ 1048576 := fun k => hz1 (k + 1)
                  have hmr : m - 1 ≤ 1000 := by omega
                  have hft : ∀ {L : List Ent}, (folderB L).size ≤ maxLen := fun {L} => Nat.le_trans (folderB_size L) (by unfold maxLen; omega)
                  cases hok5 : (setB leaf l c r).2.2
                  · have HF := Lib.hid (HSET.out.trans (by rw [if_neg HTEST.out, if_pos hok5]))
                    go_wp2_with (first
                      | (go_at_call 45; refine (specL4Get_any x n cap l c B _ (HLSF.out _ HB1.out)).mono ?_; rintro e w' ⟨rfl, rfl⟩; rw [hgo])
                      | (go_at_call 94; refine (ih _ _ n cap _ _ l c B B1 _ (HLSF.out _ HB1.out) (HRF.out _ HB1.out) (Nat.le_trans hB (Nat.le_trans hwX HB1.out.size)) (Nat.le_trans hB1 (Nat.le_trans hwX HB1.out.size)) hz hzr hmr).mono ?_; rintro e w5 ⟨x5, n5, c5, rfl, h5, hb5⟩; rw [hok5]; have H5 := Lib.hid h5; have HB5 := Lib.hid (HB1.out.trans (hb5.mono HB1.out.size)); have hpc5 := HPC.out _ HB5.out; clear h5 hb5))
                    go_ret3
                    exact rdPut_of HF.out H5.out (HBW.out.trans (HB5.out.mono hwX))
                  cases hfine : (putE (entsAt l p) (nm, (setB leaf l c r).2.1)).2
                  · have HF := Lib.hid (HSET.out.trans (by rw [if_neg HTEST.out, if_neg (by rw [hok5]; simp), if_pos hfine]))
                    go_wp2_with (first
                      | (go_at_call 45; refine (specL4Get_any x n cap l c B _ (HLSF.out _ HB1.out)).mono ?_; rintro e w' ⟨rfl, rfl⟩; rw [hgo])
                      | (go_at_call 94; refine (ih _ _ n cap _ _ l c B B1 _ (HLSF.out _ HB1.out) (HRF.out _ HB1.out) (Nat.le_trans hB (Nat.le_trans hwX HB1.out.size)) (Nat.le_trans hB1 (Nat.le_trans hwX HB1.out.size)) hz hzr hmr).mono ?_; rintro e w5 ⟨x5, n5, c5, rfl, h5, hb5⟩; rw [hok5]; have H5 := Lib.hid h5; have HB5 := Lib.hid (HB1.out.trans (hb5.mono HB1.out.size)); have hpc5 := HPC.out _ HB5.out; clear h5 hb5)
                      | (go_at_call 104; refine (specPutEntry_any (some ⟨w.heap.size, 0, none⟩) 0 0 (entsAt l p) (nm, (setB leaf l c r).2.1) WX.heap.size _ (HLO.out.below HB5.out (Nat.le_refl _)) HB5.out.size hzE hnmz).mono ?_; rintro e w6 ⟨v6, rfl, ho6, hb6⟩; rw [hfine]; obtain ⟨x6, n6, c6, rfl, hlo6⟩ := ho6.lst; have H56 := Lib.hid (H5.out.below hb6 (Nat.le_refl _)); have HB6 := Lib.hid (HB5.out.trans (hb6.mono HB5.out.size)); have HS6 := Lib.hid hb6.size; have HLO6 := Lib.hid hlo6; clear ho6 hb6 hlo6))
                    go_ret3
                    exact rdPut_of HF.out (H56.out.more HS6.out) (HBW.out.trans (HB6.out.mono hwX))
                  · have HF := Lib.hid (HSET.out.trans (by rw [if_neg HTEST.out, if_neg (by rw [hok5]; simp), if_neg (by rw [hfine]; simp)]))
                    have hzM : ∀ k, (nthE (putE (entsAt l p) (nm, (setB leaf l c r).2.1)).1 k).1.size ≤ maxLen := put_names hzE hnmz
                    go_wp2_with (first
                      | (go_at_call 45; refine (specL4Get_any x n cap l c B _ (HLSF.out _ HB1.out)).mono ?_; rintro e w' ⟨rfl, rfl⟩; rw [hgo])
                      | (go_at_call 94; refine (ih _ _ n cap _ _ l c B B1 _ (HLSF.out _ HB1.out) (HRF.out _ HB1.out) (Nat.le_trans hB (Nat.le_trans hwX HB1.out.size)) (Nat.le_trans hB1 (Nat.le_trans hwX HB1.out.size)) hz hzr hmr).mono ?_; rintro e w5 ⟨x5, n5, c5, rfl, h5, hb5⟩; rw [hok5]; have H5 := Lib.hid h5; have HB5 := Lib.hid (HB1.out.trans (hb5.mono HB1.out.size)); have hpc5 := HPC.out _ HB5.out; clear h5 hb5)
                      | (go_at_call 104; refine (specPutEntry_any (some ⟨w.heap.size, 0, none⟩) 0 0 (entsAt l p) (nm, (setB leaf l c r).2.1) WX.heap.size _ (HLO.out.below HB5.out (Nat.le_refl _)) HB5.out.size hzE hnmz).mono ?_; rintro e w6 ⟨v6, rfl, ho6, hb6⟩; rw [hfine]; obtain ⟨x6, n6, c6, rfl, hlo6⟩ := ho6.lst; have H56 := Lib.hid (H5.out.below hb6 (Nat.le_refl _)); have HB6 := Lib.hid (HB5.out.trans (hb6.mono HB5.out.size)); have HS6 := Lib.hid hb6.size; have HLO6 := Lib.hid hlo6; clear ho6 hb6 hlo6)
                      | (go_at_call 59; refine (specFolderText_any _ _ _ _ _ _ HLO6.out hzM).mono ?_; rintro e w7 ⟨rfl, q7, rfl⟩)
                      | (go_at_call 78; refine (specPutText_any x5 n5 c5 _ _ w5.heap.size _ (H56.out.drewN _) (le_drewN HS6.out) hz5 hft).mono ?_; rintro e w8 ⟨v8, rfl, ho8, hb8⟩; obtain ⟨x8, n8, c8, rfl, hlo8⟩ := ho8.lst; have H8 := Lib.hid hlo8; have HB8 := Lib.hid ((below_drewN HB6.out _).trans (hb8.mono (le_drewN HB6.out.size))); clear ho8 hb8 hlo8))
                    go_ret3
                    exact rdPut_of HF.out H8.out (HBW.out.trans (HB8.out.mono hwX))
            · have HTEST := Lib.hid (show ¬ (decide (r = []) && decide (0 ≤ c) && (!getO l c || !decide (kindB (getT l c) = 1))) = true by rw [decide_eq_false hr]; simp)
              have hrl : 0 < r.length := List.length_pos_iff.2 hr
              have hmm : ((m : Int) == 1) = false := by have h2 := HM1.out; simp; omega
              have hd1 : ¬ d = 1 := by have h2 := HM1.out; omega
              have hml1 : (1 : Int) ≤ (m : Int) := by have h2 := HM1.out; omega
              clear hr hrl
              have HRF := Lib.hid (show ∀ w', Below WX.heap.size WX w' → Strs w' B1 (some ⟨b1, o1 + 1, none⟩) (m - 1) (d - 1) r from fun w' hb => Lst.rest encStr (HPSF.out w' hb) (m := 1) (by have h2 := HM1.out; omega))
              have hz5 : ∀ k, (nthP (setB leaf l c r).1 k).2.size ≤ maxLen := fun k => Nat.le_trans (short_nth (set_short (m := 1048576) (by decide) hz) k) (by unfold maxLen; omega)
              have hzE : ∀ k, (nthE (entsAt l p) k).1.size ≤ maxLen := fun k => Nat.le_trans (HZS.out k) (by unfold maxLen; omega)
              have hnmz : nm.size ≤ maxLen := Nat.le_trans (hz1 0) (by unfold maxLen; omega)
              have hzr : ∀ k, (nthS r k).size ≤ 1048576 := fun k => hz1 (k + 1)
              have hmr : m - 1 ≤ 1000 := by omega
              have hft : ∀ {L : List Ent}, (folderB L).size ≤ maxLen := fun {L} => Nat.le_trans (folderB_size L) (by unfold maxLen; omega)
              cases hok5 : (setB leaf l c r).2.2
              · have HF := Lib.hid (HSET.out.trans (by rw [if_neg HTEST.out, if_pos hok5]))
                go_wp2_with (first
                  | (go_at_call 45; refine (specL4Get_any x n cap l c B _ (HLSF.out _ HB1.out)).mono ?_; rintro e w' ⟨rfl, rfl⟩; rw [hgo])
                  | (go_at_call 94; refine (ih _ _ n cap _ _ l c B B1 _ (HLSF.out _ HB1.out) (HRF.out _ HB1.out) (Nat.le_trans hB (Nat.le_trans hwX HB1.out.size)) (Nat.le_trans hB1 (Nat.le_trans hwX HB1.out.size)) hz hzr hmr).mono ?_; rintro e w5 ⟨x5, n5, c5, rfl, h5, hb5⟩; rw [hok5]; have H5 := Lib.hid h5; have HB5 := Lib.hid (HB1.out.trans (hb5.mono HB1.out.size)); have hpc5 := HPC.out _ HB5.out; clear h5 hb5))
                go_ret3
                exact rdPut_of HF.out H5.out (HBW.out.trans (HB5.out.mono hwX))
              cases hfine : (putE (entsAt l p) (nm, (setB leaf l c r).2.1)).2
              · have HF := Lib.hid (HSET.out.trans (by rw [if_neg HTEST.out, if_neg (by rw [hok5]; simp), if_pos hfine]))
                go_wp2_with (first
                  | (go_at_call 45; refine (specL4Get_any x n cap l c B _ (HLSF.out _ HB1.out)).mono ?_; rintro e w' ⟨rfl, rfl⟩; rw [hgo])
                  | (go_at_call 94; refine (ih _ _ n cap _ _ l c B B1 _ (HLSF.out _ HB1.out) (HRF.out _ HB1.out) (Nat.le_trans hB (Nat.le_trans hwX HB1.out.size)) (Nat.le_trans hB1 (Nat.le_trans hwX HB1.out.size)) hz hzr hmr).mono ?_; rintro e w5 ⟨x5, n5, c5, rfl, h5, hb5⟩; rw [hok5]; have H5 := Lib.hid h5; have HB5 := Lib.hid (HB1.out.trans (hb5.mono HB1.out.size)); have hpc5 := HPC.out _ HB5.out; clear h5 hb5)
                  | (go_at_call 104; refine (specPutEntry_any (some ⟨w.heap.size, 0, none⟩) 0 0 (entsAt l p) (nm, (setB leaf l c r).2.1) WX.heap.size _ (HLO.out.below HB5.out (Nat.le_refl _)) HB5.out.size hzE hnmz).mono ?_; rintro e w6 ⟨v6, rfl, ho6, hb6⟩; rw [hfine]; obtain ⟨x6, n6, c6, rfl, hlo6⟩ := ho6.lst; have H56 := Lib.hid (H5.out.below hb6 (Nat.le_refl _)); have HB6 := Lib.hid (HB5.out.trans (hb6.mono HB5.out.size)); have HS6 := Lib.hid hb6.size; have HLO6 := Lib.hid hlo6; clear ho6 hb6 hlo6))
                go_ret3
                exact rdPut_of HF.out (H56.out.more HS6.out) (HBW.out.trans (HB6.out.mono hwX))
              · have HF := Lib.hid (HSET.out.trans (by rw [if_neg HTEST.out, if_neg (by rw [hok5]; simp), if_neg (by rw [hfine]; simp)]))
                have hzM : ∀ k, (nthE (putE (entsAt l p) (nm, (setB leaf l c r).2.1)).1 k).1.size ≤ maxLen := put_names hzE hnmz
                go_wp2_with (first
                  | (go_at_call 45; refine (specL4Get_any x n cap l c B _ (HLSF.out _ HB1.out)).mono ?_; rintro e w' ⟨rfl, rfl⟩; rw [hgo])
                  | (go_at_call 94; refine (ih _ _ n cap _ _ l c B B1 _ (HLSF.out _ HB1.out) (HRF.out _ HB1.out) (Nat.le_trans hB (Nat.le_trans hwX HB1.out.size)) (Nat.le_trans hB1 (Nat.le_trans hwX HB1.out.size)) hz hzr hmr).mono ?_; rintro e w5 ⟨x5, n5, c5, rfl, h5, hb5⟩; rw [hok5]; have H5 := Lib.hid h5; have HB5 := Lib.hid (HB1.out.trans (hb5.mono HB1.out.size)); have hpc5 := HPC.out _ HB5.out; clear h5 hb5)
                  | (go_at_call 104; refine (specPutEntry_any (some ⟨w.heap.size, 0, none⟩) 0 0 (entsAt l p) (nm, (setB leaf l c r).2.1) WX.heap.size _ (HLO.out.below HB5.out (Nat.le_refl _)) HB5.out.size hzE hnmz).mono ?_; rintro e w6 ⟨v6, rfl, ho6, hb6⟩; rw [hfine]; obtain ⟨x6, n6, c6, rfl, hlo6⟩ := ho6.lst; have H56 := Lib.hid (H5.out.below hb6 (Nat.le_refl _)); have HB6 := Lib.hid (HB5.out.trans (hb6.mono HB5.out.size)); have HS6 := Lib.hid hb6.size; have HLO6 := Lib.hid hlo6; clear ho6 hb6 hlo6)
                  | (go_at_call 59; refine (specFolderText_any _ _ _ _ _ _ HLO6.out hzM).mono ?_; rintro e w7 ⟨rfl, q7, rfl⟩)
                  | (go_at_call 78; refine (specPutText_any x5 n5 c5 _ _ w5.heap.size _ (H56.out.drewN _) (le_drewN HS6.out) hz5 hft).mono ?_; rintro e w8 ⟨v8, rfl, ho8, hb8⟩; obtain ⟨x8, n8, c8, rfl, hlo8⟩ := ho8.lst; have H8 := Lib.hid hlo8; have HB8 := Lib.hid ((below_drewN HB6.out _).trans (hb8.mono (le_drewN HB6.out.size))); clear ho8 hb8 hlo8))
                go_ret3
                exact rdPut_of HF.out H8.out (HBW.out.trans (HB8.out.mono hwX))
          · by_cases hr : r = []
            · have HRN := Lib.hid hr
              have hmm : ((m : Int) == 1) = true := by have h2 := HM1.out; rw [HRN.out] at h2; simp at h2; simp; omega
              clear hr
              have hml1 : (1 : Int) ≤ (m : Int) := by have h2 := HM1.out; omega
              by_cases hc0 : 0 ≤ c
              · by_cases hk1 : kindB (getT l c) = 1
                · have HTEST := Lib.hid (show ¬ (decide (r = []) && decide (0 ≤ c) && (!getO l c || !decide (kindB (getT l c) = 1))) = true by rw [hgo, decide_eq_true hk1]; simp)
                  have hkd : (kindB (getT l c) != 1) = false := by simpa using hk1
                  clear hk1
                  by_cases hd1 : d = 1
                  · have hm1' : m = 1 := by have h2 := HM1.out; rw [HRN.out] at h2; simpa using h2
                    subst hd1
                    subst hm1'
                    have HRF := Lib.hid (show ∀ w', Below WX.heap.size WX w' → Strs w' B1 (some ⟨b1, o1, none⟩) 0 0 r from fun w' hb => by rw [HRN.out]; exact Lst.empty _ _ _ _ _ (by unfold maxLen; omega))
                    have hz5 : ∀ k, (nthP (setB leaf l c r).1 k).2.size ≤ maxLen := fun k => Nat.le_trans (short_nth (set_short (m := 1048576) (by decide) hz) k) (by unfold maxLen; omega)
                    have hzE : ∀ k, (nthE (entsAt l p) k).1.size ≤ maxLen := fun k => Nat.le_trans (HZS.out k) (by unfold maxLen; omega)
                    have hnmz : nm.size ≤ maxLen := Nat.le_trans (hz1 0) (by unfold maxLen; omega)
                    have hzr : ∀ k, (nthS r k).size ≤ 1048576 := fun k => hz1 (k + 1)
                    have hmr : 0 ≤ 1000 := by omega
                    have hft : ∀ {L : List Ent}, (folderB L).size ≤ maxLen := fun {L} => Nat.le_trans (folderB_size L) (by unfold maxLen; omega)
                    cases hok5 : (setB leaf l c r).2.2
                    · have HF := Lib.hid (HSET.out.trans (by rw [if_neg HTEST.out, if_pos hok5]))
                      go_wp2_with (first
                        | (go_at_call 45; refine (specL4Get_any x n cap l c B _ (HLSF.out _ HB1.out)).mono ?_; rintro e w' ⟨rfl, rfl⟩; rw [hgo])
                        | (go_at_call 105; refine (specTextKind_any _ _ hgc).mono ?_; rintro e w3 ⟨rfl, hb3⟩; have HB3 := Lib.hid (HB1.out.trans (hb3.mono HB1.out.size)); clear hb3)
                        | (go_at_call 94; refine (ih _ _ n cap _ _ l c B B1 _ (HLSF.out _ HB3.out) (HRF.out _ HB3.out) (Nat.le_trans hB (Nat.le_trans hwX HB3.out.size)) (Nat.le_trans hB1 (Nat.le_trans hwX HB3.out.size)) hz hzr hmr).mono ?_; rintro e w5 ⟨x5, n5, c5, rfl, h5, hb5⟩; rw [hok5]; have H5 := Lib.hid h5; have HB5 := Lib.hid (HB3.out.trans (hb5.mono HB3.out.size)); have hpc5 := HPC.out _ HB5.out; clear h5 hb5))
                      go_ret3
                      exact rdPut_of HF.out H5.out (HBW.out.trans (HB5.out.mono hwX))
                    cases hfine : (putE (entsAt l p) (nm, (setB leaf l c r).2.1)).2
                    · have HF := Lib.hid (HSET.out.trans (by rw [if_neg HTEST.out, if_neg (by rw [hok5]; simp), if_pos hfine]))
                      go_wp2_with (first
                        | (go_at_call 45; refine (specL4Get_any x n cap l c B _ (HLSF.out _ HB1.out)).mono ?_; rintro e w' ⟨rfl, rfl⟩; rw [hgo])
                        | (go_at_call 105; refine (specTextKind_any _ _ hgc).mono ?_; rintro e w3 ⟨rfl, hb3⟩; have HB3 := Lib.hid (HB1.out.trans (hb3.mono HB1.out.size)); clear hb3)
                        | (go_at_call 94; refine (ih _ _ n cap _ _ l c B B1 _ (HLSF.out _ HB3.out) (HRF.out _ HB3.out) (Nat.le_trans hB (Nat.le_trans hwX HB3.out.size)) (Nat.le_trans hB1 (Nat.le_trans hwX HB3.out.size)) hz hzr hmr).mono ?_; rintro e w5 ⟨x5, n5, c5, rfl, h5, hb5⟩; rw [hok5]; have H5 := Lib.hid h5; have HB5 := Lib.hid (HB3.out.trans (hb5.mono HB3.out.size)); have hpc5 := HPC.out _ HB5.out; clear h5 hb5)
                        | (go_at_call 104; refine (specPutEntry_any (some ⟨w.heap.size, 0, none⟩) 0 0 (entsAt l p) (nm, (setB leaf l c r).2.1) WX.heap.size _ (HLO.out.below HB5.out (Nat.le_refl _)) HB5.out.size hzE hnmz).mono ?_; rintro e w6 ⟨v6, rfl, ho6, hb6⟩; rw [hfine]; obtain ⟨x6, n6, c6, rfl, hlo6⟩ := ho6.lst; have H56 := Lib.hid (H5.out.below hb6 (Nat.le_refl _)); have HB6 := Lib.hid (HB5.out.trans (hb6.mono HB5.out.size)); have HS6 := Lib.hid hb6.size; have HLO6 := Lib.hid hlo6; clear ho6 hb6 hlo6))
                      go_ret3
                      exact rdPut_of HF.out (H56.out.more HS6.out) (HBW.out.trans (HB6.out.mono hwX))
                    · have HF := Lib.hid (HSET.out.trans (by rw [if_neg HTEST.out, if_neg (by rw [hok5]; simp), if_neg (by rw [hfine]; simp)]))
                      have hzM : ∀ k, (nthE (putE (entsAt l p) (nm, (setB leaf l c r).2.1)).1 k).1.size ≤ maxLen := put_names hzE hnmz
                      go_wp2_with (first
                        | (go_at_call 45; refine (specL4Get_any x n cap l c B _ (HLSF.out _ HB1.out)).mono ?_; rintro e w' ⟨rfl, rfl⟩; rw [hgo])
                        | (go_at_call 105; refine (specTextKind_any _ _ hgc).mono ?_; rintro e w3 ⟨rfl, hb3⟩; have HB3 := Lib.hid (HB1.out.trans (hb3.mono HB1.out.size)); clear hb3)
                        | (go_at_call 94; refine (ih _ _ n cap _ _ l c B B1 _ (HLSF.out _ HB3.out) (HRF.out _ HB3.out) (Nat.le_trans hB (Nat.le_trans hwX HB3.out.size)) (Nat.le_trans hB1 (Nat.le_trans hwX HB3.out.size)) hz hzr hmr).mono ?_; rintro e w5 ⟨x5, n5, c5, rfl, h5, hb5⟩; rw [hok5]; have H5 := Lib.hid h5; have HB5 := Lib.hid (HB3.out.trans (hb5.mono HB3.out.size)); have hpc5 := HPC.out _ HB5.out; clear h5 hb5)
                        | (go_at_call 104; refine (specPutEntry_any (some ⟨w.heap.size, 0, none⟩) 0 0 (entsAt l p) (nm, (setB leaf l c r).2.1) WX.heap.size _ (HLO.out.below HB5.out (Nat.le_refl _)) HB5.out.size hzE hnmz).mono ?_; rintro e w6 ⟨v6, rfl, ho6, hb6⟩; rw [hfine]; obtain ⟨x6, n6, c6, rfl, hlo6⟩ := ho6.lst; have H56 := Lib.hid (H5.out.below hb6 (Nat.le_refl _)); have HB6 := Lib.hid (HB5.out.trans (hb6.mono HB5.out.size)); have HS6 := Lib.hid hb6.size; have HLO6 := Lib.hid hlo6; clear ho6 hb6 hlo6)
                        | (go_at_call 59; refine (specFolderText_any _ _ _ _ _ _ HLO6.out hzM).mono ?_; rintro e w7 ⟨rfl, q7, rfl⟩)
                        | (go_at_call 78; refine (specPutText_any x5 n5 c5 _ _ w5.heap.size _ (H56.out.drewN _) (le_drewN HS6.out) hz5 hft).mono ?_; rintro e w8 ⟨v8, rfl, ho8, hb8⟩; obtain ⟨x8, n8, c8, rfl, hlo8⟩ := ho8.lst; have H8 := Lib.hid hlo8; have HB8 := Lib.hid ((below_drewN HB6.out _).trans (hb8.mono (le_drewN HB6.out.size))); clear ho8 hb8 hlo8))
                      go_ret3
                      exact rdPut_of HF.out H8.out (HBW.out.trans (HB8.out.mono hwX))
                  · have hd2 : (1 : Int) ≤ (d : Int) := by omega
                    have hdd : ¬ d = 1 := hd1
                    have HRF := Lib.hid (show ∀ w', Below WX.heap.size WX w' → Strs w' B1 (some ⟨b1, o1 + 1, none⟩) (m - 1) (d - 1) r from fun w' hb => Lst.rest encStr (HPSF.out w' hb) (m := 1) (by have h2 := HM1.out; omega))
                    have hz5 : ∀ k, (nthP (setB leaf l c r).1 k).2.size ≤ maxLen := fun k => Nat.le_trans (short_nth (set_short (m := 1048576) (by decide) hz) k) (by unfold maxLen; omega)
                    have hzE : ∀ k, (nthE (entsAt l p) k).1.size ≤ maxLen := fun k => Nat.le_trans (HZS.out k) (by unfold maxLen; omega)
                    have hnmz : nm.size ≤ maxLen := Nat.le_trans (hz1 0) (by unfold maxLen; omega)
                    have hzr : ∀ k, (nthS r k).size ≤ 1048576 := fun k => hz1 (k + 1)
                    have hmr : m - 1 ≤ 1000 := by omega
                    have hft : ∀ {L : List Ent}, (folderB L).size ≤ maxLen := fun {L} => Nat.le_trans (folderB_size L) (by unfold maxLen; omega)
                    cases hok5 : (setB leaf l c r).2.2
                    · have HF := Lib.hid (HSET.out.trans (by rw [if_neg HTEST.out, if_pos hok5]))
                      go_wp2_with (first
                        | (go_at_call 45; refine (specL4Get_any x n cap l c B _ (HLSF.out _ HB1.out)).mono ?_; rintro e w' ⟨rfl, rfl⟩; rw [hgo])
                        | (go_at_call 105; refine (specTextKind_any _ _ hgc).mono ?_; rintro e w3 ⟨rfl, hb3⟩; have HB3 := Lib.hid (HB1.out.trans (hb3.mono HB1.out.size)); clear hb3)
                        | (go_at_call 94; refine (ih _ _ n cap _ _ l c B B1 _ (HLSF.out _ HB3.out) (HRF.out _ HB3.out) (Nat.le_trans hB (Nat.le_trans hwX HB3.out.size)) (Nat.le_trans hB1 (Nat.le_trans hwX HB3.out.size)) hz hzr hmr).mono ?_; rintro e w5 ⟨x5, n5, c5, rfl, h5, hb5⟩; rw [hok5]; have H5 := Lib.hid h5; have HB5 := Lib.hid (HB3.out.trans (hb5.mono HB3.out.size)); have hpc5 := HPC.out _ HB5.out; clear h5 hb5))
                      go_ret3
                      exact rdPut_of HF.out H5.out (HBW.out.trans (HB5.out.mono hwX))
                    cases hfine : (putE (entsAt l p) (nm, (setB leaf l c r).2.1)).2
                    · have HF := Lib.hid (HSET.out.trans (by rw [if_neg HTEST.out, if_neg (by rw [hok5]; simp), if_pos hfine]))
                      go_wp2_with (first
                        | (go_at_call 45; refine (specL4Get_any x n cap l c B _ (HLSF.out _ HB1.out)).mono ?_; rintro e w' ⟨rfl, rfl⟩; rw [hgo])
                        | (go_at_call 105; refine (specTextKind_any _ _ hgc).mono ?_; rintro e w3 ⟨rfl, hb3⟩; have HB3 := Lib.hid (HB1.out.trans (hb3.mono HB1.out.size)); clear hb3)
                        | (go_at_call 94; refine (ih _ _ n cap _ _ l c B B1 _ (HLSF.out _ HB3.out) (HRF.out _ HB3.out) (Nat.le_trans hB (Nat.le_trans hwX HB3.out.size)) (Nat.le_trans hB1 (Nat.le_trans hwX HB3.out.size)) hz hzr hmr).mono ?_; rintro e w5 ⟨x5, n5, c5, rfl, h5, hb5⟩; rw [hok5]; have H5 := Lib.hid h5; have HB5 := Lib.hid (HB3.out.trans (hb5.mono HB3.out.size)); have hpc5 := HPC.out _ HB5.out; clear h5 hb5)
                        | (go_at_call 104; refine (specPutEntry_any (some ⟨w.heap.size, 0, none⟩) 0 0 (entsAt l p) (nm, (setB leaf l c r).2.1) WX.heap.size _ (HLO.out.below HB5.out (Nat.le_refl _)) HB5.out.size hzE hnmz).mono ?_; rintro e w6 ⟨v6, rfl, ho6, hb6⟩; rw [hfine]; obtain ⟨x6, n6, c6, rfl, hlo6⟩ := ho6.lst; have H56 := Lib.hid (H5.out.below hb6 (Nat.le_refl _)); have HB6 := Lib.hid (HB5.out.trans (hb6.mono HB5.out.size)); have HS6 := Lib.hid hb6.size; have HLO6 := Lib.hid hlo6; clear ho6 hb6 hlo6))
                      go_ret3
                      exact rdPut_of HF.out (H56.out.more HS6.out) (HBW.out.trans (HB6.out.mono hwX))
                    · have HF := Lib.hid (HSET.out.trans (by rw [if_neg HTEST.out, if_neg (by rw [hok5]; simp), if_neg (by rw [hfine]; simp)]))
                      have hzM : ∀ k, (nthE (putE (entsAt l p) (nm, (setB leaf l c r).2.1)).1 k).1.size ≤ maxLen := put_names hzE hnmz
                      go_wp2_with (first
                        | (go_at_call 45; refine (specL4Get_any x n cap l c B _ (HLSF.out _ HB1.out)).mono ?_; rintro e w' ⟨rfl, rfl⟩; rw [hgo])
                        | (go_at_call 105; refine (specTextKind_any _ _ hgc).mono ?_; rintro e w3 ⟨rfl, hb3⟩; have HB3 := Lib.hid (HB1.out.trans (hb3.mono HB1.out.size)); clear hb3)
                        | (go_at_call 94; refine (ih _ _ n cap _ _ l c B B1 _ (HLSF.out _ HB3.out) (HRF.out _ HB3.out) (Nat.le_trans hB (Nat.le_trans hwX HB3.out.size)) (Nat.le_trans hB1 (Nat.le_trans hwX HB3.out.size)) hz hzr hmr).mono ?_; rintro e w5 ⟨x5, n5, c5, rfl, h5, hb5⟩; rw [hok5]; have H5 := Lib.hid h5; have HB5 := Lib.hid (HB3.out.trans (hb5.mono HB3.out.size)); have hpc5 := HPC.out _ HB5.out; clear h5 hb5)
                        | (go_at_call 104; refine (specPutEntry_any (some ⟨w.heap.size, 0, none⟩) 0 0 (entsAt l p) (nm, (setB leaf l c r).2.1) WX.heap.size _ (HLO.out.below HB5.out (Nat.le_refl _)) HB5.out.size hzE hnmz).mono ?_; rintro e w6 ⟨v6, rfl, ho6, hb6⟩; rw [hfine]; obtain ⟨x6, n6, c6, rfl, hlo6⟩ := ho6.lst; have H56 := Lib.hid (H5.out.below hb6 (Nat.le_refl _)); have HB6 := Lib.hid (HB5.out.trans (hb6.mono HB5.out.size)); have HS6 := Lib.hid hb6.size; have HLO6 := Lib.hid hlo6; clear ho6 hb6 hlo6)
                        | (go_at_call 59; refine (specFolderText_any _ _ _ _ _ _ HLO6.out hzM).mono ?_; rintro e w7 ⟨rfl, q7, rfl⟩)
                        | (go_at_call 78; refine (specPutText_any x5 n5 c5 _ _ w5.heap.size _ (H56.out.drewN _) (le_drewN HS6.out) hz5 hft).mono ?_; rintro e w8 ⟨v8, rfl, ho8, hb8⟩; obtain ⟨x8, n8, c8, rfl, hlo8⟩ := ho8.lst; have H8 := Lib.hid hlo8; have HB8 := Lib.hid ((below_drewN HB6.out _).trans (hb8.mono (le_drewN HB6.out.size))); clear ho8 hb8 hlo8))
                      go_ret3
                      exact rdPut_of HF.out H8.out (HBW.out.trans (HB8.out.mono hwX))
                · have HF := Lib.hid (HSET.out.trans (show _ = (l, -1, false) by rw [if_pos (by rw [hgo, decide_eq_true HRN.out, decide_eq_true hc0, decide_eq_false hk1]; rfl)]))
                  have hkd : (kindB (getT l c) != 1) = true := by simpa using hk1
                  clear hk1
                  go_wp2_with (first
                    | (go_at_call 45; refine (specL4Get_any x n cap l c B _ (HLSF.out _ HB1.out)).mono ?_; rintro e w' ⟨rfl, rfl⟩; rw [hgo])
                    | (go_at_call 105; refine (specTextKind_any _ _ hgc).mono ?_; rintro e w3 ⟨rfl, hb3⟩; have HB3 := Lib.hid (HB1.out.trans (hb3.mono HB1.out.size)); clear hb3))
                  go_ret3
                  exact rdPut_of HF.out ((HLSF.out _ HB3.out).more (Nat.le_trans hB (Nat.le_trans hwX HB3.out.size))) (HBW.out.trans (HB3.out.mono hwX))
              · have HTEST := Lib.hid (show ¬ (decide (r = []) && decide (0 ≤ c) && (!getO l c || !decide (kindB (getT l c) = 1))) = true by rw [decide_eq_false hc0]; simp)
                have hc0' : c < 0 := by omega
                by_cases hd1 : d = 1
                · have hm1' : m = 1 := by have h2 := HM1.out; rw [HRN.out] at h2; simpa using h2
                  subst hd1
                  subst hm1'
                  have HRF := Lib.hid (show ∀ w', Below WX.heap.size WX w' → Strs w' B1 (some ⟨b1, o1, none⟩) 0 0 r from fun w' hb => by rw [HRN.out]; exact Lst.empty _ _ _ _ _ (by unfold maxLen; omega))
                  have hz5 : ∀ k, (nthP (setB leaf l c r).1 k).2.size ≤ maxLen := fun k => Nat.le_trans (short_nth (set_short (m := 1048576) (by decide) hz) k) (by unfold maxLen; omega)
                  have hzE : ∀ k, (nthE (entsAt l p) k).1.size ≤ maxLen := fun k => Nat.le_trans (HZS.out k) (by unfold maxLen; omega)
                  have hnmz : nm.size ≤ maxLen := Nat.le_trans (hz1 0) (by unfold maxLen; omega)
                  have hzr : ∀ k, (nthS r k).size ≤ 1048576 := fun k => hz1 (k + 1)
                  have hmr : 0 ≤ 1000 := by omega
                  have hft : ∀ {L : List Ent}, (folderB L).size ≤ maxLen := fun {L} => Nat.le_trans (folderB_size L) (by unfold maxLen; omega)
                  cases hok5 : (setB leaf l c r).2.2
                  · have HF := Lib.hid (HSET.out.trans (by rw [if_neg HTEST.out, if_pos hok5]))
                    go_wp2_with (first
                      | (go_at_call 45; refine (specL4Get_any x n cap l c B _ (HLSF.out _ HB1.out)).mono ?_; rintro e w' ⟨rfl, rfl⟩; rw [hgo])
                      | (go_at_call 94; refine (ih _ _ n cap _ _ l c B B1 _ (HLSF.out _ HB1.out) (HRF.out _ HB1.out) (Nat.le_trans hB (Nat.le_trans hwX HB1.out.size)) (Nat.le_trans hB1 (Nat.le_trans hwX HB1.out.size)) hz hzr hmr).mono ?_; rintro e w5 ⟨x5, n5, c5, rfl, h5, hb5⟩; rw [hok5]; have H5 := Lib.hid h5; have HB5 := Lib.hid (HB1.out.trans (hb5.mono HB1.out.size)); have hpc5 := HPC.out _ HB5.out; clear h5 hb5))
                    go_ret3
                    exact rdPut_of HF.out H5.out (HBW.out.trans (HB5.out.mono hwX))
                  cases hfine : (putE (entsAt l p) (nm, (setB leaf l c r).2.1)).2
                  · have HF := Lib.hid (HSET.out.trans (by rw [if_neg HTEST.out, if_neg (by rw [hok5]; simp), if_pos hfine]))
                    go_wp2_with (first
                      | (go_at_call 45; refine (specL4Get_any x n cap l c B _ (HLSF.out _ HB1.out)).mono ?_; rintro e w' ⟨rfl, rfl⟩; rw [hgo])
                      | (go_at_call 94; refine (ih _ _ n cap _ _ l c B B1 _ (HLSF.out _ HB1.out) (HRF.out _ HB1.out) (Nat.le_trans hB (Nat.le_trans hwX HB1.out.size)) (Nat.le_trans hB1 (Nat.le_trans hwX HB1.out.size)) hz hzr hmr).mono ?_; rintro e w5 ⟨x5, n5, c5, rfl, h5, hb5⟩; rw [hok5]; have H5 := Lib.hid h5; have HB5 := Lib.hid (HB1.out.trans (hb5.mono HB1.out.size)); have hpc5 := HPC.out _ HB5.out; clear h5 hb5)
                      | (go_at_call 104; refine (specPutEntry_any (some ⟨w.heap.size, 0, none⟩) 0 0 (entsAt l p) (nm, (setB leaf l c r).2.1) WX.heap.size _ (HLO.out.below HB5.out (Nat.le_refl _)) HB5.out.size hzE hnmz).mono ?_; rintro e w6 ⟨v6, rfl, ho6, hb6⟩; rw [hfine]; obtain ⟨x6, n6, c6, rfl, hlo6⟩ := ho6.lst; have H56 := Lib.hid (H5.out.below hb6 (Nat.le_refl _)); have HB6 := Lib.hid (HB5.out.trans (hb6.mono HB5.out.size)); have HS6 := Lib.hid hb6.size; have HLO6 := Lib.hid hlo6; clear ho6 hb6 hlo6))
                    go_ret3
                    exact rdPut_of HF.out (H56.out.more HS6.out) (HBW.out.trans (HB6.out.mono hwX))
                  · have HF := Lib.hid (HSET.out.trans (by rw [if_neg HTEST.out, if_neg (by rw [hok5]; simp), if_neg (by rw [hfine]; simp)]))
                    have hzM : ∀ k, (nthE (putE (entsAt l p) (nm, (setB leaf l c r).2.1)).1 k).1.size ≤ maxLen := put_names hzE hnmz
                    go_wp2_with (first
                      | (go_at_call 45; refine (specL4Get_any x n cap l c B _ (HLSF.out _ HB1.out)).mono ?_; rintro e w' ⟨rfl, rfl⟩; rw [hgo])
                      | (go_at_call 94; refine (ih _ _ n cap _ _ l c B B1 _ (HLSF.out _ HB1.out) (HRF.out _ HB1.out) (Nat.le_trans hB (Nat.le_trans hwX HB1.out.size)) (Nat.le_trans hB1 (Nat.le_trans hwX HB1.out.size)) hz hzr hmr).mono ?_; rintro e w5 ⟨x5, n5, c5, rfl, h5, hb5⟩; rw [hok5]; have H5 := Lib.hid h5; have HB5 := Lib.hid (HB1.out.trans (hb5.mono HB1.out.size)); have hpc5 := HPC.out _ HB5.out; clear h5 hb5)
                      | (go_at_call 104; refine (specPutEntry_any (some ⟨w.heap.size, 0, none⟩) 0 0 (entsAt l p) (nm, (setB leaf l c r).2.1) WX.heap.size _ (HLO.out.below HB5.out (Nat.le_refl _)) HB5.out.size hzE hnmz).mono ?_; rintro e w6 ⟨v6, rfl, ho6, hb6⟩; rw [hfine]; obtain ⟨x6, n6, c6, rfl, hlo6⟩ := ho6.lst; have H56 := Lib.hid (H5.out.below hb6 (Nat.le_refl _)); have HB6 := Lib.hid (HB5.out.trans (hb6.mono HB5.out.size)); have HS6 := Lib.hid hb6.size; have HLO6 := Lib.hid hlo6; clear ho6 hb6 hlo6)
                      | (go_at_call 59; refine (specFolderText_any _ _ _ _ _ _ HLO6.out hzM).mono ?_; rintro e w7 ⟨rfl, q7, rfl⟩)
                      | (go_at_call 78; refine (specPutText_any x5 n5 c5 _ _ w5.heap.size _ (H56.out.drewN _) (le_drewN HS6.out) hz5 hft).mono ?_; rintro e w8 ⟨v8, rfl, ho8, hb8⟩; obtain ⟨x8, n8, c8, rfl, hlo8⟩ := ho8.lst; have H8 := Lib.hid hlo8; have HB8 := Lib.hid ((below_drewN HB6.out _).trans (hb8.mono (le_drewN HB6.out.size))); clear ho8 hb8 hlo8))
                    go_ret3
                    exact rdPut_of HF.out H8.out (HBW.out.trans (HB8.out.mono hwX))
                · have hd2 : (1 : Int) ≤ (d : Int) := by omega
                  have hdd : ¬ d = 1 := hd1
                  have HRF := Lib.hid (show ∀ w', Below WX.heap.size WX w' → Strs w' B1 (some ⟨b1, o1 + 1, none⟩) (m - 1) (d - 1) r from fun w' hb => Lst.rest encStr (HPSF.out w' hb) (m := 1) (by have h2 := HM1.out; omega))
                  have hz5 : ∀ k, (nthP (setB leaf l c r).1 k).2.size ≤ maxLen := fun k => Nat.le_trans (short_nth (set_short (m := 1048576) (by decide) hz) k) (by unfold maxLen; omega)
                  have hzE : ∀ k, (nthE (entsAt l p) k).1.size ≤ maxLen := fun k => Nat.le_trans (HZS.out k) (by unfold maxLen; omega)
                  have hnmz : nm.size ≤ maxLen := Nat.le_trans (hz1 0) (by unfold maxLen; omega)
                  have hzr : ∀ k, (nthS r k).size ≤ 1048576 := fun k => hz1 (k + 1)
                  have hmr : m - 1 ≤ 1000 := by omega
                  have hft : ∀ {L : List Ent}, (folderB L).size ≤ maxLen := fun {L} => Nat.le_trans (folderB_size L) (by unfold maxLen; omega)
                  cases hok5 : (setB leaf l c r).2.2
                  · have HF := Lib.hid (HSET.out.trans (by rw [if_neg HTEST.out, if_pos hok5]))
                    go_wp2_with (first
                      | (go_at_call 45; refine (specL4Get_any x n cap l c B _ (HLSF.out _ HB1.out)).mono ?_; rintro e w' ⟨rfl, rfl⟩; rw [hgo])
                      | (go_at_call 94; refine (ih _ _ n cap _ _ l c B B1 _ (HLSF.out _ HB1.out) (HRF.out _ HB1.out) (Nat.le_trans hB (Nat.le_trans hwX HB1.out.size)) (Nat.le_trans hB1 (Nat.le_trans hwX HB1.out.size)) hz hzr hmr).mono ?_; rintro e w5 ⟨x5, n5, c5, rfl, h5, hb5⟩; rw [hok5]; have H5 := Lib.hid h5; have HB5 := Lib.hid (HB1.out.trans (hb5.mono HB1.out.size)); have hpc5 := HPC.out _ HB5.out; clear h5 hb5))
                    go_ret3
                    exact rdPut_of HF.out H5.out (HBW.out.trans (HB5.out.mono hwX))
                  cases hfine : (putE (entsAt l p) (nm, (setB leaf l c r).2.1)).2
                  · have HF := Lib.hid (HSET.out.trans (by rw [if_neg HTEST.out, if_neg (by rw [hok5]; simp), if_pos hfine]))
                    go_wp2_with (first
                      | (go_at_call 45; refine (specL4Get_any x n cap l c B _ (HLSF.out _ HB1.out)).mono ?_; rintro e w' ⟨rfl, rfl⟩; rw [hgo])
                      | (go_at_call 94; refine (ih _ _ n cap _ _ l c B B1 _ (HLSF.out _ HB1.out) (HRF.out _ HB1.out) (Nat.le_trans hB (Nat.le_trans hwX HB1.out.size)) (Nat.le_trans hB1 (Nat.le_trans hwX HB1.out.size)) hz hzr hmr).mono ?_; rintro e w5 ⟨x5, n5, c5, rfl, h5, hb5⟩; rw [hok5]; have H5 := Lib.hid h5; have HB5 := Lib.hid (HB1.out.trans (hb5.mono HB1.out.size)); have hpc5 := HPC.out _ HB5.out; clear h5 hb5)
                      | (go_at_call 104; refine (specPutEntry_any (some ⟨w.heap.size, 0, none⟩) 0 0 (entsAt l p) (nm, (setB leaf l c r).2.1) WX.heap.size _ (HLO.out.below HB5.out (Nat.le_refl _)) HB5.out.size hzE hnmz).mono ?_; rintro e w6 ⟨v6, rfl, ho6, hb6⟩; rw [hfine]; obtain ⟨x6, n6, c6, rfl, hlo6⟩ := ho6.lst; have H56 := Lib.hid (H5.out.below hb6 (Nat.le_refl _)); have HB6 := Lib.hid (HB5.out.trans (hb6.mono HB5.out.size)); have HS6 := Lib.hid hb6.size; have HLO6 := Lib.hid hlo6; clear ho6 hb6 hlo6))
                    go_ret3
                    exact rdPut_of HF.out (H56.out.more HS6.out) (HBW.out.trans (HB6.out.mono hwX))
                  · have HF := Lib.hid (HSET.out.trans (by rw [if_neg HTEST.out, if_neg (by rw [hok5]; simp), if_neg (by rw [hfine]; simp)]))
                    have hzM : ∀ k, (nthE (putE (entsAt l p) (nm, (setB leaf l c r).2.1)).1 k).1.size ≤ maxLen := put_names hzE hnmz
                    go_wp2_with (first
                      | (go_at_call 45; refine (specL4Get_any x n cap l c B _ (HLSF.out _ HB1.out)).mono ?_; rintro e w' ⟨rfl, rfl⟩; rw [hgo])
                      | (go_at_call 94; refine (ih _ _ n cap _ _ l c B B1 _ (HLSF.out _ HB1.out) (HRF.out _ HB1.out) (Nat.le_trans hB (Nat.le_trans hwX HB1.out.size)) (Nat.le_trans hB1 (Nat.le_trans hwX HB1.out.size)) hz hzr hmr).mono ?_; rintro e w5 ⟨x5, n5, c5, rfl, h5, hb5⟩; rw [hok5]; have H5 := Lib.hid h5; have HB5 := Lib.hid (HB1.out.trans (hb5.mono HB1.out.size)); have hpc5 := HPC.out _ HB5.out; clear h5 hb5)
                      | (go_at_call 104; refine (specPutEntry_any (some ⟨w.heap.size, 0, none⟩) 0 0 (entsAt l p) (nm, (setB leaf l c r).2.1) WX.heap.size _ (HLO.out.below HB5.out (Nat.le_refl _)) HB5.out.size hzE hnmz).mono ?_; rintro e w6 ⟨v6, rfl, ho6, hb6⟩; rw [hfine]; obtain ⟨x6, n6, c6, rfl, hlo6⟩ := ho6.lst; have H56 := Lib.hid (H5.out.below hb6 (Nat.le_refl _)); have HB6 := Lib.hid (HB5.out.trans (hb6.mono HB5.out.size)); have HS6 := Lib.hid hb6.size; have HLO6 := Lib.hid hlo6; clear ho6 hb6 hlo6)
                      | (go_at_call 59; refine (specFolderText_any _ _ _ _ _ _ HLO6.out hzM).mono ?_; rintro e w7 ⟨rfl, q7, rfl⟩)
                      | (go_at_call 78; refine (specPutText_any x5 n5 c5 _ _ w5.heap.size _ (H56.out.drewN _) (le_drewN HS6.out) hz5 hft).mono ?_; rintro e w8 ⟨v8, rfl, ho8, hb8⟩; obtain ⟨x8, n8, c8, rfl, hlo8⟩ := ho8.lst; have H8 := Lib.hid hlo8; have HB8 := Lib.hid ((below_drewN HB6.out _).trans (hb8.mono (le_drewN HB6.out.size))); clear ho8 hb8 hlo8))
                    go_ret3
                    exact rdPut_of HF.out H8.out (HBW.out.trans (HB8.out.mono hwX))
            · have HTEST := Lib.hid (show ¬ (decide (r = []) && decide (0 ≤ c) && (!getO l c || !decide (kindB (getT l c) = 1))) = true by rw [decide_eq_false hr]; simp)
              have hrl : 0 < r.length := List.length_pos_iff.2 hr
              have hmm : ((m : Int) == 1) = false := by have h2 := HM1.out; simp; omega
              have hd1 : ¬ d = 1 := by have h2 := HM1.out; omega
              have hml1 : (1 : Int) ≤ (m : Int) := by have h2 := HM1.out; omega
              clear hr hrl
              have HRF := Lib.hid (show ∀ w', Below WX.heap.size WX w' → Strs w' B1 (some ⟨b1, o1 + 1, none⟩) (m - 1) (d - 1) r from fun w' hb => Lst.rest encStr (HPSF.out w' hb) (m := 1) (by have h2 := HM1.out; omega))
              have hz5 : ∀ k, (nthP (setB leaf l c r).1 k).2.size ≤ maxLen := fun k => Nat.le_trans (short_nth (set_short (m := 1048576) (by decide) hz) k) (by unfold maxLen; omega)
              have hzE : ∀ k, (nthE (entsAt l p) k).1.size ≤ maxLen := fun k => Nat.le_trans (HZS.out k) (by unfold maxLen; omega)
              have hnmz : nm.size ≤ maxLen := Nat.le_trans (hz1 0) (by unfold maxLen; omega)
              have hzr : ∀ k, (nthS r k).size ≤ 1048576 := fun k => hz1 (k + 1)
              have hmr : m - 1 ≤ 1000 := by omega
              have hft : ∀ {L : List Ent}, (folderB L).size ≤ maxLen := fun {L} => Nat.le_trans (folderB_size L) (by unfold maxLen; omega)
              cases hok5 : (setB leaf l c r).2.2
              · have HF := Lib.hid (HSET.out.trans (by rw [if_neg HTEST.out, if_pos hok5]))
                go_wp2_with (first
                  | (go_at_call 45; refine (specL4Get_any x n cap l c B _ (HLSF.out _ HB1.out)).mono ?_; rintro e w' ⟨rfl, rfl⟩; rw [hgo])
                  | (go_at_call 94; refine (ih _ _ n cap _ _ l c B B1 _ (HLSF.out _ HB1.out) (HRF.out _ HB1.out) (Nat.le_trans hB (Nat.le_trans hwX HB1.out.size)) (Nat.le_trans hB1 (Nat.le_trans hwX HB1.out.size)) hz hzr hmr).mono ?_; rintro e w5 ⟨x5, n5, c5, rfl, h5, hb5⟩; rw [hok5]; have H5 := Lib.hid h5; have HB5 := Lib.hid (HB1.out.trans (hb5.mono HB1.out.size)); have hpc5 := HPC.out _ HB5.out; clear h5 hb5))
                go_ret3
                exact rdPut_of HF.out H5.out (HBW.out.trans (HB5.out.mono hwX))
              cases hfine : (putE (entsAt l p) (nm, (setB leaf l c r).2.1)).2
              · have HF := Lib.hid (HSET.out.trans (by rw [if_neg HTEST.out, if_neg (by rw [hok5]; simp), if_pos hfine]))
                go_wp2_with (first
                  | (go_at_call 45; refine (specL4Get_any x n cap l c B _ (HLSF.out _ HB1.out)).mono ?_; rintro e w' ⟨rfl, rfl⟩; rw [hgo])
                  | (go_at_call 94; refine (ih _ _ n cap _ _ l c B B1 _ (HLSF.out _ HB1.out) (HRF.out _ HB1.out) (Nat.le_trans hB (Nat.le_trans hwX HB1.out.size)) (Nat.le_trans hB1 (Nat.le_trans hwX HB1.out.size)) hz hzr hmr).mono ?_; rintro e w5 ⟨x5, n5, c5, rfl, h5, hb5⟩; rw [hok5]; have H5 := Lib.hid h5; have HB5 := Lib.hid (HB1.out.trans (hb5.mono HB1.out.size)); have hpc5 := HPC.out _ HB5.out; clear h5 hb5)
                  | (go_at_call 104; refine (specPutEntry_any (some ⟨w.heap.size, 0, none⟩) 0 0 (entsAt l p) (nm, (setB leaf l c r).2.1) WX.heap.size _ (HLO.out.below HB5.out (Nat.le_refl _)) HB5.out.size hzE hnmz).mono ?_; rintro e w6 ⟨v6, rfl, ho6, hb6⟩; rw [hfine]; obtain ⟨x6, n6, c6, rfl, hlo6⟩ := ho6.lst; have H56 := Lib.hid (H5.out.below hb6 (Nat.le_refl _)); have HB6 := Lib.hid (HB5.out.trans (hb6.mono HB5.out.size)); have HS6 := Lib.hid hb6.size; have HLO6 := Lib.hid hlo6; clear ho6 hb6 hlo6))
                go_ret3
                exact rdPut_of HF.out (H56.out.more HS6.out) (HBW.out.trans (HB6.out.mono hwX))
              · have HF := Lib.hid (HSET.out.trans (by rw [if_neg HTEST.out, if_neg (by rw [hok5]; simp), if_neg (by rw [hfine]; simp)]))
                have hzM : ∀ k, (nthE (putE (entsAt l p) (nm, (setB leaf l c r).2.1)).1 k).1.size ≤ maxLen := put_names hzE hnmz
                go_wp2_with (first
                  | (go_at_call 45; refine (specL4Get_any x n cap l c B _ (HLSF.out _ HB1.out)).mono ?_; rintro e w' ⟨rfl, rfl⟩; rw [hgo])
                  | (go_at_call 94; refine (ih _ _ n cap _ _ l c B B1 _ (HLSF.out _ HB1.out) (HRF.out _ HB1.out) (Nat.le_trans hB (Nat.le_trans hwX HB1.out.size)) (Nat.le_trans hB1 (Nat.le_trans hwX HB1.out.size)) hz hzr hmr).mono ?_; rintro e w5 ⟨x5, n5, c5, rfl, h5, hb5⟩; rw [hok5]; have H5 := Lib.hid h5; have HB5 := Lib.hid (HB1.out.trans (hb5.mono HB1.out.size)); have hpc5 := HPC.out _ HB5.out; clear h5 hb5)
                  | (go_at_call 104; refine (specPutEntry_any (some ⟨w.heap.size, 0, none⟩) 0 0 (entsAt l p) (nm, (setB leaf l c r).2.1) WX.heap.size _ (HLO.out.below HB5.out (Nat.le_refl _)) HB5.out.size hzE hnmz).mono ?_; rintro e w6 ⟨v6, rfl, ho6, hb6⟩; rw [hfine]; obtain ⟨x6, n6, c6, rfl, hlo6⟩ := ho6.lst; have H56 := Lib.hid (H5.out.below hb6 (Nat.le_refl _)); have HB6 := Lib.hid (HB5.out.trans (hb6.mono HB5.out.size)); have HS6 := Lib.hid hb6.size; have HLO6 := Lib.hid hlo6; clear ho6 hb6 hlo6)
                  | (go_at_call 59; refine (specFolderText_any _ _ _ _ _ _ HLO6.out hzM).mono ?_; rintro e w7 ⟨rfl, q7, rfl⟩)
                  | (go_at_call 78; refine (specPutText_any x5 n5 c5 _ _ w5.heap.size _ (H56.out.drewN _) (le_drewN HS6.out) hz5 hft).mono ?_; rintro e w8 ⟨v8, rfl, ho8, hb8⟩; obtain ⟨x8, n8, c8, rfl, hlo8⟩ := ho8.lst; have H8 := Lib.hid hlo8; have HB8 := Lib.hid ((below_drewN HB6.out _).trans (hb8.mono (le_drewN HB6.out.size))); clear ho8 hb8 hlo8))
                go_ret3
                exact rdPut_of HF.out H8.out (HBW.out.trans (HB8.out.mono hwX))
end Go.Proofs.YtikmmhccgmmneaaGreatDoor
