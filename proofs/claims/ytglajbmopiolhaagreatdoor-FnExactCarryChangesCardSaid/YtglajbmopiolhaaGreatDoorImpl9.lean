/-
  Contracts of chapter 9's program: walking along a path, reading a file, the names of a folder.
-/
import Derived.Test.YtglajbmopiolhaaGreatDoorWalks9
import Derived.Test.YtglajbmopiolhaaGreatDoorFold4
import Derived.Test.YtglajbmopiolhaaGreatDoorImpl8
namespace Go.Proofs.YtglajbmopiolhaaGreatDoor
open Go.RowKit
set_option linter.unusedVariables false
/-! ### a name's print -/
theorem findE_skip {l : List Ent} {nm : ByteArray} : ∀ j, (∀ i, i < j → (nthE l i).1 ≠ nm) → j ≤ l.length → findE l nm = findE (l.drop j) nm
  | 0, _, _ => by rw [List.drop_zero]
  | j + 1, h, hj => by
    rw [findE_skip j (fun i hi => h i (by omega)) (by omega)]
    exact findE_step (by omega) (by rw [str_beq, decide_eq_false (h j (by omega))])
theorem findE_here {l : List Ent} {nm : ByteArray} (h : hereE nm l = true) : atE nm l < l.length ∧ findE l nm = some (nthE l (atE nm l)).2 := by
  unfold hereE at h
  rw [Bool.and_eq_true, decide_eq_true_eq, decide_eq_true_eq] at h
  refine ⟨h.1, ?_⟩
  rw [findE_skip (atE nm l) (fun i hi => lt_ne (atE_before hi)) (atE_le _ _)]
  exact findE_stop h.1 (by rw [str_beq, h.2]; simp)
theorem findE_gone {l : List Ent} {nm : ByteArray} (hs : AscE l) (h : hereE nm l = false) : findE l nm = none := by
  have h1 := lessE_none hs h
  unfold lessE at h1
  have h2 := List.filter_eq_self.1 h1
  rw [findE_skip l.length (fun i hi e => ?_) (Nat.le_refl _)]
  · exact findE_end (Nat.le_refl _)
  · have := h2 (nthE l i) (by rw [nthE_get hi]; exact List.getElem_mem _)
    unfold otherE at this; rw [e] at this; simp at this
/-- The print of a name in the folder of a print, and whether there is one. -/
def stepW (l : List Pc) (p : Int) (nm : ByteArray) : Int × Bool := ((findE (foldL (gotT l p)) nm).getD (-1), (findE (foldL (gotT l p)) nm).isSome)
theorem stepW_none {l : List Pc} {p : Int} {nm : ByteArray} (h : findE (foldL (gotT l p)) nm = none) : stepW l p nm = (-1, false) := by unfold stepW; rw [h]; rfl
theorem stepW_some {l : List Pc} {p c : Int} {nm : ByteArray} (h : findE (foldL (gotT l p)) nm = some c) : stepW l p nm = (c, true) := by unfold stepW; rw [h]; rfl
theorem stepW_fold {l : List Pc} {p : Int} {nm : ByteArray} (h : isFold (gotT l p) = false) : stepW l p nm = (-1, false) := stepW_none (by rw [foldL_no h]; rfl)
def walkG (l : List Pc) : Int → List ByteArray → Int × Bool
  | p, [] => if gotO l p = true then (p, true) else (-1, false)
  | p, nm :: r => if (stepW l p nm).2 = true then walkG l (stepW l p nm).1 r else (-1, false)
theorem walkG_no {l : List Pc} {p : Int} {ps : List ByteArray} {k : Nat} (h : k < ps.length) (hc : (stepW l p (nthS ps k)).2 = false) : walkG l p (ps.drop k) = (-1, false) := by
  rw [List.drop_eq_getElem_cons h, walkG, ← nthS_get h, if_neg (by rw [hc]; simp)]
theorem walkG_go {l : List Pc} {p : Int} {ps : List ByteArray} {k : Nat} (h : k < ps.length) (hc : (stepW l p (nthS ps k)).2 = true) : walkG l p (ps.drop k) = walkG l (stepW l p (nthS ps k)).1 (ps.drop (k + 1)) := by
  rw [List.drop_eq_getElem_cons h, walkG, ← nthS_get h, if_pos hc]
theorem walkG_yes {l : List Pc} {p : Int} {ps : List ByteArray} {k : Nat} (h : ps.length ≤ k) (hc : gotO l p = true) : walkG l p (ps.drop k) = (p, true) := by
  rw [List.drop_of_length_le h, walkG, if_pos hc]
theorem walkG_end {l : List Pc} {p : Int} {ps : List ByteArray} {k : Nat} (h : ps.length ≤ k) (hc : gotO l p = false) : walkG l p (ps.drop k) = (-1, false) := by
  rw [List.drop_of_length_le h, walkG, if_neg (by rw [hc]; simp)]
theorem gotT_out {l : List Pc} {p : Int} (h : storeB l = false) : gotT l p = ByteArray.empty := by unfold gotT; rw [h]; rfl
theorem empty_fold : isFold ByteArray.empty = false := by rfl
theorem walkG_is (l : List Pc) : ∀ (ps : List ByteArray) (p : Int), walkG l p ps = if storeB l = true then walkB l p ps else (-1, false)
  | [], p => by rw [walkG, walkB]; unfold gotO; cases storeB l <;> simp
  | nm :: r, p => by
    rw [walkG]
    cases hs : storeB l
    · rw [stepW_fold (by rw [gotT_out hs]; exact empty_fold)]; rfl
    · rw [walkB, childB, ← (got_yes p hs).1]
      cases hc : findE (foldL (gotT l p)) nm with
      | none => rw [stepW_none hc]; rfl
      | some c => rw [stepW_some hc, if_pos rfl, walkG_is l r c, hs]
theorem wtB_out {l : List Pc} {root : Int} {path : ByteArray} (h : isPath path = true) : wtB l root path = walkG l root (partsB path) := by
  rw [walkG_is]
  unfold wtB; rw [h, Bool.true_and]
theorem got_out {l : List Pc} {p : Int} (h : gotO l p = false) : gotT l p = ByteArray.empty := by
  unfold gotO at h; unfold gotT
  cases hs : storeB l
  · rfl
  · rw [hs, Bool.true_and] at h
    unfold getO at h; unfold getT
    cases hg : getB l p with
    | none => rfl
    | some s => rw [hg] at h; cases h
/-! ### the folder and the file of a print -/
theorem getFolder_any (x : Option Addr) (n cap : Nat) (l : List Pc) (p : Int) (B : Nat) (w : World) (h : Pcs w B x n cap l) (hB : B ≤ w.heap.size) (hz : ∀ k, (nthP l k).2.size ≤ 1048576) :
    Calls Tryz.prog 92 #[.slice x n cap, .int .i64 p] w (NewEB (foldL (gotT l p)) (isFold (gotT l p)) w) := by
  have HH := Lib.hid h; have HZ := Lib.hid hz
  have hgz := gotT_size (p := p) hz
  have HE := Lib.hid (show gotO l p = false → foldL (gotT l p) = [] ∧ isFold (gotT l p) = false from fun e => by rw [got_out e]; exact ⟨foldL_no empty_fold, empty_fold⟩)
  clear h hz
  go_enter Tryz.func92, Tryz.ntmps92
  go_wp2_with fail
  refine (implGetText_any x n cap l p B _ HH.out hB (mil_max HZ.out)).mono ?_
  rintro e w1 ⟨rfl, hb⟩
  have HB := Lib.hid hb
  have hs1 := hb.size
  clear hb
  cases hg : gotO l p
  · have HF := Lib.hid (HE.out hg)
    clear hg HE
    go_wp2_with fail
    go_ret2
    exact newEB_of HF.out ⟨_, rfl, OwnL.nil _ _ _ _ _, HB.out⟩
  · clear HE
    go_wp2_with fail
    refine (implReadFolder_any _ _ hgz).mono ?_
    rintro e w2 ⟨v, rfl, ho, hb⟩
    have HO := Lib.hid (ho.mono hs1); have HB2 := Lib.hid (HB.out.trans (hb.mono hs1))
    clear ho hb
    go_wp2_with fail
    go_ret2
    exact ⟨_, rfl, HO.out, HB2.out⟩
theorem getFile_any (x : Option Addr) (n cap : Nat) (l : List Pc) (p : Int) (B : Nat) (w : World) (h : Pcs w B x n cap l) (hB : B ≤ w.heap.size) (hz : ∀ k, (nthP l k).2.size ≤ 1048576) :
    Calls Tryz.prog 55 #[.slice x n cap, .int .i64 p] w (BelowTB (fileT (gotT l p), isFile (gotT l p)) w) := by
  have HH := Lib.hid h; have HZ := Lib.hid hz
  have hgz := gotT_size (p := p) hz
  have HE := Lib.hid (show gotO l p = false → (fileT (gotT l p), isFile (gotT l p)) = (ByteArray.empty, false) from fun e => by rw [got_out e, fileT_no (s := ByteArray.empty) rfl]; rfl)
  clear h hz
  go_enter Tryz.func55, Tryz.ntmps55
  go_wp2_with fail
  refine (implGetText_any x n cap l p B _ HH.out hB (mil_max HZ.out)).mono ?_
  rintro e w1 ⟨rfl, hb⟩
  have HB := Lib.hid hb
  have hs1 := hb.size
  clear hb
  cases hg : gotO l p
  · have HF := Lib.hid (HE.out hg)
    clear hg HE
    go_wp2_with fail
    go_ret2
    exact belowTB_of HF.out HB.out
  · clear HE
    go_wp2_with fail
    refine (implReadFile_any _ _ hgz).mono ?_
    rintro e w2 ⟨rfl, hb⟩
    have HB2 := Lib.hid (HB.out.trans (hb.mono hs1))
    clear hb
    go_wp2_with fail
    go_ret2
    exact belowTB_of rfl HB2.out
/-- The print of a name in the text of a folder, and whether there is one. -/
def nameW (t nm : ByteArray) : Int × Bool := ((findE (foldL t) nm).getD (-1), (findE (foldL t) nm).isSome)
theorem nameW_none {t nm : ByteArray} (h : findE (foldL t) nm = none) : nameW t nm = (-1, false) := by unfold nameW; rw [h]; rfl
theorem nameW_some {t : ByteArray} {c : Int} {nm : ByteArray} (h : findE (foldL t) nm = some c) : nameW t nm = (c, true) := by unfold nameW; rw [h]; rfl
theorem nameW_fold {t nm : ByteArray} (h : isFold t = false) : nameW t nm = (-1, false) := nameW_none (by rw [foldL_no h]; rfl)
theorem stepW_name (l : List Pc) (p : Int) (nm : ByteArray) : stepW l p nm = nameW (gotT l p) nm := rfl
theorem printNamed_any (t nm : ByteArray) (w : World) (ht : t.size ≤ 1048576) :
    Calls Tryz.prog 114 #[.string t, .string nm] w (BelowIB (nameW t nm) w) := by
  go_enter Tryz.func114, Tryz.ntmps114
  go_wp2_with fail
  refine (implReadFolder_any _ _ ht).mono ?_
  rintro e w1 ⟨v1, rfl, ho, hb⟩
  obtain ⟨x1, n1, c1, rfl, hi⟩ := ho.lst
  have HB := Lib.hid hb; have HI := Lib.hid hi
  have hs1 := hb.size
  clear ho hb hi
  have HN := Lib.hid (nameW_fold (t := t) (nm := nm)); have HG := Lib.hid (nameW_none (t := t) (nm := nm)); have HS := Lib.hid (nameW_some (t := t) (nm := nm) (c := (nthE (foldL t) (atE nm (foldL t))).2))
  have HAS := Lib.hid (ents_asc (fold_ents (s := t)))
  have HL3 := Lib.hid (foldL_len t)
  obtain ⟨E, hE⟩ : ∃ E, foldL t = E := ⟨_, rfl⟩
  rw [hE] at HI HG HS HAS HL3
  clear hE
  have h3 : n1 ≤ 3 := by have := HI.out.len; have := HL3.out; omega
  cases hf : isFold t
  · have HF := Lib.hid (HN.out hf)
    clear HN HG HS hf
    go_wp2_with fail
    go_ret2
    exact belowIB_of HF.out HB.out
  clear hf
  go_wp2_with fail
  refine (placeOfName_any x1 n1 c1 E nm _ _ HI.out (Nat.le_refl _) HAS.out (by omega)).mono ?_
  rintro e w2 ⟨rfl, hb⟩
  have HB2 := Lib.hid (HB.out.trans (hb.mono hs1)); have HI2 := Lib.hid (HI.out.below hb (Nat.le_refl _))
  have hs2 := hb.size
  clear hb
  cases hh : hereE nm E
  · have HF := Lib.hid (HG.out (findE_gone HAS.out hh))
    clear HN HG HS hh
    go_wp2_with fail
    go_ret2
    exact belowIB_of HF.out HB2.out
  · have hx := findE_here hh
    have HF := Lib.hid (HS.out hx.2)
    have hlt : atE nm E < n1 := by have := HI2.out.len; omega
    clear HN HG HS hh
    obtain ⟨k, hk⟩ : ∃ k, atE nm E = k := ⟨_, rfl⟩
    rw [hk] at HF hlt ⊢
    clear hx hk
    obtain ⟨b, o, rfl, hb, hc0, hc1⟩ := HI2.out.atE hlt
    go_wp2_with fail
    go_ret2
    exact belowIB_of HF.out HB2.out
theorem stepTo_any (x : Option Addr) (n cap : Nat) (l : List Pc) (p : Int) (nm : ByteArray) (B : Nat) (w : World) (h : Pcs w B x n cap l) (hB : B ≤ w.heap.size) (hz : ∀ k, (nthP l k).2.size ≤ 1048576) :
    Calls Tryz.prog 88 #[.slice x n cap, .int .i64 p, .string nm] w (BelowIB (stepW l p nm) w) := by
  have HH := Lib.hid h; have HZ := Lib.hid hz
  have hgz := gotT_size (p := p) hz
  have HE := Lib.hid (show gotO l p = false → stepW l p nm = (-1, false) from fun e => stepW_fold (by rw [got_out e]; exact empty_fold))
  have HW := Lib.hid (stepW_name l p nm)
  clear h hz
  go_enter Tryz.func88, Tryz.ntmps88
  go_wp2_with fail
  refine (implGetText_any x n cap l p B _ HH.out hB (mil_max HZ.out)).mono ?_
  rintro e w1 ⟨rfl, hb⟩
  have HB := Lib.hid hb
  have hs1 := hb.size
  clear hb
  cases hg : gotO l p
  · have HF := Lib.hid (HE.out hg)
    clear hg HE
    go_wp2_with fail
    go_ret2
    exact belowIB_of HF.out HB.out
  · clear HE
    obtain ⟨t, ht⟩ : ∃ t, gotT l p = t := ⟨_, rfl⟩
    rw [ht] at hgz HW ⊢
    clear ht
    go_wp2_with fail
    refine (printNamed_any t nm _ hgz).mono ?_
    rintro e w2 ⟨rfl, hb⟩
    have HB2 := Lib.hid (HB.out.trans (hb.mono hs1))
    clear hb
    rw [← HW.out]
    go_wp2_with fail
    go_ret2
    exact belowIB_of rfl HB2.out
/-! ### the chapter's functions -/
theorem implWalkTo_any (x : Option Addr) (n cap : Nat) (l : List Pc) (root : Int) (path : ByteArray) (B : Nat) (w : World) (h : Pcs w B x n cap l) (hB : B ≤ w.heap.size) (hz : ∀ k, (nthP l k).2.size ≤ 1048576) (hs : path.size ≤ 1048576) :
    Calls Tryz.prog 54 #[.slice x n cap, .int .i64 root, .string path] w (BelowIB (wtB l root path) w) := by
  have HH := Lib.hid h; have HZ := Lib.hid hz
  clear h hz
  go_enter Tryz.func54, Tryz.ntmps54
  go_wp2_with fail
  refine (implPathParts_any path _ hs).mono ?_
  rintro e w1 ⟨v1, rfl, ho, hb⟩
  obtain ⟨x1, n1, c1, rfl, hi⟩ := ho.lst
  have HB1 := Lib.hid hb; have HP1 := Lib.hid hi; have HL1 := Lib.hid (HH.out.below hb hB)
  have hs1 := hb.size
  clear hb ho hi
  cases hp : isPath path
  · have HF := Lib.hid (wtB_no (l := l) (root := root) (.inl hp))
    clear hp
    go_wp2_with fail
    go_ret2
    exact belowIB_of HF.out HB1.out
  have HW := Lib.hid (wtB_out (l := l) (root := root) hp)
  have HLEN := Lib.hid HP1.out.len
  have hle1 := HP1.out.le
  have hmx1 := HP1.out.max
  unfold maxLen at hmx1
  clear hp
  obtain ⟨ps, hps⟩ : ∃ ps, partsB path = ps := ⟨_, rfl⟩
  rw [hps] at HW HP1 HLEN
  clear hps
  go_wp2_with fail
  go_loopw [10, 25] (fun pr i wr => ∃ (k : Nat) (c : Int), k ≤ n1 ∧ i = .int .i64 k ∧ pr = .int .i64 c ∧ wtB l root path = walkG l c (ps.drop k) ∧ Below w1.heap.size w1 wr) (fun _ i _ => n1 - (intOf i).toNat)
  case atStart => exact ⟨0, root, by omega, rfl, rfl, by rw [List.drop_zero]; exact HW.out, Below.refl _ _⟩
  case round =>
    obtain ⟨k, c, hk, rfl, rfl, hg, hb⟩ := hrel
    have HG := Lib.hid hg; have HBW := Lib.hid hb
    clear hg hb
    have hwr := HBW.out.size
    have HLS := Lib.hid (HL1.out.below HBW.out (Nat.le_trans hB hs1))
    by_cases hlt : k < n1
    · have hkl : k < ps.length := by have := HLEN.out; omega
      obtain ⟨b, o, rfl, hb, hc⟩ := (HP1.out.below HBW.out (Nat.le_refl _)).atS hlt
      have HY := Lib.hid (fun e => HG.out.trans (walkG_go (l := l) (p := c) hkl e)); have HN := Lib.hid (fun e => HG.out.trans (walkG_no (l := l) (p := c) hkl e))
      obtain ⟨⟨c', g⟩, hR⟩ : ∃ R, stepW l c (nthS ps k) = R := ⟨_, rfl⟩
      rw [hR] at HY HN
      have HR := Lib.hid hR
      clear hR
      cases g
      · have HF := Lib.hid (HN.out rfl)
        clear HY HN
        go_wp2_with (go_at_call 88; refine (stepTo_any x n cap l c (nthS ps k) B _ HLS.out (by omega) HZ.out).mono ?_; rintro e w2 ⟨rfl, hb⟩; rw [HR.out]; have HB2 := Lib.hid (HBW.out.trans (hb.mono hwr)); clear hb)
        go_ret2
        exact belowIB_of HF.out (HB1.out.trans (HB2.out.mono hs1))
      · have HF := Lib.hid (HY.out rfl)
        clear HY HN
        go_wp2_with (go_at_call 88; refine (stepTo_any x n cap l c (nthS ps k) B _ HLS.out (by omega) HZ.out).mono ?_; rintro e w2 ⟨rfl, hb⟩; rw [HR.out]; have HB2 := Lib.hid (HBW.out.trans (hb.mono hwr)); clear hb)
        go_roundw
        case rel => exact ⟨k + 1, c', by omega, by go_num, rfl, HF.out, HB2.out⟩
        case measure => simp [intOf]; omega
    · have hle : ps.length ≤ k := by have := HLEN.out; omega
      cases ho : gotO l c
      · have HF := Lib.hid (HG.out.trans (walkG_end hle ho))
        go_wp2_with (go_at_call 89; refine (implGetText_any x n cap l c B _ HLS.out (by omega) (mil_max HZ.out)).mono ?_; rintro e w2 ⟨rfl, hb⟩; rw [ho]; have HB2 := Lib.hid (HBW.out.trans (hb.mono hwr)); clear hb)
        go_ret2
        exact belowIB_of HF.out (HB1.out.trans (HB2.out.mono hs1))
      · have HF := Lib.hid (HG.out.trans (walkG_yes hle ho))
        go_wp2_with (go_at_call 89; refine (implGetText_any x n cap l c B _ HLS.out (by omega) (mil_max HZ.out)).mono ?_; rintro e w2 ⟨rfl, hb⟩; rw [ho]; have HB2 := Lib.hid (HBW.out.trans (hb.mono hwr)); clear hb)
        go_ret2
        exact belowIB_of HF.out (HB1.out.trans (HB2.out.mono hs1))
theorem implReadAt_any (x : Option Addr) (n cap : Nat) (l : List Pc) (root : Int) (path : ByteArray) (B : Nat) (w : World) (h : Pcs w B x n cap l) (hB : B ≤ w.heap.size) (hz : ∀ k, (nthP l k).2.size ≤ 1048576) (hs : path.size ≤ 1048576) :
    Calls Tryz.prog 23 #[.slice x n cap, .int .i64 root, .string path] w (BelowTB (rdB l root path) w) := by
  have HH := Lib.hid h; have HZ := Lib.hid hz
  clear h hz
  go_enter Tryz.func23, Tryz.ntmps23
  go_wp2_with fail
  refine (implWalkTo_any x n cap l root path B _ HH.out hB HZ.out hs).mono ?_
  rintro e w1 ⟨rfl, hb⟩
  have HB1 := Lib.hid hb; have HL1 := Lib.hid (HH.out.below hb hB)
  have hs1 := hb.size
  clear hb
  have HY := Lib.hid (show (wtB l root path).2 = true → rdB l root path = (fileT (gotT l (wtB l root path).1), isFile (gotT l (wtB l root path).1)) from fun e => by unfold rdB; rw [if_pos e])
  have HN := Lib.hid (show (wtB l root path).2 = false → rdB l root path = (ByteArray.empty, false) from fun e => by unfold rdB; rw [if_neg (by rw [e]; simp)])
  obtain ⟨⟨c, b⟩, hR⟩ : ∃ R, wtB l root path = R := ⟨_, rfl⟩
  rw [hR] at HY HN ⊢
  clear hR
  cases b
  · have HF := Lib.hid (HN.out rfl)
    clear HN HY
    go_wp2_with fail
    go_ret2
    exact belowTB_of HF.out HB1.out
  · have HF := Lib.hid (HY.out rfl)
    clear HN HY
    go_wp2_with fail
    refine (getFile_any x n cap l c B _ HL1.out (Nat.le_trans hB hs1) HZ.out).mono ?_
    rintro e w2 ⟨rfl, hb⟩
    have HB2 := Lib.hid (HB1.out.trans (hb.mono hs1))
    clear hb
    go_wp2_with fail
    go_ret2
    exact belowTB_of HF.out HB2.out
end Go.Proofs.YtglajbmopiolhaaGreatDoor
