/-
  Chapter 12's model: right proofs, what they prove, and proofs of absence.
-/
import Derived.Test.YtojebghaegimbaaGreatDoorModel12
namespace Go.Proofs.YtojebghaegimbaaGreatDoor
open Go.RowKit
set_option linter.unusedVariables false
theorem right_no1 {root : Int} {path : ByteArray} {L : List ByteArray} (h : isPath path = false) : ppRight root path L = false := by unfold ppRight; rw [h]; simp
theorem right_no2 {root : Int} {path : ByteArray} {L : List ByteArray} (h : L.length ≠ (partsB path).length + 1) : ppRight root path L = false := by unfold ppRight; rw [decide_eq_false h]; simp
theorem right_is {root : Int} {path : ByteArray} {L : List ByteArray} (h : isPath path = true) (h' : L.length = (partsB path).length + 1) : ppRight root path L = wayPB root (partsB path) L := by unfold ppRight; rw [h, decide_eq_true h']; simp
set_option maxHeartbeats 1000000 in
theorem specProofRight_any (root : Int) (path : ByteArray) (y : Option Addr) (m d : Nat) (L : List ByteArray) (B : Nat) (w : World) (h : Strs w B y m d L) (hB : B ≤ w.heap.size) (hs : path.size ≤ 1048576) (hz : ∀ k, (nthS L k).size ≤ 1048576) :
    Calls Tryz.prog 36 #[.int .i64 root, .string path, .slice y m d] w (BelowB (ppRight root path L) w) := by
  have HL := Lib.hid h; have HZ := Lib.hid hz
  have HLM := Lib.hid h.len
  clear h hz
  go_enter Tryz.func36, Tryz.ntmps36
  go_wp2_with fail
  refine (specPathParts_any path _ hs).mono ?_
  rintro e w1 ⟨v1, rfl, ho, hb⟩
  obtain ⟨x, n, c, rfl, hi⟩ := ho.lst
  have HB1 := Lib.hid hb; have HP := Lib.hid hi; have HLN := Lib.hid hi.len; have HL1 := Lib.hid (HL.out.below hb hB)
  have hs1 := hb.size
  have hn3 : n ≤ 3 := by have := (parts_small (s := path)).1; have := hi.len; omega
  have hw1 : IntKind.i64.wrap ((n : Int) + 1) = (n : Int) + 1 := IntWalk.i64_in _ (by omega)
  clear hb ho hi
  cases hp : isPath path
  · have HF := Lib.hid (right_no1 (root := root) (L := L) hp)
    clear hp
    go_wp2_with fail
    go_ret
    exact ⟨ret_bool HF.out.symm, HB1.out⟩
  by_cases hlen : m = n + 1
  · have hd : ((m : Int) == (n : Int) + 1) = true := by simp; omega
    have HF := Lib.hid (right_is (root := root) (L := L) hp (by have := HLM.out; have := HLN.out; omega))
    clear hp
    obtain ⟨g, hg⟩ : ∃ g, wayPB root (partsB path) L = g := ⟨_, rfl⟩
    rw [hg] at HF
    have HGG := Lib.hid hg
    have hlm : m ≤ n + 1 := by omega
    clear hg hlen
    go_wp2_with (go_at_call 65; refine (specL12Way_any root x n c (partsB path) y m d L _ _ _ HP.out (Nat.le_refl _) HL1.out (Nat.le_trans hB hs1) HZ.out (by omega) (by omega)).mono ?_; rintro e w2 ⟨rfl, hb⟩; rw [HGG.out]; have HB2 := Lib.hid (HB1.out.trans (hb.mono hs1)); clear hb)
    go_ret
    exact ⟨ret_bool (by rw [HF.out]), HB2.out⟩
  · have hd : ((m : Int) == (n : Int) + 1) = false := by simp; omega
    have HF := Lib.hid (right_no2 (root := root) (path := path) (L := L) (by have := HLM.out; have := HLN.out; omega))
    clear hp hlen
    go_wp2_with fail
    go_ret
    exact ⟨ret_bool HF.out.symm, HB1.out⟩
theorem specProofContent_any (root : Int) (path : ByteArray) (y : Option Addr) (m d : Nat) (L : List ByteArray) (B : Nat) (w : World) (h : Strs w B y m d L) (hB : B ≤ w.heap.size) (hs : path.size ≤ 1048576) (hz : ∀ k, (nthS L k).size ≤ 1048576) :
    Calls Tryz.prog 16 #[.int .i64 root, .string path, .slice y m d] w (BelowTB (ppCont root path L) w) := by
  have HL := Lib.hid h; have HZ := Lib.hid hz
  have HLM := Lib.hid h.len
  have hle := h.le
  have hmx := h.max
  unfold maxLen at hmx
  have HN := Lib.hid (show ppRight root path L = false → ppCont root path L = (ByteArray.empty, false) from fun e => by unfold ppCont; rw [if_neg (by rw [e]; simp)])
  have HY := Lib.hid (show ppRight root path L = true → ppCont root path L = (fileT (nthS L (L.length - 1)), isFile (nthS L (L.length - 1))) ∧ 0 < L.length from fun e => by
    have := (right_facts e).2.2.2.2.2.2
    exact ⟨by unfold ppCont; rw [if_pos e], by omega⟩)
  clear h hz
  go_enter Tryz.func16, Tryz.ntmps16
  go_wp2_with fail
  refine (specProofRight_any root path y m d L B _ HL.out hB hs HZ.out).mono ?_
  rintro e w1 ⟨rfl, hb⟩
  have HB1 := Lib.hid hb; have HL1 := Lib.hid (HL.out.below hb hB)
  have hs1 := hb.size
  clear hb
  cases hg : ppRight root path L
  · have HF := Lib.hid (HN.out hg)
    clear hg
    go_wp2_with fail
    go_ret2
    exact belowTB_of HF.out HB1.out
  · obtain ⟨hf, h0⟩ := HY.out hg
    obtain ⟨i, hi⟩ : ∃ i, m = i + 1 := ⟨m - 1, by have := HLM.out; omega⟩
    have HF := Lib.hid (show ppCont root path L = (fileT (nthS L i), isFile (nthS L i)) by rw [hf, HLM.out, hi]; rfl)
    have hw9 : IntKind.i64.wrap ((m : Int) - 1) = (i : Int) := by rw [IntKind.wrap_i64]; omega
    have him : (i : Int) < (m : Int) := by omega
    have him2 : i < m := by omega
    have hi0 : (0 : Int) ≤ (i : Int) := by omega
    obtain ⟨b, o, rfl, hbb, hcc⟩ := HL1.out.atS him2
    have hzi : (nthS L i).size ≤ maxLen := Nat.le_trans (HZ.out i) (by unfold maxLen; omega)
    clear hg hf h0 hi
    go_wp2_with fail
    refine (specReadFile_any (nthS L i) _ hzi).mono ?_
    rintro e w' ⟨rfl, hw⟩
    subst hw
    go_wp2_with fail
    go_ret2
    exact belowTB_of HF.out HB1.out
theorem abs_no {root : Int} {path : ByteArray} {L : List ByteArray} (h : isPath path = false ∨ in3 (L.length : Int) 1 ((partsB path).length : Int) = false ∨ wayPB root (partsB path) L = false) : ppAbs root path L = false := by
  unfold ppAbs
  rcases h with h | h | h
  · rw [h]; simp
  · have : (decide (1 ≤ L.length) && decide (L.length ≤ (partsB path).length)) = false := by
      unfold in3 at h
      rw [decide_eq_false_iff_not] at h
      rw [Bool.and_eq_false_iff, decide_eq_false_iff_not, decide_eq_false_iff_not]
      omega
    rw [this]; simp
  · rw [h]; simp
theorem abs_is {root : Int} {path : ByteArray} {L : List ByteArray} (h1 : isPath path = true) (h2 : in3 (L.length : Int) 1 ((partsB path).length : Int) = true) (h3 : wayPB root (partsB path) L = true) :
    1 ≤ L.length ∧ L.length ≤ (partsB path).length ∧ ppAbs root path L = (isFold (nthS L (L.length - 1)) && !hasN (foldL (nthS L (L.length - 1))) (nthS (partsB path) (L.length - 1))) := by
  unfold in3 at h2
  rw [decide_eq_true_eq] at h2
  refine ⟨by omega, by omega, ?_⟩
  unfold ppAbs
  rw [h1, h3, decide_eq_true (show 1 ≤ L.length by omega), decide_eq_true (show L.length ≤ (partsB path).length by omega)]
  simp
set_option maxHeartbeats 1000000 in
set_option maxRecDepth 100000 in
theorem specAbsenceRight_any (root : Int) (path : ByteArray) (y : Option Addr) (m d : Nat) (L : List ByteArray) (B : Nat) (w : World) (h : Strs w B y m d L) (hB : B ≤ w.heap.size) (hs : path.size ≤ 1048576) (hz : ∀ k, (nthS L k).size ≤ 1048576) :
    Calls Tryz.prog 42 #[.int .i64 root, .string path, .slice y m d] w (BelowB (ppAbs root path L) w) := by
  have HL := Lib.hid h; have HZ := Lib.hid hz
  have HLM := Lib.hid h.len
  have hle := h.le
  have hmx := h.max
  unfold maxLen at hmx
  clear h hz
  go_enter Tryz.func42, Tryz.ntmps42
  go_wp2_with fail
  refine (specPathParts_any path _ hs).mono ?_
  rintro e w1 ⟨v1, rfl, ho, hb⟩
  obtain ⟨x, n, c, rfl, hi⟩ := ho.lst
  have HB1 := Lib.hid hb; have HP := Lib.hid hi; have HLN := Lib.hid hi.len; have HL1 := Lib.hid (HL.out.below hb hB)
  have hs1 := hb.size
  have hn3 : n ≤ 3 := by have := (parts_small (s := path)).1; have := hi.len; omega
  clear hb ho hi
  cases hp : isPath path
  · have HF := Lib.hid (abs_no (root := root) (L := L) (.inl hp))
    clear hp
    go_wp2_with fail
    go_ret
    exact ⟨ret_bool HF.out.symm, HB1.out⟩
  cases hin : in3 (m : Int) 1 (n : Int)
  · have HF := Lib.hid (abs_no (root := root) (path := path) (L := L) (.inr (.inl (by rw [HLM.out, HLN.out]; exact hin))))
    clear hp
    go_wp2_with (go_at_call 71; refine (l1In_any _ _ _ _).mono ?_; rintro e w' ⟨rfl, hw⟩; subst hw; rw [hin])
    go_ret
    exact ⟨ret_bool HF.out.symm, HB1.out⟩
  have hmn : 1 ≤ m ∧ m ≤ n := by unfold in3 at hin; rw [decide_eq_true_eq] at hin; omega
  cases hwy : wayPB root (partsB path) L
  · have HF := Lib.hid (abs_no (root := root) (path := path) (L := L) (.inr (.inr hwy)))
    clear hp
    go_wp2_with (first
      | (go_at_call 71; refine (l1In_any _ _ _ _).mono ?_; rintro e w' ⟨rfl, hw⟩; subst hw; rw [hin])
      | (go_at_call 65; refine (specL12Way_any root x n c (partsB path) y m d L _ _ _ HP.out (Nat.le_refl _) HL1.out (Nat.le_trans hB hs1) HZ.out (by omega) (by omega)).mono ?_; rintro e w2 ⟨rfl, hb⟩; rw [hwy]; have HB2 := Lib.hid (HB1.out.trans (hb.mono hs1)); clear hb))
    go_ret
    exact ⟨ret_bool HF.out.symm, HB2.out⟩
  obtain ⟨h1, h2, h3⟩ := abs_is (root := root) (path := path) (L := L) hp (by rw [HLM.out, HLN.out]; exact hin) hwy
  obtain ⟨i, hi⟩ : ∃ i, m = i + 1 := ⟨m - 1, by omega⟩
  have e1 : L.length - 1 = i := by have := HLM.out; omega
  rw [e1] at h3
  have HF := Lib.hid h3
  have hw9 : IntKind.i64.wrap ((m : Int) - 1) = (i : Int) := by rw [IntKind.wrap_i64]; omega
  have him : (i : Int) < (m : Int) := by omega
  have hin2 : (i : Int) < (n : Int) := by omega
  have him2 : i < m := by omega
  have hi0 : (0 : Int) ≤ (i : Int) := by omega
  have hzi := HZ.out i
  clear hp h1 h2 h3 e1 hi
  have HIN := Lib.hid (show i < n by omega)
  go_upto_region 4 with (first
      | (go_at_call 71; refine (l1In_any _ _ _ _).mono ?_; rintro e w' ⟨rfl, hw⟩; subst hw; rw [hin])
      | (go_at_call 65; refine (specL12Way_any root x n c (partsB path) y m d L _ _ _ HP.out (Nat.le_refl _) HL1.out (Nat.le_trans hB hs1) HZ.out (by omega) (by omega)).mono ?_; rintro e w2 ⟨rfl, hb⟩; rw [hwy]; have HB2 := Lib.hid (HB1.out.trans (hb.mono hs1)); have HL2 := Lib.hid (HL1.out.below hb (Nat.le_trans hB hs1)); have HP2 := Lib.hid ((HP.out.below hb (Nat.le_refl _)).more hb.size); clear hb))
  have hs2 := HB2.out.size
  obtain ⟨b, o, rfl, hbb, hcc⟩ := HL2.out.atS him2
  go_wp2_with fail
  refine (specReadFolder_any _ _ hzi).mono ?_
  rintro e w3 ⟨v3, rfl, ho, hb3⟩
  obtain ⟨xo, no, co, rfl, hlo⟩ := ho.lst
  have HLO := Lib.hid hlo; have HB3 := Lib.hid (HB2.out.trans (hb3.mono hs2)); have HLE := Lib.hid hlo.len; have HP3 := Lib.hid (HP2.out.below hb3 (Nat.le_refl _))
  obtain ⟨bs, os, rfl, _, hcs⟩ := HP3.out.atS HIN.out
  have HCS := Lib.hid hcs
  have hno3 : no ≤ 3 := by have := foldL_len (nthS L i); have := HLE.out; omega
  obtain ⟨nm, hnm⟩ : ∃ nm, nthS (partsB path) i = nm := ⟨_, rfl⟩
  rw [hnm] at HF HCS
  obtain ⟨E, hE⟩ : ∃ E, foldL (nthS L i) = E := ⟨_, rfl⟩
  rw [hE] at HF HLO HLE
  obtain ⟨g, hg⟩ : ∃ g, isFold (nthS L i) = g := ⟨_, rfl⟩
  rw [hg] at HF ⊢
  clear ho hb3 hlo hcs hnm hE hg hcc
  go_wp2_with fail
  go_loopw [11] (fun jv wq => ∃ j : Nat, j ≤ no ∧ jv = .int .i64 j ∧ (∀ q, q < j → (nthE E q).1 ≠ nm) ∧ ∃ q, wq = w3.drewN q) (fun jv _ => no - (intOf jv).toNat)
  case atStart => exact ⟨0, by omega, rfl, fun q hq => by omega, 0, rfl⟩
  case round =>
    obtain ⟨j, hj, rfl, hno, hq⟩ := hrel
    have HNO := Lib.hid hno; have HQ := Lib.hid hq; clear hno hq
    have HBR := Lib.hid (show Below w3.heap.size w3 wr by obtain ⟨q, rfl⟩ := HQ.out; exact below_drewN (Below.refl _ _) q)
    have hcs : wr.cell? ⟨bs, os + i, none⟩ = some (.string nm) := by obtain ⟨q, rfl⟩ := HQ.out; exact HCS.out
    have HBW := Lib.hid (HB3.out.trans (HBR.out.mono HB3.out.size))
    by_cases hjl : j < no
    · have hjl2 : j < E.length := by have := HLE.out; omega
      have hji : (j : Int) < (no : Int) := by omega
      obtain ⟨b, off, rfl, hb, hc0, hcp⟩ := (HLO.out.below HBR.out (Nat.le_refl _)).atE hjl
      cases hmn2 : ((nthE E j).1.toList == nm.toList)
      · have hne : (nthE E j).1 ≠ nm := by rw [str_beq, decide_eq_false_iff_not] at hmn2; exact hmn2
        have HNE := Lib.hid hne
        clear hne
        go_wp2
        go_quiet (fail)
        go_wp2
        go_roundw
        case rel => exact ⟨j + 1, by omega, by go_num, fun q hq => by
          by_cases e : q = j
          · rw [e]; exact HNE.out
          · exact HNO.out q (by omega), by obtain ⟨q, rfl⟩ := HQ.out; exact ⟨_, by rw [World.drewN_drewN]⟩⟩
        case measure => simp [intOf] <;> omega
      · have heq : (nthE E j).1 = nm := by rw [str_beq, decide_eq_true_eq] at hmn2; exact hmn2
        have HR := Lib.hid (show ppAbs root path L = false by rw [HF.out, hasN_at hjl2 heq]; simp)
        clear heq
        go_wp2
        go_quiet (fail)
        go_wp2
        go_ret
        exact ⟨ret_bool HR.out.symm, below_drewN HBW.out _⟩
    · have HR := Lib.hid (show ppAbs root path L = g by rw [HF.out, hasN_end (fun q hq => HNO.out q (by have := HLE.out; omega))]; simp)
      go_wp2_with fail
      go_ret
      exact ⟨ret_bool HR.out.symm, HBW.out⟩
theorem path_take (path : ByteArray) (k : Nat) : (pathB ((partsB path).take k)).size ≤ 1048576 :=
  Nat.le_trans (path_size _ (fun s hs => by
    have h := List.mem_of_mem_take hs
    obtain ⟨j, hj, rfl⟩ := List.mem_iff_getElem.1 h
    rw [← nthS_get hj]
    exact Nat.le_trans ((parts_small (s := path)).2 j) (by decide)) (by rw [List.length_take]; have := (parts_small (s := path)).1; omega)) (by decide)
theorem textsW_max {l : List Pc} {m : Nat} (h : ∀ k, (nthP l k).2.size ≤ m) : ∀ (ps : List ByteArray) (p : Int), ∀ t ∈ textsW l p ps, t.size ≤ m
  | [], p, t, ht => by
    rw [textsW, List.mem_singleton] at ht
    rw [ht]; exact getT_size h
  | nm :: r, p, t, ht => by
    rw [textsW] at ht
    rcases List.mem_cons.1 ht with h1 | h1
    · rw [h1]; exact getT_size h
    · exact textsW_max h r _ t h1
theorem texts_max {l : List Pc} {root : Int} {path : ByteArray} {m : Nat} (h : ∀ k, (nthP l k).2.size ≤ m) (k : Nat) : (nthS (ppTexts l root path) k).size ≤ m := nthS_all (fun q hq => by
  unfold ppTexts at hq
  split at hq
  · exact textsW_max h _ _ q hq
  · cases hq) k
set_option maxHeartbeats 1000000 in
set_option maxRecDepth 100000 in
theorem specAbsenceProof_any (x : Option Addr) (n cap : Nat) (l : List Pc) (root : Int) (path : ByteArray) (B : Nat) (w : World) (h : Pcs w B x n cap l) (hB : B ≤ w.heap.size) (hz : ∀ k, (nthP l k).2.size ≤ 1048576) (hs : path.size ≤ 1048576) :
    Calls Tryz.prog 21 #[.slice x n cap, .int .i64 root, .string path] w (NewS (ppGone l root path) w) := by
  have HH := Lib.hid h; have HZ := Lib.hid hz
  have HN := Lib.hid (show isPath path = false ∨ storeB l = false → ppGone l root path = [] from fun e => by unfold ppGone; rcases e with e | e <;> rw [e] <;> simp)
  have HY := Lib.hid (show isPath path = true → storeB l = true → ppGone l root path = goneF l root path (List.range (partsB path).length) from fun e e' => by unfold ppGone; rw [e, e']; rfl)
  clear h hz
  go_enter Tryz.func21, Tryz.ntmps21
  go_wp2_with fail
  refine (specPathParts_any path _ hs).mono ?_
  rintro e w1 ⟨v1, rfl, ho, hb⟩
  obtain ⟨y, m, d, rfl, hi⟩ := ho.lst
  have HB1 := Lib.hid hb; have HP := Lib.hid hi; have HLN := Lib.hid hi.len; have HL1 := Lib.hid (HH.out.below hb hB)
  have hs1 := hb.size
  have hm3 : m ≤ 3 := by have := (parts_small (s := path)).1; have := hi.len; omega
  have hle := hi.le
  have hmx := hi.max
  unfold maxLen at hmx
  clear hb ho hi
  have HNW := Lib.hid (show ∀ W, Below w.heap.size w W → OwnS (W.alloc (.cells #[] 9)) w.heap.size (.slice (some ⟨W.heap.size, 0, none⟩) 0 0) [] ∧ Below w.heap.size w (W.alloc (.cells #[] 9)) from fun W hb => ⟨OwnL.newAt _ _ rfl hb.size, hb.alloc hb.size _⟩)
  cases hp : isPath path
  · have HF := Lib.hid (HN.out (.inl hp))
    have HX := Lib.hid (HNW.out _ HB1.out)
    clear hp
    go_wp2_with fail
    go_ret
    exact newS_of HF.out HX.out.1 HX.out.2
  cases hst : storeB l
  · have HF := Lib.hid (HN.out (.inr hst))
    clear hp
    go_wp2_with (go_at_call 40; refine (specStoreValid_any _ _ _ _ _ _ HL1.out (mil_max HZ.out)).mono ?_; rintro e w2 ⟨rfl, hq⟩; rw [hst]; have HB2 := Lib.hid (below_quiet HB1.out hq); clear hq; have HX := Lib.hid (HNW.out _ HB2.out))
    go_ret
    exact newS_of HF.out HX.out.1 HX.out.2
  have HG := Lib.hid (HY.out hp hst)
  clear HY HN hp
  go_wp2_with (go_at_call 40; refine (specStoreValid_any _ _ _ _ _ _ HL1.out (mil_max HZ.out)).mono ?_; rintro e w2 ⟨rfl, hq⟩; rw [hst]; have HB2 := Lib.hid (below_quiet HB1.out hq); have HP2 := Lib.hid ((HP.out.quiet hq).more (Nat.le_of_eq (size_quiet hq).symm)); clear hq)
  clear hst
  have hs2 := HB2.out.size
  rename World => w2
  rw [HLN.out] at HG
  go_loopw [9] (fun iv wr => ∃ k : Nat, k ≤ m ∧ iv = .int .i64 k ∧ Hid (ppGone l root path = goneF l root path ((List.range m).drop k)) ∧ Below w2.heap.size w2 wr) (fun iv _ => m - (intOf iv).toNat)
  case atStart => exact ⟨0, by omega, rfl, Lib.hid (by rw [List.drop_zero]; exact HG.out), Below.refl _ _⟩
  case round =>
    obtain ⟨k, hk, rfl, HW, hb⟩ := hrel
    have HBR := Lib.hid hb; have HB := Lib.hid (HB2.out.trans (hb.mono hs2))
    have hsz := HB.out.size
    clear hb
    by_cases hlt : k < m
    · have hki : (k : Int) < (m : Int) := by omega
      have hkd : (k : Int) ≤ (d : Int) := by omega
      have hk0 : (0 : Int) ≤ (k : Int) := by omega
      have HXC := Lib.hid ((HP2.out.below HBR.out (Nat.le_refl _)).cut (m := k) (by omega))
      have hpsz : ∀ j, (nthS ((partsB path).take k) j).size ≤ maxLen := fun j => nthS_all (fun q hq => by
        have h := List.mem_of_mem_take hq
        obtain ⟨j, hj, rfl⟩ := List.mem_iff_getElem.1 h
        rw [← nthS_get hj]
        exact Nat.le_trans ((parts_small (s := path)).2 j) (by unfold maxLen; omega)) j
      have hpt := path_take path k
      have HA := Lib.hid (gone_yes (l := l) (root := root) (path := path) (n := m) (k := k) hlt); have HNO := Lib.hid (gone_no (l := l) (root := root) (path := path) (n := m) (k := k) hlt)
      have hga : goneAt l root path k = ppTexts l root (pathB ((partsB path).take k)) := rfl
      rw [hga] at HA HNO
      clear hga
      have HTM := Lib.hid (texts_max (root := root) (path := pathB ((partsB path).take k)) HZ.out)
      go_wp2_with fail
      refine (specJoinPath_any _ _ _ ((partsB path).take k) _ _ HXC.out hpsz).mono ?_
      rintro e w' ⟨rfl, hw⟩
      subst hw
      obtain ⟨P, hP⟩ : ∃ P, pathB ((partsB path).take k) = P := ⟨_, rfl⟩
      rw [hP] at HA HNO HTM hpt ⊢
      clear hP
      go_wp2_with fail
      refine (specPathProof_any x n cap l root P B _ (HH.out.below HB.out hB) (Nat.le_trans hB hsz) HZ.out hpt).mono ?_
      rintro e w3 ⟨v3, rfl, ho, hb3⟩
      obtain ⟨y3, m3, d3, rfl, hi3⟩ := ho.lst
      have HB3 := Lib.hid (HBR.out.trans (hb3.mono (HBR.out.size))); have HO3 := Lib.hid (ho.mono hsz); have HX3 := Lib.hid hi3
      have hs3 := HB3.out.size
      clear ho hb3 hi3
      go_wp2_with fail
      refine (specAbsenceRight_any root path y3 m3 d3 (ppTexts l root P) _ _ HX3.out (Nat.le_refl _) hs HTM.out).mono ?_
      rintro e w4 ⟨rfl, hb4⟩
      have HB4 := Lib.hid (HB3.out.trans (hb4.mono hs3)); have HO4 := Lib.hid (HO3.out.below hb4)
      clear hb4
      cases ha : ppAbs root path (ppTexts l root P)
      · have HF := Lib.hid (HW.out.trans (HNO.out ha))
        clear ha
        go_wp2_with fail
        go_roundw
        case rel => exact ⟨k + 1, by omega, by go_num, HF, HB4.out⟩
        case measure => simp [intOf] <;> omega
      · have HF := Lib.hid (HW.out.trans (HA.out ha))
        clear ha
        go_wp2_with fail
        go_ret
        exact newS_of HF.out HO4.out (HB2.out.trans (HB4.out.mono hs2))
    · have hki : ¬ ((k : Int) < (m : Int)) := by omega
      have HF := Lib.hid (HW.out.trans (gone_end (l := l) (root := root) (path := path) (n := m) (k := k) (by omega)))
      have HX := Lib.hid (HNW.out _ HB.out)
      go_wp2_with fail
      go_ret
      exact newS_of HF.out HX.out.1 HX.out.2
end Go.Proofs.YtojebghaegimbaaGreatDoor
