/-
  Chapter 11's program: all files, how large they are, those with a name, and whether two roots have the same.
-/
import Derived.Test.YtbbjpihlielpgaaGreatDoorMath11b
import Derived.Test.YtbbjpihlielpgaaGreatDoorImpl10
namespace Go.Proofs.YtbbjpihlielpgaaGreatDoor
open Go.RowKit
set_option linter.unusedVariables false
set_option maxHeartbeats 1000000 in
set_option maxRecDepth 100000 in
theorem filesBelow_any (l : List Pc) (x : Option Addr) (n cap : Nat) (hz : ∀ k, (nthP l k).2.size ≤ 1048576) : ∀ (d : Nat) (p : Int) (a : ByteArray) (B : Nat) (w : World), d ≤ 3 → a.size + 9 * d ≤ 27 → Pcs w B x n cap l → B ≤ w.heap.size → Calls Tryz.prog 67 #[.slice x n cap, .int .i64 p, .string a, .int .i64 d] w (NewS (underP l d p a) w)
  | 0, p, a, B, w, hd, ha, h, hB => by
    go_enter Tryz.func67, Tryz.ntmps67
    go_wp2_with fail
    go_ret
    exact ⟨_, rfl, OwnL.nil _ _ _ _ _, Below.refl _ _⟩
  | d + 1, p, a, B, w, hd, ha, h, hB => by
    have ih := Lib.hid (filesBelow_any l x n cap hz d)
    have HH := Lib.hid h; have HZ := Lib.hid hz
    have HF := Lib.hid (underP_succ l d p a)
    have HEN := Lib.hid (ents_ok (fold_ents (s := gotT l p)))
    obtain ⟨m, hm⟩ : ∃ m, m = d + 1 := ⟨_, rfl⟩
    have hm0 : ((m : Int) == 0) = false := by simp; omega
    have hmw : IntKind.i64.wrap ((m : Int) - 1) = (d : Int) := by rw [IntKind.wrap_i64]; omega
    have hd2 : d ≤ 2 := by omega
    have hd3 : d ≤ 3 := by omega
    rw [← hm] at HF ⊢
    have HM := Lib.hid hm
    clear h hz hm hd filesBelow_any
    go_enter Tryz.func67, Tryz.ntmps67
    go_wp2_with fail
    refine (getFolder_any x n cap l p B _ HH.out hB HZ.out).mono ?_
    rintro e w1 ⟨v1, rfl, ho, hb⟩
    obtain ⟨x1, n1, c1, rfl, hi⟩ := ho.lst
    have HB1 := Lib.hid hb; have HI := Lib.hid hi; have HL1 := Lib.hid (HH.out.below hb hB)
    have hs1 := hb.size
    have HLEN := Lib.hid hi.len
    have h3 : n1 ≤ 3 := by have := foldL_len (gotT l p); have := hi.len; omega
    have hle1 := hi.le
    have hmx1 := hi.max
    unfold maxLen at hmx1
    have HN := Lib.hid (OwnL.nil strG 9 1 w1 w1.heap.size)
    clear ho hb hi
    obtain ⟨E, hE⟩ : ∃ E, foldL (gotT l p) = E := ⟨_, rfl⟩
    rw [hE] at HI HF HEN HLEN
    clear hE
    go_wp2_with fail
    go_loopw [11, 13, 14, 15, 16, 27] (fun v _ _ _ _ i wr => ∃ k : Nat, k ≤ n1 ∧ i = .int .i64 k ∧ OwnS wr w1.heap.size v ((E.take k).flatMap (entP l d a)) ∧ Below w1.heap.size w1 wr) (fun _ _ _ _ _ i _ => n1 - (intOf i).toNat)
    case atStart => exact ⟨0, by omega, rfl, HN.out, Below.refl _ _⟩
    case round =>
      obtain ⟨k, hk, rfl, ho, hb⟩ := hrel
      have HO := Lib.hid ho; have HB := Lib.hid hb
      have hsz := hb.size
      clear ho hb
      by_cases hlt : k < n1
      · obtain ⟨be, oe, rfl, hbe, hc0, hc1⟩ := (HI.out.below HB.out (Nat.le_refl _)).atE hlt
        have hkE : k < E.length := by have := HLEN.out; omega
        have HST := Lib.hid (entP_step (l := l) (d := d) (a := a) hkE)
        have HYF := Lib.hid (entP_file (l := l) (d := d) (a := a) (q := nthE E k)); have HYN := Lib.hid (entP_fold (l := l) (d := d) (a := a) (q := nthE E k))
        have HACC := Lib.hid (show ((E.take k).flatMap (entP l d a)).length ≤ 2000000 from flat_many (by rw [List.length_take]; omega) (fun q => entP_many (by omega)))
        obtain ⟨acc, hacc⟩ : ∃ acc, (E.take k).flatMap (entP l d a) = acc := ⟨_, rfl⟩
        rw [hacc] at HO HACC HST
        clear hacc
        have hq8 := word_size (HEN.out (nthE E k) (by rw [nthE_get hkE]; exact List.getElem_mem _)).1
        obtain ⟨q, hq⟩ : ∃ q, nthE E k = q := ⟨_, rfl⟩
        rw [hq] at hc0 hc1 HST hq8 HYF HYN
        clear hq
        have hone : (ByteArray.mk #[47]).size = 1 := rfl
        have hps : (a ++ ⟨#[47]⟩ ++ q.1).size + 9 * d ≤ 27 := by rw [ByteArray.size_append, ByteArray.size_append]; have := HM.out; omega
        have HOA := Lib.hid (HO.out.alloc (.cells #[.string q.1, .int .i64 q.2] 69)); have HBA := Lib.hid (HB.out.alloc hsz (.cells #[.string q.1, .int .i64 q.2] 69))
        have HNEW := Lib.hid (heap_alloc_new wr (.cells #[.string q.1, .int .i64 q.2] 69))
        have HWA := Lib.hid (HB1.out.trans (HBA.out.mono hs1))
        go_wp2_with fail
        refine (getFile_any x n cap l q.2 B _ (HH.out.below HWA.out hB) (Nat.le_trans hB HWA.out.size) HZ.out).mono ?_
        rintro e w2 ⟨rfl, hb2⟩
        obtain ⟨c0, c1, f0, f1⟩ := two_at ((hb2.block wr.heap.size (by simp)).trans HNEW.out)
        have HB2 := Lib.hid (HBA.out.trans (hb2.mono HBA.out.size)); have HO2 := Lib.hid (HOA.out.below hb2)
        have hsz2 := HB2.out.size
        have HW2 := Lib.hid (HB1.out.trans (HB2.out.mono hs1))
        clear hb2
        cases hf : isFile (gotT l q.2)
        · have HST2 := Lib.hid (show (E.take (k + 1)).flatMap (entP l d a) = acc ++ underP l d q.2 (a ++ ⟨#[47]⟩ ++ q.1) by rw [HST.out, HYN.out hf])
          have hbl := underP_many (l := l) (p := q.2) (a := a ++ ⟨#[47]⟩ ++ q.1) (show d ≤ 3 by omega)
          clear HST HYF HYN hf
          go_wp2_with fail
          have hcall := ih.out q.2 (a ++ ⟨#[47]⟩ ++ q.1) B w2 hd3 hps (HH.out.below HW2.out hB) (Nat.le_trans hB HW2.out.size)
          refine hcall.mono ?_
          clear hcall
          rintro e w3 ⟨v3, rfl, ho3, hb3⟩
          obtain ⟨x3, n3, c3, rfl, hi3⟩ := ho3.lst
          have h27 : n3 ≤ 27 := by have := hi3.len; omega
          have HI3 := Lib.hid hi3; have HB3 := Lib.hid (HB2.out.trans (hb3.mono hsz2)); have HO3 := Lib.hid (HO2.out.below hb3)
          have hsz3 := HB3.out.size
          clear ho3 hb3 hi3
          go_wp2_with (at_builtin; refine wpList_appL eltStr encStr HO3.out HI3.out HACC.out (by omega) hsz3 rfl _ _ rfl rfl rfl ?_; intro v' w' hown hgrow hat; have HW := Lib.hid hown; have HGR := Lib.hid hgrow; clear hown hgrow hat)
          go_roundw
          case rel => exact ⟨k + 1, by omega, by go_num, by rw [HST2.out]; exact HW.out, HB3.out.grown HGR.out hsz3 HO3.out.at⟩
          case measure => simp [intOf]; omega
        · have HST2 := Lib.hid (show (E.take (k + 1)).flatMap (entP l d a) = acc ++ [a ++ ⟨#[47]⟩ ++ q.1] by rw [HST.out, HYF.out hf])
          clear HST HYF HYN hf
          go_wp2_with (at_builtin; refine wpList_app1L eltStr encStr (a ++ ⟨#[47]⟩ ++ q.1) _ rfl HO2.out HACC.out hsz2 rfl _ _ rfl rfl rfl ?_; intro v' w' hown hgrow; have HW := Lib.hid hown; have HGR := Lib.hid hgrow; clear hown hgrow)
          go_roundw
          case rel => exact ⟨k + 1, by omega, by go_num, by rw [HST2.out]; exact HW.out, HB2.out.grown HGR.out hsz2 HO2.out.at⟩
          case measure => simp [intOf]; omega
      · obtain rfl : k = n1 := by omega
        have HE := Lib.hid (show E.take k = E from List.take_of_length_le (by have := HLEN.out; omega))
        go_wp2_with fail
        go_ret
        exact ⟨_, rfl, by rw [HF.out]; rw [HE.out] at HO; exact HO.out.mono hs1, HB1.out.trans (HB.out.mono hs1)⟩
theorem implAllFiles_any (x : Option Addr) (n cap : Nat) (l : List Pc) (root : Int) (B : Nat) (w : World) (h : Pcs w B x n cap l) (hB : B ≤ w.heap.size) (hz : ∀ k, (nthP l k).2.size ≤ 1048576) :
    Calls Tryz.prog 28 #[.slice x n cap, .int .i64 root] w (NewS (allB l root) w) := by
  have HC := Lib.hid (filesBelow_any l x n cap hz 3 root ByteArray.empty B w (Nat.le_refl _) (by decide) h hB)
  have HF := Lib.hid (all_below l root)
  clear h hz
  go_enter Tryz.func28, Tryz.ntmps28
  go_wp2_with fail
  refine HC.out.mono ?_
  rintro e w1 ⟨v, rfl, ho, hb⟩
  have HO := Lib.hid ho; have HB := Lib.hid hb
  clear ho hb
  go_wp2_with fail
  go_ret
  exact ⟨_, rfl, by rw [HF.out]; exact HO.out, HB.out⟩
theorem lastName_any (s : ByteArray) (w : World) (hs : s.size ≤ 1048576) : Calls Tryz.prog 92 #[.string s] w fun e w' => e = .returned (.string (lastS s)) ∧ w' = w := by
  have hle : -1 ≤ Lib.lastIndexByte s 47 ∧ Lib.lastIndexByte s 47 < (s.size : Int) := by
    rcases Lib.lastIndexByte_spec s 47 with ⟨e, _⟩ | ⟨i, hi, e, _⟩
    · omega
    · omega
  obtain ⟨k, hk⟩ : ∃ k : Nat, Lib.lastIndexByte s 47 + 1 = (k : Int) := ⟨(Lib.lastIndexByte s 47 + 1).toNat, by omega⟩
  have HF := Lib.hid (show lastS s = s.extract k s.size by unfold lastS; rw [hk]; rfl)
  have HL : Calls Tryz.prog 129 #[.string s, .string ⟨#[47]⟩] w fun e w' => e = .returned (.int .i64 (Lib.lastIndexByte s 47)) ∧ w' = w := Tryz.strings_LastIndex_one s ⟨#[47]⟩ rfl (by omega) w
  obtain ⟨j, hj⟩ : ∃ j, Lib.lastIndexByte s 47 = j := ⟨_, rfl⟩
  rw [hj] at hk hle HL
  have hw : IntKind.i64.wrap (j + 1) = (k : Int) := by rw [IntKind.wrap_i64]; omega
  have hks : (k : Int) ≤ (s.size : Int) := by omega
  have hkn : k ≤ s.size := by omega
  have hk0 : (0 : Int) ≤ (k : Int) := by omega
  clear hj hk
  go_enter Tryz.func92, Tryz.ntmps92
  go_wp2_with (go_at_call 129; refine HL.mono ?_; rintro e w' ⟨rfl, rfl⟩)
  go_ret
  exact ⟨by rw [HF.out]; rfl, rfl⟩
set_option maxHeartbeats 1000000 in
set_option maxRecDepth 100000 in
theorem implFilesNamed_any (x : Option Addr) (n cap : Nat) (l : List Pc) (root : Int) (word : ByteArray) (B : Nat) (w : World) (h : Pcs w B x n cap l) (hB : B ≤ w.heap.size) (hz : ∀ k, (nthP l k).2.size ≤ 1048576) (hs : word.size ≤ 1048576) :
    Calls Tryz.prog 40 #[.slice x n cap, .int .i64 root, .string word] w (NewS (namedB l root word) w) := by
  have HH := Lib.hid h
  have HZ := Lib.hid hz
  clear h hz
  go_enter Tryz.func40, Tryz.ntmps40
  go_wp2_with fail
  refine (implAllFiles_any x n cap l root B _ HH.out hB HZ.out).mono ?_
  rintro e w1 ⟨v1, rfl, ho, hb⟩
  obtain ⟨y, m, d, rfl, hi⟩ := ho.lst
  have HB1 := Lib.hid hb; have HX := Lib.hid hi; have HLEN := Lib.hid hi.len
  have hw1 := hb.size
  have hm27 : m ≤ 27 := by have := all_many (l := l) (root := root); have := hi.len; omega
  have hle1 := hi.le
  have hmx1 := hi.max
  unfold maxLen at hmx1
  have HN := Lib.hid (OwnL.nil strG 9 1 w1 w1.heap.size)
  clear hb ho hi
  have HM := Lib.hid (all_mil (l := l) (root := root))
  have HEND := Lib.hid (show namedB l root word = ((allB l root).take m).filter (fun s => decide (lastS s = word)) by rw [named_last, List.take_of_length_le (by have := HLEN.out; omega)])
  obtain ⟨xs, hxs⟩ : ∃ xs, allB l root = xs := ⟨_, rfl⟩
  rw [hxs] at HX HLEN HM HEND
  clear hxs
  go_wp2_with fail
  go_loopw [7, 9, 14] (fun v _ i wr => ∃ k : Nat, k ≤ m ∧ i = .int .i64 k ∧ OwnS wr w1.heap.size v ((xs.take k).filter (fun s => decide (lastS s = word))) ∧ Below w1.heap.size w1 wr) (fun _ _ i _ => m - (intOf i).toNat)
  case atStart => exact ⟨0, by omega, rfl, HN.out, Below.refl _ _⟩
  case round =>
    obtain ⟨k, hk, rfl, ho, hb⟩ := hrel
    have HO := Lib.hid ho; have HB := Lib.hid hb
    have hsz := hb.size
    clear ho hb
    by_cases hlt : k < m
    · have hkl : k < xs.length := by have := HLEN.out; omega
      obtain ⟨b, off, rfl, hb, hc⟩ := (HX.out.below HB.out (Nat.le_refl _)).atS hlt
      have hzk := HM.out k
      have HY := Lib.hid (lastN_yes (word := word) hkl); have HNO := Lib.hid (lastN_no (word := word) hkl)
      have hlk : ((xs.take k).filter (fun s => decide (lastS s = word))).length ≤ 2000000 := Nat.le_trans (List.length_filter_le _ _) (by rw [List.length_take]; omega)
      obtain ⟨s, hs⟩ : ∃ s, s = nthS xs k := ⟨_, rfl⟩
      rw [← hs] at hc hzk HY HNO
      clear hs
      go_wp2_with fail
      refine (lastName_any s _ hzk).mono ?_
      rintro e w' ⟨rfl, hw'⟩
      subst w'
      cases hT : decide (lastS s = word)
      · have HE := Lib.hid (HNO.out hT)
        have hd : ((lastS s).toList == word.toList) = false := by rw [str_beq]; exact hT
        clear HY HNO hT
        go_wp2_with fail
        go_roundw
        case rel => exact ⟨k + 1, by omega, by go_num, by rw [HE.out]; exact HO.out, HB.out⟩
        case measure => simp [intOf]; omega
      · have HE := Lib.hid (HY.out hT)
        have hd : ((lastS s).toList == word.toList) = true := by rw [str_beq]; exact hT
        clear HY HNO hT
        go_wp2_with (at_builtin; refine wpList_app1L eltStr encStr s _ rfl HO.out hlk hsz rfl _ _ rfl rfl rfl ?_; intro v' w' hown hgrow; have HW := Lib.hid hown; have HGR := Lib.hid hgrow; clear hown hgrow)
        go_roundw
        case rel => exact ⟨k + 1, by omega, by go_num, by rw [HE.out]; exact HW.out, HB.out.grown HGR.out hsz HO.out.at⟩
        case measure => simp [intOf]; omega
    · obtain rfl : k = m := by omega
      go_wp2_with fail
      go_ret
      exact ⟨_, rfl, by rw [HEND.out]; exact HO.out.mono hw1, HB1.out.trans (HB.out.mono hw1)⟩
/-! ### the same files -/
end Go.Proofs.YtbbjpihlielpgaaGreatDoor
