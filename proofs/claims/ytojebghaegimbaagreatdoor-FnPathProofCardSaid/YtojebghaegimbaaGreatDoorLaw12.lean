/-
  The walks of chapter 12's laws: proofs of what is there and of what is not.
-/
import Derived.Test.YtojebghaegimbaaGreatDoorDraw16
import Derived.Test.YtojebghaegimbaaGreatDoorImpl12
import Derived.Test.YtojebghaegimbaaGreatDoorModel12b
import Derived.BigFrame
import Derived.Deep.RegionLaw
namespace Go.Proofs.YtojebghaegimbaaGreatDoor
open Go.RowKit
set_option linter.unusedVariables false
set_option maxHeartbeats 1000000 in
set_option maxRecDepth 100000 in
theorem fnPathProof_any (x : Option Addr) (n cap : Nat) (w : World) (h : Bytes w.heap.size w x n) (hn : n ≤ cap) (hc : cap ≤ maxLen) :
    Calls Tryz.prog 3 #[.slice x n cap] w fun e w' => e = .returned (.bool true) ∧ Below w.heap.size w w' := by
  by_cases hlong : 1048576 < (n : Int)
  · go_enter Tryz.func3, Tryz.ntmps3
    go_wp2
    go_ret
    exact ⟨rfl, Below.refl _ _⟩
  · have HB0 := Lib.hid h
    have HC := Lib.hid hc
    have HLE := Lib.hid hn
    clear h hc hn
    go_enter Tryz.func3, Tryz.ntmps3
    go_wp2_with fail
    refine (drawPathProof_any x n cap w HB0.out HLE.out HC.out).mono ?_
    rintro e w1 ⟨y, m, c, l, p, path, rfl, hl41, hsh, hps, hl, hb⟩
    have HB := Lib.hid hb; have HL := Lib.hid hl; have HZ := Lib.hid (short_mil hsh)
    have HTZ := Lib.hid (texts_small (l := l) (root := p) (path := path) hsh)
    clear hb hl hsh
    go_wp2_with fail
    refine (implPathProof_any y m c l p path _ _ HL.out (Nat.le_refl _) HZ.out (by omega)).mono ?_
    rintro e w2 ⟨v2, rfl, ho, hb⟩
    obtain ⟨z, q, d, rfl, hi⟩ := ho.lst
    have HB2 := Lib.hid (HB.out.trans (hb.mono HB.out.size)); have HL2 := Lib.hid ((HL.out.below hb (Nat.le_refl _)).more hb.size); have HX2 := Lib.hid hi
    clear hb ho hi
    go_wp2_with fail
    refine (specPathProof_any y m c l p path _ _ HL2.out (Nat.le_refl _) HZ.out (by omega)).mono ?_
    rintro e w3 ⟨v3, rfl, ho, hb⟩
    obtain ⟨z3, q3, d3, rfl, hi⟩ := ho.lst
    have HB3 := Lib.hid (HB2.out.trans (hb.mono HB2.out.size)); have HL3 := Lib.hid ((HL2.out.below hb (Nat.le_refl _)).more hb.size); have HX3 := Lib.hid ((HX2.out.below hb (Nat.le_refl _)).more hb.size); have HY3 := Lib.hid hi
    clear hb ho hi HL HL2 HX2
    have HLEN := Lib.hid HX3.out.len
    have HR := Lib.hid (texts_right (l := l) (root := p) (path := path)); have HTL := Lib.hid (texts_len (l := l) (root := p) (path := path))
    obtain ⟨xs, hxs⟩ : ∃ xs, ppTexts l p path = xs := ⟨_, rfl⟩
    rw [hxs] at HX3 HY3 HLEN HR HTL HTZ
    clear hxs
    go_wp2_with fail
    refine (sameTexts_any _ _ _ _ _ _ xs xs _ _ HX3.out HY3.out).mono ?_
    rintro e w4 hq
    have hb := hq.below
    obtain ⟨rfl, _⟩ := hq
    rw [decide_eq_true (rfl : xs = xs)]
    have HB4 := Lib.hid (HB3.out.trans (hb.mono HB3.out.size)); have HL4 := Lib.hid ((HL3.out.below hb (Nat.le_refl _)).more hb.size); have HX4 := Lib.hid ((HX3.out.below hb (Nat.le_refl _)).more hb.size)
    clear hb HL3 HX3 HY3
    go_wp2_with fail
    refine (implWalkTo_any y m c l p path _ _ HL4.out (Nat.le_refl _) HZ.out (by omega)).mono ?_
    rintro e w5 ⟨rfl, hb⟩
    have HB5 := Lib.hid (HB4.out.trans (hb.mono HB4.out.size)); have HX5 := Lib.hid ((HX4.out.below hb (Nat.le_refl _)).more hb.size)
    clear hb
    obtain ⟨⟨t, g⟩, hR⟩ : ∃ R, wtB l p path = R := ⟨_, rfl⟩
    rw [hR] at HR HTL ⊢
    clear hR
    cases g
    · have hq0 : q = 0 := by have h1 := HLEN.out; have h2 := HTL.out; rw [if_neg (by simp)] at h2; omega
      have hqd : decide (0 < q) = false := by simp [hq0]
      subst hq0
      go_wp2_with (first
        | (go_at_call 13; refine (alive_any _).mono ?_; rintro e w' ⟨rfl, rfl⟩))
      go_ret
      exact ⟨ret_bool (by simp), HB5.out⟩
    · have hq0 : 0 < q := by have h1 := HLEN.out; have h2 := HTL.out; rw [if_pos rfl] at h2; omega
      have hqd : decide (0 < q) = true := decide_eq_true hq0
      have HRT := Lib.hid (HR.out rfl)
      go_wp2_with (first
        | (go_at_call 12; refine (implProofRight_any p path _ _ _ xs _ _ HX5.out (Nat.le_refl _) (by omega) HTZ.out).mono ?_; rintro e w6 ⟨rfl, hb⟩; rw [HRT.out]; have HB6 := Lib.hid (HB5.out.trans (hb.mono HB5.out.size)); clear hb)
        | (go_at_call 13; refine (alive_any _).mono ?_; rintro e w' ⟨rfl, rfl⟩))
      go_ret
      exact ⟨ret_bool (by simp), HB6.out⟩
set_option maxHeartbeats 1000000 in
set_option maxRecDepth 100000 in
theorem fnProofsHold_any (x : Option Addr) (n cap : Nat) (w : World) (h : Bytes w.heap.size w x n) (hn : n ≤ cap) (hc : cap ≤ maxLen) :
    Calls Tryz.prog 5 #[.slice x n cap] w fun e w' => e = .returned (.bool true) ∧ Below w.heap.size w w' := by
  by_cases hlong : 1048576 < (n : Int)
  · go_enter Tryz.func5, Tryz.ntmps5
    go_wp2
    go_ret
    exact ⟨rfl, Below.refl _ _⟩
  · have HB0 := Lib.hid h
    have HC := Lib.hid hc
    have HLE := Lib.hid hn
    clear h hc hn
    go_enter Tryz.func5, Tryz.ntmps5
    go_wp2_with fail
    refine (drawPathProof_any x n cap w HB0.out HLE.out HC.out).mono ?_
    rintro e w1 ⟨y, m, c, l, p, path, rfl, hl41, hsh, hps, hl, hb⟩
    have HB := Lib.hid hb; have HL := Lib.hid hl; have HZ := Lib.hid (short_mil hsh)
    have HTZ := Lib.hid (texts_small (l := l) (root := p) (path := path) hsh)
    clear hb hl hsh
    go_wp2_with fail
    refine (implPathProof_any y m c l p path _ _ HL.out (Nat.le_refl _) HZ.out (by omega)).mono ?_
    rintro e w2 ⟨v2, rfl, ho, hb⟩
    obtain ⟨z, q, d, rfl, hi⟩ := ho.lst
    have HB2 := Lib.hid (HB.out.trans (hb.mono HB.out.size)); have HL2 := Lib.hid ((HL.out.below hb (Nat.le_refl _)).more hb.size); have HX2 := Lib.hid hi
    clear hb ho hi
    have HCR := Lib.hid (cont_reads l p path)
    obtain ⟨xs, hxs⟩ : ∃ xs, ppTexts l p path = xs := ⟨_, rfl⟩
    rw [hxs] at HX2 HTZ HCR
    clear hxs
    go_wp2_with fail
    refine (implProofContent_any p path _ _ _ xs _ _ HX2.out (Nat.le_refl _) (by omega) HTZ.out).mono ?_
    rintro e w3 ⟨rfl, hb⟩
    rw [HCR.out]
    have HB3 := Lib.hid (HB2.out.trans (hb.mono HB2.out.size)); have HL3 := Lib.hid ((HL2.out.below hb (Nat.le_refl _)).more hb.size)
    clear hb
    obtain ⟨⟨t, g⟩, hR⟩ : ∃ R, rdB l p path = R := ⟨_, rfl⟩
    have HRR := Lib.hid hR
    rw [hR]
    clear hR
    go_wp2_with fail
    refine (implReadAt_any y m c l p path _ _ HL3.out (Nat.le_refl _) HZ.out (by omega)).mono ?_
    rintro e w4 ⟨rfl, hb⟩
    rw [HRR.out]
    have HB4 := Lib.hid (HB3.out.trans (hb.mono HB3.out.size))
    clear hb
    cases g
    all_goals
      go_wp2_with (first
        | (go_at_call 13; refine (alive_any _).mono ?_; rintro e w' ⟨rfl, rfl⟩))
      go_ret
      exact ⟨ret_bool (by simp), HB4.out⟩
set_option maxHeartbeats 1000000 in
set_option maxRecDepth 100000 in
theorem fnAbsenceProof_any (x : Option Addr) (n cap : Nat) (w : World) (h : Bytes w.heap.size w x n) (hn : n ≤ cap) (hc : cap ≤ maxLen) :
    Calls Tryz.prog 6 #[.slice x n cap] w fun e w' => e = .returned (.bool true) ∧ Below w.heap.size w w' := by
  by_cases hlong : 1048576 < (n : Int)
  · go_enter Tryz.func6, Tryz.ntmps6
    go_wp2
    go_ret
    exact ⟨rfl, Below.refl _ _⟩
  · have HB0 := Lib.hid h
    have HC := Lib.hid hc
    have HLE := Lib.hid hn
    clear h hc hn
    go_enter Tryz.func6, Tryz.ntmps6
    go_wp2_with fail
    refine (drawAbsenceProof_any x n cap w HB0.out HLE.out HC.out).mono ?_
    rintro e w1 ⟨y, m, c, l, p, path, rfl, hl41, hsh, hps, hl, hb⟩
    have HB := Lib.hid hb; have HL := Lib.hid hl; have HZ := Lib.hid (short_mil hsh)
    have HTZ := Lib.hid (gone_small (l := l) (root := p) (path := path) hsh)
    clear hb hl hsh
    go_wp2_with fail
    refine (implAbsenceProof_any y m c l p path _ _ HL.out (Nat.le_refl _) HZ.out (by omega)).mono ?_
    rintro e w2 ⟨v2, rfl, ho, hb⟩
    obtain ⟨z, q, d, rfl, hi⟩ := ho.lst
    have HB2 := Lib.hid (HB.out.trans (hb.mono HB.out.size)); have HL2 := Lib.hid ((HL.out.below hb (Nat.le_refl _)).more hb.size); have HX2 := Lib.hid hi
    clear hb ho hi
    go_wp2_with fail
    refine (specAbsenceProof_any y m c l p path _ _ HL2.out (Nat.le_refl _) HZ.out (by omega)).mono ?_
    rintro e w3 ⟨v3, rfl, ho, hb⟩
    obtain ⟨z3, q3, d3, rfl, hi⟩ := ho.lst
    have HB3 := Lib.hid (HB2.out.trans (hb.mono HB2.out.size)); have HL3 := Lib.hid ((HL2.out.below hb (Nat.le_refl _)).more hb.size); have HX3 := Lib.hid ((HX2.out.below hb (Nat.le_refl _)).more hb.size); have HY3 := Lib.hid hi
    clear hb ho hi HL HL2 HX2
    have HLEN := Lib.hid HX3.out.len
    have HR := Lib.hid (absence_right (l := l) (root := p) (path := path))
    obtain ⟨xs, hxs⟩ : ∃ xs, ppGone l p path = xs := ⟨_, rfl⟩
    rw [hxs] at HX3 HY3 HLEN HR HTZ
    clear hxs
    go_wp2_with fail
    refine (sameTexts_any _ _ _ _ _ _ xs xs _ _ HX3.out HY3.out).mono ?_
    rintro e w4 hq
    have hb := hq.below
    obtain ⟨rfl, _⟩ := hq
    rw [decide_eq_true (rfl : xs = xs)]
    have HB4 := Lib.hid (HB3.out.trans (hb.mono HB3.out.size)); have HL4 := Lib.hid ((HL3.out.below hb (Nat.le_refl _)).more hb.size); have HX4 := Lib.hid ((HX3.out.below hb (Nat.le_refl _)).more hb.size)
    clear hb HL3 HX3 HY3
    go_wp2_with fail
    refine (implWalkTo_any y m c l p path _ _ HL4.out (Nat.le_refl _) HZ.out (by omega)).mono ?_
    rintro e w5 ⟨rfl, hb⟩
    have HB5 := Lib.hid (HB4.out.trans (hb.mono HB4.out.size)); have HX5 := Lib.hid ((HX4.out.below hb (Nat.le_refl _)).more hb.size)
    clear hb
    obtain ⟨⟨t, g⟩, hR⟩ : ∃ R, wtB l p path = R := ⟨_, rfl⟩
    rw [hR] at HR ⊢
    clear hR
    by_cases hq0 : q = 0
    · have hqd : ((q : Int) == 0) = true := by simp [hq0]
      subst hq0
      go_wp2_with (first
        | (go_at_call 13; refine (alive_any _).mono ?_; rintro e w' ⟨rfl, rfl⟩))
      go_ret
      exact ⟨ret_bool (by simp), HB5.out⟩
    · have hqd : ((q : Int) == 0) = false := by simp; omega
      obtain ⟨hg, HRT⟩ := HR.out.resolve_left (fun e => hq0 (by have := HLEN.out; rw [e] at this; simp at this; omega))
      have hg : g = false := hg
      subst hg
      have HRT := Lib.hid HRT
      clear hq0
      go_wp2_with (first
        | (go_at_call 22; refine (implAbsenceRight_any p path _ _ _ xs _ _ HX5.out (Nat.le_refl _) (by omega) HTZ.out).mono ?_; rintro e w6 ⟨rfl, hb⟩; rw [HRT.out]; have HB6 := Lib.hid (HB5.out.trans (hb.mono HB5.out.size)); clear hb)
        | (go_at_call 13; refine (alive_any _).mono ?_; rintro e w' ⟨rfl, rfl⟩))
      go_ret
      exact ⟨ret_bool (by simp), HB6.out⟩
set_option maxHeartbeats 1000000 in
set_option maxRecDepth 100000 in
theorem fnProofContent_any (x : Option Addr) (n cap : Nat) (w : World) (h : Bytes w.heap.size w x n) (hn : n ≤ cap) (hc : cap ≤ maxLen) :
    Calls Tryz.prog 4 #[.slice x n cap] w fun e w' => e = .returned (.bool true) ∧ Below w.heap.size w w' := by
  by_cases hlong : 1048576 < (n : Int)
  · go_enter Tryz.func4, Tryz.ntmps4
    go_wp2
    go_ret
    exact ⟨rfl, Below.refl _ _⟩
  · have HB0 := Lib.hid h
    have HC := Lib.hid hc
    have HLE := Lib.hid hn
    clear h hc hn
    go_enter Tryz.func4, Tryz.ntmps4
    go_wp2_with fail
    refine (drawProofContent_any x n cap w HB0.out HLE.out HC.out).mono ?_
    rintro e w1 ⟨p, path, y, m, c, L, rfl, hl10, hz, hps, hl, hb⟩
    have HB := Lib.hid hb; have HL := Lib.hid hl; have HZ := Lib.hid (fun k => Nat.le_trans (hz k) (show 61 ≤ 1048576 by decide))
    have HCF := Lib.hid (cont_facts (root := p) (path := path) (L := L)); have HRF := Lib.hid (fun h => (right_facts (root := p) (path := path) (L := L) h).2.2.2.2.2.2)
    have HCS := Lib.hid (cont_small (root := p) (path := path) hz)
    have HLEN := Lib.hid hl.len
    clear hb hl hz
    go_wp2_with fail
    refine (implProofContent_any p path _ _ _ L _ _ HL.out (Nat.le_refl _) (by omega) HZ.out).mono ?_
    rintro e w2 ⟨rfl, hb⟩
    have HB2 := Lib.hid (HB.out.trans (hb.mono HB.out.size)); have HL2 := Lib.hid ((HL.out.below hb (Nat.le_refl _)).more hb.size)
    clear hb
    obtain ⟨⟨t, g⟩, hR⟩ : ∃ R, ppCont p path L = R := ⟨_, rfl⟩
    have HRR := Lib.hid hR
    rw [hR] at HCF HCS ⊢
    clear hR
    go_wp2_with fail
    refine (specProofContent_any p path _ _ _ L _ _ HL2.out (Nat.le_refl _) (by omega) HZ.out).mono ?_
    rintro e w3 ⟨rfl, hb⟩
    rw [HRR.out]
    have HB3 := Lib.hid (HB2.out.trans (hb.mono HB2.out.size)); have HL3 := Lib.hid ((HL2.out.below hb (Nat.le_refl _)).more hb.size)
    clear hb
    cases g
    · have ht : t = ByteArray.empty := HCF.out.2 rfl
      subst ht
      go_wp2_with (first
        | (go_at_call 13; refine (alive_any _).mono ?_; rintro e w' ⟨rfl, rfl⟩))
      go_ret
      exact ⟨ret_bool (by simp), HB3.out⟩
    · obtain ⟨h1, h2⟩ := HCF.out.1 rfl
      have hm0 : 0 < m := by have h3 := HRF.out h1; have h4 := HLEN.out; omega
      have hm10 : m ≤ 10 := by have := HLEN.out; omega
      obtain ⟨i, hi⟩ : ∃ i, m = i + 1 := ⟨m - 1, by omega⟩
      have h2 : nthS L i = fileB t := by rw [← h2, HLEN.out, hi]; rfl
      have hw9 : IntKind.i64.wrap ((m : Int) - 1) = (i : Int) := by rw [IntKind.wrap_i64]; omega
      have him : (i : Int) < (m : Int) := by omega
      have him2 : i < m := by omega
      have hi0 : (0 : Int) ≤ (i : Int) := by omega
      have hts : t.size ≤ 1048576 := HCS.out
      have HRT := Lib.hid h1; have H2 := Lib.hid h2
      have HLA := Lib.hid (show ∀ W, Below w3.heap.size w3 W → Strs W w3.heap.size y m c L from fun W hb => HL3.out.below hb (Nat.le_refl _))
      obtain ⟨b, o, rfl, hbb, hcc⟩ := HL3.out.atS him2
      clear h1 h2 hi hm0 hcc
      have HCX := Lib.hid (show ∀ W, Below w3.heap.size w3 W → W.cell? ⟨b, o + i, none⟩ = some (.string (fileB t)) from fun W hb => by
        obtain ⟨b', o', e1, _, hcc⟩ := (HLA.out W hb).atS him2
        simp only [Option.some.injEq, Addr.mk.injEq, and_true] at e1
        obtain ⟨rfl, rfl⟩ := e1
        rw [H2.out] at hcc; exact hcc)
      go_upto_region 10 with fail
      go_region_law (first
        | (go_simp; go_at_call 12; refine (implProofRight_any p path _ _ _ L w3.heap.size _ ?_ ?_ (by omega) HZ.out).mono ?_; (focus (first | exact HL3.out | exact HL3.out.drewN 1 | exact HL3.out.drewN 2)); (focus exact Nat.le_refl _); rintro e w4 ⟨rfl, hb⟩; rw [HRT.out]; have hb' : Below w3.heap.size w3 w4 := (by first | exact hb | exact ⟨hb.os, hb.tape, hb.output, hb.size, hb.block⟩); have hcc := HCX.out w4 hb'; have HBW := Lib.hid hb'; have hs4 := hb'.size; have HB4 := Lib.hid (HB3.out.trans (hb'.mono HB3.out.size)); clear hb hb')
        | (go_simp; go_at_call 17; refine (implFileText_any t _ hts).mono ?_; rintro e w5 ⟨rfl, hb⟩; have hb' : Below w4.heap.size w4 w5 := (by first | exact hb | exact ⟨hb.os, hb.tape, hb.output, hb.size, hb.block⟩); have hc5 := HCX.out w5 (HBW.out.trans (hb'.mono hs4)); have HB5 := Lib.hid (HB4.out.trans (hb'.mono HB4.out.size)); clear hb hb'))
      all_goals
        go_wp2_with fail
        go_ret
        first
          | exact ⟨ret_bool (by simp), HB5.out⟩
          | exact ⟨ret_bool (by simp), ⟨HB5.out.os, HB5.out.tape, HB5.out.output, HB5.out.size, HB5.out.block⟩⟩
end Go.Proofs.YtojebghaegimbaaGreatDoor
