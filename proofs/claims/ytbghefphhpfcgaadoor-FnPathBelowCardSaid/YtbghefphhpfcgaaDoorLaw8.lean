/-
  The walks of chapter 8's laws: paths.
-/
import Derived.Test.YtbghefphhpfcgaaDoorDraw13
import Derived.Test.YtbghefphhpfcgaaDoorPaths8
import Derived.Test.YtbghefphhpfcgaaDoorImpl7
import Derived.Test.YtbghefphhpfcgaaDoorImpl8
namespace Go.Proofs.YtbghefphhpfcgaaDoor
open Go.RowKit
set_option linter.unusedVariables false
theorem partFacts : ∀ s ∈ paths1 ++ paths2, s.size ≤ 60 ∧ (isPath s = true → pathB (partsB s) = s ∧ isPath (s ++ ⟨#[47]⟩) = false) ∧ (isPath s = false → partsB s = []) := by decide +kernel
theorem belowFacts : ∀ s ∈ paths1 ++ paths2, belowP s s = isPath s ∧ belowP s ⟨#[47]⟩ = isPath s := by decide +kernel
theorem belowBoth : ∀ s ∈ paths1 ++ paths2, ∀ t ∈ paths1 ++ paths2, belowP s t = true → belowP t s = true → s = t := by decide +kernel
theorem fnJoinPath_any (x : Option Addr) (n cap : Nat) (w : World) (h : Bytes w.heap.size w x n) (hn : n ≤ cap) (hc : cap ≤ maxLen) :
    Calls Tryd.prog 3 #[.slice x n cap] w fun e w' => e = .returned (.bool true) ∧ Below w.heap.size w w' := by
  by_cases hlong : 1048576 < (n : Int)
  · go_enter Tryd.func3, Tryd.ntmps3
    go_wp2
    go_ret
    exact ⟨rfl, Below.refl _ _⟩
  · have HB0 := Lib.hid h
    have HC := Lib.hid hc
    have HLE := Lib.hid hn
    clear h hc hn
    go_enter Tryd.func3, Tryd.ntmps3
    go_wp2_with fail
    refine (drawJoinPath_any x n cap w HB0.out HLE.out HC.out).mono ?_
    rintro e w1 ⟨y, m, c, l, rfl, hl4, hz, hi, hb⟩
    have HB := Lib.hid hb; have HI := Lib.hid hi; clear hb hi
    have HZ := Lib.hid (show ∀ k, (nthS l k).size ≤ maxLen from fun k => by
      by_cases hk : k < l.length
      · have := hz _ (nthS_mem' hk); unfold maxLen; omega
      · unfold nthS; rw [List.getD_eq_getElem?_getD, List.getElem?_eq_none (by omega)]; simp)
    have hps := path_size l hz hl4
    have HJ := Lib.hid (join_parts (l := l))
    clear hz
    go_wp2_with fail
    refine (implJoinPath_any _ _ _ l _ _ HI.out (Nat.le_refl _) HZ.out).mono ?_
    rintro e w2 ⟨rfl, hb⟩
    have HB2 := Lib.hid (HB.out.trans (hb.mono HB.out.size)); have HI2 := Lib.hid ((HI.out.below hb (Nat.le_refl _)).more hb.size); clear hb
    go_wp2_with fail
    refine (specJoinPath_any _ _ _ l _ _ HI2.out HZ.out).mono ?_
    rintro e w' ⟨rfl, hw⟩
    subst w'
    obtain ⟨s, hs⟩ : ∃ s, pathB l = s := ⟨_, rfl⟩
    rw [hs] at hps HJ ⊢
    clear hs
    by_cases h0 : s = ByteArray.empty
    · subst h0
      clear HJ hps
      go_wp2_with (first
        | (go_at_call 11; refine (alive_any _).mono ?_; rintro e w' ⟨rfl, rfl⟩))
      go_ret
      exact ⟨rfl, HB2.out⟩
    · obtain ⟨h1, h2⟩ := HJ.out h0
      have H1 := Lib.hid h1; have H2 := Lib.hid h2
      have hd : s.toList.isEmpty = false := by
        rw [ByteArray.toList_eq, List.isEmpty_eq_false_iff]
        intro e; exact h0 (by cases s with | mk d => show ByteArray.mk d = ⟨#[]⟩; congr 1; exact Array.toList_inj.1 e)
      clear HJ h1 h2 h0
      go_wp2_with fail
      refine (implPathParts_any s _ (by omega)).mono ?_
      rintro e w3 ⟨v3, rfl, ho, hb⟩
      rw [H1.out] at ho
      rw [H2.out]
      obtain ⟨x3, n3, c3, rfl, hx⟩ := ho.lst
      have HB3 := Lib.hid (HB2.out.trans (hb.mono HB2.out.size)); have HI3 := Lib.hid ((HI2.out.below hb (Nat.le_refl _)).more hb.size); have HX := Lib.hid hx
      clear hb ho hx
      go_wp2_with (first
        | (go_at_call 13; refine (sameTexts_any _ _ _ _ _ _ l l _ _ HX.out HI3.out).mono ?_; rintro e w4 hq; have hb := hq.below; obtain ⟨rfl, _⟩ := hq; rw [decide_eq_true (show l = l from rfl)]; have HB4 := Lib.hid (HB3.out.trans (hb.mono HB3.out.size)); clear hb))
      go_ret
      exact ⟨rfl, HB4.out⟩
theorem fnPathParts_any (x : Option Addr) (n cap : Nat) (w : World) (h : Bytes w.heap.size w x n) (hn : n ≤ cap) (hc : cap ≤ maxLen) :
    Calls Tryd.prog 4 #[.slice x n cap] w fun e w' => e = .returned (.bool true) ∧ Below w.heap.size w w' := by
  by_cases hlong : 1048576 < (n : Int)
  · go_enter Tryd.func4, Tryd.ntmps4
    go_wp2
    go_ret
    exact ⟨rfl, Below.refl _ _⟩
  · have HB0 := Lib.hid h
    have HC := Lib.hid hc
    have HLE := Lib.hid hn
    clear h hc hn
    go_enter Tryd.func4, Tryd.ntmps4
    go_wp2_with fail
    refine (drawPathParts_any x n cap w HB0.out HLE.out HC.out).mono ?_
    rintro e w1 ⟨s, rfl, hs, hb⟩
    have HB := Lib.hid hb; clear hb
    obtain ⟨f0, f1, f2⟩ := partFacts s hs
    have HF1 := Lib.hid f1; have HF2 := Lib.hid f2
    have HZ := Lib.hid (show ∀ k, (nthS (partsB s) k).size ≤ maxLen from fun k => Nat.le_trans (parts_small.2 k) (by unfold maxLen; omega))
    clear hs f1 f2
    go_wp2_with fail
    refine (implPathParts_any s _ (by omega)).mono ?_
    rintro e w2 ⟨v2, rfl, ho, hb⟩
    obtain ⟨x2, n2, c2, rfl, hx⟩ := ho.lst
    have HB2 := Lib.hid (HB.out.trans (hb.mono HB.out.size)); have HX2 := Lib.hid hx
    clear hb ho hx
    go_wp2_with fail
    refine (specPathParts_any s _ (by omega)).mono ?_
    rintro e w3 ⟨v3, rfl, ho, hb⟩
    obtain ⟨x3, n3, c3, rfl, hx⟩ := ho.lst
    have HB3 := Lib.hid (HB2.out.trans (hb.mono HB2.out.size)); have HX3 := Lib.hid ((HX2.out.below hb (Nat.le_refl _)).more hb.size); have HY3 := Lib.hid hx
    clear hb ho hx
    obtain ⟨L, hL⟩ : ∃ L, partsB s = L := ⟨_, rfl⟩
    rw [hL] at HX3 HY3 HF1 HF2 HZ
    clear hL HX2
    go_wp2_with fail
    refine (sameTexts_any _ _ _ _ _ _ L L _ _ HX3.out HY3.out).mono ?_
    rintro e w4 hq
    have hb := hq.below
    obtain ⟨rfl, _⟩ := hq
    rw [decide_eq_true (show L = L from rfl)]
    have HB4 := Lib.hid (HB3.out.trans (hb.mono HB3.out.size)); have HX4 := Lib.hid ((HX3.out.below hb (Nat.le_refl _)).more hb.size)
    clear hb HX3 HY3
    cases hv : isPath s
    · have he := HF2.out hv
      subst he
      have HLEN := Lib.hid HX4.out.len
      obtain rfl : n2 = 0 := by have := HLEN.out; simp at this; omega
      clear hv HF1 HF2 HZ HLEN
      go_wp2_with (first
        | (go_at_call 11; refine (alive_any _).mono ?_; rintro e w' ⟨rfl, rfl⟩))
      go_ret
      exact ⟨rfl, HB4.out⟩
    · obtain ⟨h1, h2⟩ := HF1.out hv
      have H1 := Lib.hid h1; have H2 := Lib.hid h2
      clear hv HF1 HF2 h1 h2
      go_wp2_with fail
      refine (implPathParts_any _ _ (by rw [ByteArray.size_append]; show s.size + 1 ≤ _; omega)).mono ?_
      rintro e w5 ⟨v5, rfl, ho, hb⟩
      rw [H2.out]
      obtain ⟨x5, n5, c5, rfl, _⟩ := ho.lst
      have HB5 := Lib.hid (HB4.out.trans (hb.mono HB4.out.size)); have HX5 := Lib.hid ((HX4.out.below hb (Nat.le_refl _)).more hb.size)
      clear hb ho HX4
      go_wp2_with fail
      refine (implJoinPath_any _ _ _ L _ _ HX5.out (Nat.le_refl _) HZ.out).mono ?_
      rintro e w6 ⟨rfl, hb⟩
      rw [H1.out]
      have HB6 := Lib.hid (HB5.out.trans (hb.mono HB5.out.size))
      clear hb
      go_wp2_with fail
      go_ret
      exact ⟨ret_bool (by simp), HB6.out⟩
set_option maxHeartbeats 2000000 in
set_option maxRecDepth 100000 in
theorem fnPathBelow_any (x : Option Addr) (n cap : Nat) (w : World) (h : Bytes w.heap.size w x n) (hn : n ≤ cap) (hc : cap ≤ maxLen) :
    Calls Tryd.prog 5 #[.slice x n cap] w fun e w' => e = .returned (.bool true) ∧ Below w.heap.size w w' := by
  by_cases hlong : 1048576 < (n : Int)
  · go_enter Tryd.func5, Tryd.ntmps5
    go_wp2
    go_ret
    exact ⟨rfl, Below.refl _ _⟩
  · have HB0 := Lib.hid h
    have HC := Lib.hid hc
    have HLE := Lib.hid hn
    clear h hc hn
    go_enter Tryd.func5, Tryd.ntmps5
    go_wp2_with fail
    refine (drawPathBelow_any x n cap w HB0.out HLE.out HC.out).mono ?_
    rintro e w1 ⟨s, t, rfl, hs, ht, hb⟩
    have HB := Lib.hid hb; clear hb
    obtain ⟨f0, _⟩ := partFacts s hs
    obtain ⟨g0, _⟩ := partFacts t ht
    obtain ⟨f1, f2⟩ := belowFacts s hs
    have HF1 := Lib.hid f1; have HF2 := Lib.hid f2; have HBO := Lib.hid (belowBoth s hs t ht)
    clear hs ht f1 f2
    go_wp2_with fail
    refine (implPathBelow_any s t _ (by omega) (by omega)).mono ?_
    rintro e w2 ⟨rfl, hb⟩
    have HB2 := Lib.hid (HB.out.trans (hb.mono HB.out.size)); clear hb
    go_wp2_with fail
    refine (specPathBelow_any s t _ (by omega) (by omega)).mono ?_
    rintro e w3 ⟨rfl, hb⟩
    have HB3 := Lib.hid (HB2.out.trans (hb.mono HB2.out.size)); clear hb
    obtain ⟨D, hD⟩ : ∃ D, belowP s t = D := ⟨_, rfl⟩
    rw [hD] at HBO ⊢
    clear hD
    go_wp2_with fail
    refine (implPathParts_any s _ (by omega)).mono ?_
    rintro e w4 ⟨v4, rfl, ho, hb⟩
    obtain ⟨x4, n4, c4, rfl, _⟩ := ho.lst
    have HB4 := Lib.hid (HB3.out.trans (hb.mono HB3.out.size))
    clear hb ho
    obtain ⟨V, hV⟩ : ∃ V, isPath s = V := ⟨_, rfl⟩
    rw [hV] at HF1 HF2 ⊢
    clear hV
    go_wp2_with fail
    refine (implPathBelow_any s s _ (by omega) (by omega)).mono ?_
    rintro e w5 ⟨rfl, hb⟩
    rw [HF1.out]
    have HB5 := Lib.hid (HB4.out.trans (hb.mono HB4.out.size)); clear hb
    have hroot : (ByteArray.mk #[47]).size ≤ 1048576 := by decide
    cases D
    · go_wp2_with (first
        | (go_at_call 17; ((with_reducible refine (implPathBelow_any s ⟨#[47]⟩ _ (by omega) hroot).mono ?_); rintro e w6 ⟨rfl, hb⟩); rw [HF2.out]; have HB6 := Lib.hid (HB5.out.trans (hb.mono HB5.out.size)); clear hb)
        | (go_at_call 11; refine (alive_any _).mono ?_; rintro e w' ⟨rfl, rfl⟩))
      go_ret
      exact ⟨rfl, HB6.out⟩
    · cases hE : belowP t s
      · have HE := Lib.hid hE
        clear hE
        go_wp2_with (first
          | (go_at_call 17; ((with_reducible refine (implPathBelow_any s ⟨#[47]⟩ _ (by omega) hroot).mono ?_); rintro e w6 ⟨rfl, hb⟩); rw [HF2.out]; have HB6 := Lib.hid (HB5.out.trans (hb.mono HB5.out.size)); clear hb)
          | (go_at_call 17; ((with_reducible refine (implPathBelow_any t s _ (by omega) (by omega)).mono ?_); rintro e w7 ⟨rfl, hb⟩); rw [HE.out]; have HB7 := Lib.hid (HB6.out.trans (hb.mono HB6.out.size)); clear hb)
          | (go_at_call 11; refine (alive_any _).mono ?_; rintro e w' ⟨rfl, rfl⟩))
        go_ret
        exact ⟨rfl, HB7.out⟩
      · have heq := HBO.out rfl hE
        subst heq
        have HE := Lib.hid hE
        clear hE
        go_wp2_with (first
          | (go_at_call 17; ((with_reducible refine (implPathBelow_any s ⟨#[47]⟩ _ (by omega) hroot).mono ?_); rintro e w6 ⟨rfl, hb⟩); rw [HF2.out]; have HB6 := Lib.hid (HB5.out.trans (hb.mono HB5.out.size)); clear hb)
          | (go_at_call 17; ((with_reducible refine (implPathBelow_any s s _ (by omega) (by omega)).mono ?_); rintro e w7 ⟨rfl, hb⟩); rw [HE.out]; have HB7 := Lib.hid (HB6.out.trans (hb.mono HB6.out.size)); clear hb)
          | (go_at_call 11; refine (alive_any _).mono ?_; rintro e w' ⟨rfl, rfl⟩))
        go_ret
        exact ⟨rfl, HB7.out⟩
end Go.Proofs.YtbghefphhpfcgaaDoor
