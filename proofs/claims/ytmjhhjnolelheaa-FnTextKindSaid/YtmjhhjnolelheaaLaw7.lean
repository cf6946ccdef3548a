/-
  The walks of chapter 7's laws: contents, files, kinds.
-/
import Derived.Test.YtmjhhjnolelheaaDraw13
import Derived.Test.YtmjhhjnolelheaaImpl7
namespace Go.Proofs.Ytmjhhjnolelheaa
open Go.RowKit
set_option linter.unusedVariables false
theorem contFacts : ∀ s ∈ texts1 ++ texts2, s.size ≤ 61 ∧ (s.extract 0 (s.size / 2)).size ≤ 61 ∧ (contentB s = true → textB s = true ∧ contentB (s.extract 0 (s.size / 2)) = true) := by decide +kernel
theorem fileFacts : ∀ s ∈ texts1 ++ texts2, s.size ≤ 61 ∧ (fileB s).size ≤ 62 ∧ (contentB s = true → isFile (fileB s) = true ∧ fileT (fileB s) = s ∧ textB (fileB s) = true) := by decide +kernel
theorem readFacts : ∀ p ∈ pres, ∀ t ∈ texts1 ++ texts2, (p ++ t).size ≤ 62 ∧ (fileT (p ++ t)).size ≤ 62 ∧ (isFile (p ++ t) = true → fileB (fileT (p ++ t)) = p ++ t ∧ contentB (fileT (p ++ t)) = true) := by decide +kernel
theorem not_both (s : ByteArray) (h : isFile s = true) : isFold s = false := by
  cases hf : isFold s
  · rfl
  · obtain ⟨r, hr, _⟩ := fold_pE hf
    unfold isFile at h
    rw [hr] at h
    cases h
theorem fnContentValid_any (x : Option Addr) (n cap : Nat) (w : World) (h : Bytes w.heap.size w x n) (hn : n ≤ cap) (hc : cap ≤ maxLen) :
    Calls Try.prog 3 #[.slice x n cap] w fun e w' => e = .returned (.bool true) ∧ Below w.heap.size w w' := by
  by_cases hlong : 1048576 < (n : Int)
  · go_enter Try.func3, Try.ntmps3
    go_wp2
    go_ret
    exact ⟨rfl, Below.refl _ _⟩
  · have HB0 := Lib.hid h
    have HC := Lib.hid hc
    have HLE := Lib.hid hn
    clear h hc hn
    go_enter Try.func3, Try.ntmps3
    go_wp2_with fail
    refine (drawContentValid_any x n cap w HB0.out HLE.out HC.out).mono ?_
    rintro e w1 ⟨s, rfl, hs, hb⟩
    have HB := Lib.hid hb; clear hb
    obtain ⟨f0, f1, f2⟩ := contFacts s hs
    have m1 : s.size ≤ maxLen := by unfold maxLen; omega
    have m2 : (s.extract 0 (s.size / 2)).size ≤ maxLen := by unfold maxLen; omega
    have HF := Lib.hid f2
    clear hs f1 f2
    go_wp2_with fail
    refine (implContentValid_any s _ m1).mono ?_
    rintro e w2 ⟨rfl, hb⟩
    have HB2 := Lib.hid (HB.out.trans (hb.mono HB.out.size)); clear hb
    go_wp2_with fail
    refine (specContentValid_any s _ m1).mono ?_
    rintro e w' ⟨rfl, hw⟩
    subst w'
    cases hv : contentB s
    · clear HF hv
      go_wp2_with (first
        | (go_at_call 15; refine (alive_any _).mono ?_; rintro e w' ⟨rfl, rfl⟩))
      go_ret
      exact ⟨rfl, HB2.out⟩
    · obtain ⟨h1, h2⟩ := HF.out hv
      have H1 := Lib.hid h1; have H2 := Lib.hid h2
      clear HF hv h1 h2
      go_wp2_with (first
        | (go_at_call 15; refine (alive_any _).mono ?_; rintro e w' ⟨rfl, rfl⟩)
        | (go_at_call 14; refine (textValid_any _ _ m1).mono ?_; rintro e w' ⟨rfl, rfl⟩; rw [H1.out])
        | (go_at_call 12; refine (implContentValid_any _ _ m2).mono ?_; rintro e w3 ⟨rfl, hb⟩; rw [H2.out]; have HB3 := Lib.hid (HB2.out.trans (hb.mono HB2.out.size)); clear hb))
      go_ret
      exact ⟨rfl, HB3.out⟩
theorem fnFileText_any (x : Option Addr) (n cap : Nat) (w : World) (h : Bytes w.heap.size w x n) (hn : n ≤ cap) (hc : cap ≤ maxLen) :
    Calls Try.prog 4 #[.slice x n cap] w fun e w' => e = .returned (.bool true) ∧ Below w.heap.size w w' := by
  by_cases hlong : 1048576 < (n : Int)
  · go_enter Try.func4, Try.ntmps4
    go_wp2
    go_ret
    exact ⟨rfl, Below.refl _ _⟩
  · have HB0 := Lib.hid h
    have HC := Lib.hid hc
    have HLE := Lib.hid hn
    clear h hc hn
    go_enter Try.func4, Try.ntmps4
    go_wp2_with fail
    refine (drawFileText_any x n cap w HB0.out HLE.out HC.out).mono ?_
    rintro e w1 ⟨s, rfl, hs, hb⟩
    have HB := Lib.hid hb; clear hb
    obtain ⟨f0, f1, f2⟩ := fileFacts s hs
    have HN := Lib.hid (fileB_no (s := s)); have HF := Lib.hid f2
    clear hs f2
    go_wp2_with fail
    refine (implFileText_any s _ (by omega)).mono ?_
    rintro e w2 ⟨rfl, hb⟩
    have HB2 := Lib.hid (HB.out.trans (hb.mono HB.out.size)); clear hb
    go_wp2_with fail
    refine (specFileText_any s _ (by omega)).mono ?_
    rintro e w' ⟨rfl, hw⟩
    subst w'
    obtain ⟨f, hf⟩ : ∃ f, fileB s = f := ⟨_, rfl⟩
    rw [hf] at f1 HN HF ⊢
    clear hf
    go_wp2_with fail
    refine (specContentValid_any s _ (by unfold maxLen; omega)).mono ?_
    rintro e w' ⟨rfl, hw⟩
    subst w'
    cases hv : contentB s
    · have he := HN.out hv
      subst he
      clear hv HN HF f1
      go_wp2_with (first
        | (go_at_call 15; refine (alive_any _).mono ?_; rintro e w' ⟨rfl, rfl⟩))
      go_ret
      exact ⟨rfl, HB2.out⟩
    · obtain ⟨h1, h2, h3⟩ := HF.out hv
      have H1 := Lib.hid h1; have H2 := Lib.hid h2; have H3 := Lib.hid h3
      clear HF HN hv h1 h2 h3
      go_wp2_with fail
      refine (implReadFile_any f _ (by omega)).mono ?_
      rintro e w3 ⟨rfl, hb⟩
      rw [H1.out, H2.out]
      have HB3 := Lib.hid (HB2.out.trans (hb.mono HB2.out.size)); clear hb
      go_wp2_with (first
        | (go_at_call 14; refine (textValid_any _ _ (by unfold maxLen; omega)).mono ?_; rintro e w' ⟨rfl, rfl⟩; rw [H3.out]))
      go_ret
      exact ⟨rfl, HB3.out⟩
theorem fnReadFile_any (x : Option Addr) (n cap : Nat) (w : World) (h : Bytes w.heap.size w x n) (hn : n ≤ cap) (hc : cap ≤ maxLen) :
    Calls Try.prog 5 #[.slice x n cap] w fun e w' => e = .returned (.bool true) ∧ Below w.heap.size w w' := by
  by_cases hlong : 1048576 < (n : Int)
  · go_enter Try.func5, Try.ntmps5
    go_wp2
    go_ret
    exact ⟨rfl, Below.refl _ _⟩
  · have HB0 := Lib.hid h
    have HC := Lib.hid hc
    have HLE := Lib.hid hn
    clear h hc hn
    go_enter Try.func5, Try.ntmps5
    go_wp2_with fail
    refine (drawReadFile_any x n cap w HB0.out HLE.out HC.out).mono ?_
    rintro e w1 ⟨p, hp, t, ht, rfl, hb⟩
    have HB := Lib.hid hb; clear hb
    obtain ⟨f0, f1, f2⟩ := readFacts p hp t ht
    clear hp ht
    obtain ⟨s, hs⟩ : ∃ s, p ++ t = s := ⟨_, rfl⟩
    rw [hs] at f0 f1 f2 ⊢
    clear hs
    have HN := Lib.hid (fileT_no (s := s)); have HF := Lib.hid f2
    clear f2
    go_wp2_with fail
    refine (implReadFile_any s _ (by omega)).mono ?_
    rintro e w2 ⟨rfl, hb⟩
    have HB2 := Lib.hid (HB.out.trans (hb.mono HB.out.size)); clear hb
    go_wp2_with fail
    refine (specReadFile_any s _ (by unfold maxLen; omega)).mono ?_
    rintro e w' ⟨rfl, hw⟩
    subst w'
    obtain ⟨f, hf⟩ : ∃ f, fileT s = f := ⟨_, rfl⟩
    rw [hf] at f1 HN HF ⊢
    clear hf
    cases hv : isFile s
    · have he := HN.out hv
      subst he
      clear hv HN HF f1
      go_wp2_with (first
        | (go_at_call 15; refine (alive_any _).mono ?_; rintro e w' ⟨rfl, rfl⟩))
      go_ret
      exact ⟨rfl, HB2.out⟩
    · obtain ⟨h1, h2⟩ := HF.out hv
      have H1 := Lib.hid h1; have H2 := Lib.hid h2
      clear HF HN hv h1 h2
      go_wp2_with fail
      refine (implFileText_any f _ (by omega)).mono ?_
      rintro e w3 ⟨rfl, hb⟩
      rw [H1.out]
      have HB3 := Lib.hid (HB2.out.trans (hb.mono HB2.out.size)); clear hb
      go_wp2_with (first
        | (go_at_call 12; refine (implContentValid_any f _ (by unfold maxLen; omega)).mono ?_; rintro e w4 ⟨rfl, hb⟩; rw [H2.out]; have HB4 := Lib.hid (HB3.out.trans (hb.mono HB3.out.size)); clear hb))
      go_ret
      exact ⟨rfl, HB4.out⟩
theorem fnTextKind_any (x : Option Addr) (n cap : Nat) (w : World) (h : Bytes w.heap.size w x n) (hn : n ≤ cap) (hc : cap ≤ maxLen) :
    Calls Try.prog 6 #[.slice x n cap] w fun e w' => e = .returned (.bool true) ∧ Below w.heap.size w w' := by
  by_cases hlong : 1048576 < (n : Int)
  · go_enter Try.func6, Try.ntmps6
    go_wp2
    go_ret
    exact ⟨rfl, Below.refl _ _⟩
  · have HB0 := Lib.hid h
    have HC := Lib.hid hc
    have HLE := Lib.hid hn
    clear h hc hn
    go_enter Try.func6, Try.ntmps6
    go_wp2_with fail
    refine (drawTextKind_any x n cap w HB0.out HLE.out HC.out).mono ?_
    rintro e w1 ⟨s, rfl, hsz, hb⟩
    have HB := Lib.hid hb; clear hb
    have hk : (isFile s = true ∧ isFold s = false ∧ kindB s = 1) ∨ (isFile s = false ∧ isFold s = true ∧ kindB s = 2) ∨ (isFile s = false ∧ isFold s = false ∧ kindB s = 0) := by
      cases h1 : isFile s
      · cases h2 : isFold s
        · exact .inr (.inr ⟨rfl, rfl, by unfold kindB; rw [h1, h2]; rfl⟩)
        · exact .inr (.inl ⟨rfl, rfl, by unfold kindB; rw [h1, h2]; rfl⟩)
      · exact .inl ⟨rfl, not_both s h1, by unfold kindB; rw [h1]; rfl⟩
    have HK := Lib.hid hk
    clear hk
    go_wp2_with fail
    refine (implTextKind_any s _ (by omega)).mono ?_
    rintro e w2 ⟨rfl, hb⟩
    have HB2 := Lib.hid (HB.out.trans (hb.mono HB.out.size)); clear hb
    go_wp2_with fail
    refine (specTextKind_any s _ (by omega)).mono ?_
    rintro e w3 ⟨rfl, hb⟩
    have HB3 := Lib.hid (HB2.out.trans (hb.mono HB2.out.size)); clear hb
    go_wp2_with fail
    refine (implReadFile_any s _ (by omega)).mono ?_
    rintro e w4 ⟨rfl, hb⟩
    have HB4 := Lib.hid (HB3.out.trans (hb.mono HB3.out.size)); clear hb
    go_wp2_with fail
    refine (implReadFolder_any s _ (by omega)).mono ?_
    rintro e w5 ⟨v5, rfl, ho, hb⟩
    obtain ⟨x5, n5, c5, rfl, _⟩ := ho.lst
    have HB5 := Lib.hid (HB4.out.trans (hb.mono HB4.out.size)); clear hb ho
    obtain ⟨k, hk⟩ : ∃ k, kindB s = k := ⟨_, rfl⟩
    rw [hk] at HK ⊢
    rcases HK.out with ⟨h1, h2, h3⟩ | ⟨h1, h2, h3⟩ | ⟨h1, h2, h3⟩
    all_goals
      rw [h1, h2]
      subst h3
      clear HK h1 h2 hk
      go_wp2_with (first
        | (go_at_call 15; refine (alive_any _).mono ?_; rintro e w' ⟨rfl, rfl⟩))
      go_ret
      exact ⟨rfl, HB5.out⟩
end Go.Proofs.Ytmjhhjnolelheaa
