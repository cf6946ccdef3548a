/-
  The walks of chapter 1's laws over drawn texts.
-/
import Derived.Test.YtjbkponhnoljlaaDraw1
namespace Go.Proofs.Ytjbkponhnoljlaa
open Go.RowKit
set_option linter.unusedVariables false
theorem wordFacts : ∀ s ∈ words1 ++ words2, s.size ≤ 60 ∧ (s ++ ⟨#[32]⟩).size ≤ 61 ∧ (s.extract 0 1).size ≤ 60 ∧ wordB (s ++ ⟨#[32]⟩) = false ∧ (wordB s = true → 1 ≤ s.size ∧ wordB (s.extract 0 1) = true) := by decide +kernel
theorem short {s : ByteArray} (h : s.size ≤ 1000000) : s.size ≤ maxLen := by unfold maxLen; omega
theorem fnWordValid_any (x : Option Addr) (n cap : Nat) (w : World) (h : Bytes w.heap.size w x n) (hn : n ≤ cap) (hc : cap ≤ maxLen) :
    Calls Try.prog 3 #[.slice x n cap] w fun e w' => e = .returned (.bool true) ∧ Below w.heap.size w w' := by
  by_cases hlong : 1048576 < (n : Int)
  · go_enter Try.func3, Try.ntmps3
    go_wp2
    go_ret
    exact ⟨rfl, Below.refl _ _⟩
  · have HB0 := Lib.hid h
    have HC := Lib.hid hc
    have HL := Lib.hid hn
    clear h hc hn
    go_enter Try.func3, Try.ntmps3
    go_wp2_with (go_at_call 11; refine (drawWordValid_any x n cap w HB0.out HL.out HC.out).mono ?_; rintro e w1 ⟨s, rfl, hs, hb⟩; have HS := Lib.hid hs; have HB := Lib.hid hb; clear hs hb)
    obtain ⟨f0, g1, g2, f2, f3⟩ := wordFacts s HS.out
    have m1 : s.size ≤ maxLen := short (by omega)
    have m2 : (s ++ ⟨#[32]⟩).size ≤ maxLen := short (by omega)
    have m3 : (s.extract 0 1).size ≤ maxLen := short (by omega)
    clear g1 g2
    cases hok : wordB s
    · clear f3
      go_wp2_with (first
        | (go_at_call 14; refine (alive_any _).mono ?_; rintro e w' ⟨rfl, rfl⟩)
        | (go_at_call 12; refine (wordValid_any _ _ (by assumption)).mono ?_; rintro e w' ⟨rfl, rfl⟩)
        | (go_at_call 13; refine (specWordValid_any _ _ (by assumption)).mono ?_; rintro e w' ⟨rfl, rfl⟩))
      go_ret
      exact ⟨rfl, HB.out⟩
    · obtain ⟨f4, f5⟩ := f3 hok
      clear f3
      go_wp2_with (first
        | (go_at_call 14; refine (alive_any _).mono ?_; rintro e w' ⟨rfl, rfl⟩)
        | (go_at_call 12; refine (wordValid_any _ _ (by assumption)).mono ?_; rintro e w' ⟨rfl, rfl⟩)
        | (go_at_call 13; refine (specWordValid_any _ _ (by assumption)).mono ?_; rintro e w' ⟨rfl, rfl⟩))
      go_ret
      exact ⟨rfl, HB.out⟩
theorem fnHexText_any (x : Option Addr) (n cap : Nat) (w : World) (h : Bytes w.heap.size w x n) (hn : n ≤ cap) (hc : cap ≤ maxLen) :
    Calls Try.prog 5 #[.slice x n cap] w fun e w' => e = .returned (.bool true) ∧ Below w.heap.size w w' := by
  by_cases hlong : 1048576 < (n : Int)
  · go_enter Try.func5, Try.ntmps5
    go_wp2
    go_ret
    exact ⟨rfl, Below.refl _ _⟩
  · have HB0 := Lib.hid h
    have HC := Lib.hid hc
    have HL := Lib.hid hn
    clear h hc hn
    go_enter Try.func5, Try.ntmps5
    go_wp2_with (go_at_call 18; refine (drawHexText_any x n cap w HB0.out HL.out HC.out).mono ?_; rintro e w1 ⟨v, rfl, hv0, hv1, hb⟩; have HB := Lib.hid hb; clear hb)
    by_cases hr : 0 ≤ v ∧ v ≤ 16777212
    · obtain ⟨hr0, hr1⟩ := hr
      have hs := hexB_size v
      have hm : (hexB v).size ≤ maxLen := short (by omega)
      have he := isEmpty_no (hexB_pos hr0 hr1)
      have hrd := readB_hexB hr0 hr1
      go_wp2_with (first
        | (go_at_call 19; refine (hexText_any _ _).mono ?_; rintro e w' ⟨rfl, rfl⟩)
        | (go_at_call 20; refine (specHexText_any _ _).mono ?_; rintro e w' ⟨rfl, rfl⟩)
        | (go_at_call 21; refine (readHex_any _ _ (by assumption)).mono ?_; rintro e w' ⟨rfl, rfl⟩))
      go_ret
      exact ⟨ret_bool (by simp; omega), HB.out⟩
    · have he : hexB v = ByteArray.empty := hexB_no (by omega)
      have hr2 : v < 0 ∨ 16777212 < v := by omega
      clear hr
      rcases hr2 with hr2 | hr2
      · go_wp2_with (first
          | (go_at_call 19; refine (hexText_any _ _).mono ?_; rintro e w' ⟨rfl, rfl⟩)
          | (go_at_call 20; refine (specHexText_any _ _).mono ?_; rintro e w' ⟨rfl, rfl⟩)
          | (go_at_call 14; refine (alive_any _).mono ?_; rintro e w' ⟨rfl, rfl⟩))
        go_ret
        exact ⟨rfl, HB.out⟩
      · go_wp2_with (first
          | (go_at_call 19; refine (hexText_any _ _).mono ?_; rintro e w' ⟨rfl, rfl⟩)
          | (go_at_call 20; refine (specHexText_any _ _).mono ?_; rintro e w' ⟨rfl, rfl⟩)
          | (go_at_call 14; refine (alive_any _).mono ?_; rintro e w' ⟨rfl, rfl⟩))
        go_ret
        exact ⟨rfl, HB.out⟩
theorem fnReadHex_any (x : Option Addr) (n cap : Nat) (w : World) (h : Bytes w.heap.size w x n) (hn : n ≤ cap) (hc : cap ≤ maxLen) :
    Calls Try.prog 6 #[.slice x n cap] w fun e w' => e = .returned (.bool true) ∧ Below w.heap.size w w' := by
  by_cases hlong : 1048576 < (n : Int)
  · go_enter Try.func6, Try.ntmps6
    go_wp2
    go_ret
    exact ⟨rfl, Below.refl _ _⟩
  · have HB0 := Lib.hid h
    have HC := Lib.hid hc
    have HL := Lib.hid hn
    clear h hc hn
    go_enter Try.func6, Try.ntmps6
    go_wp2_with (go_at_call 22; refine (drawReadHex_any x n cap w HB0.out HL.out HC.out).mono ?_; rintro e w1 ⟨s, rfl, hs, hb⟩; have HB := Lib.hid hb; clear hb)
    have hm : s.size ≤ maxLen := short (by omega)
    have h1 : (ByteArray.mk #[48]).size = 1 := rfl
    have hm2 : (⟨#[48]⟩ ++ s : ByteArray).size ≤ maxLen := short (by rw [ByteArray.size_append]; omega)
    clear h1
    by_cases hr : readB s = -1
    · go_wp2_with (first
        | (go_at_call 21; refine (readHex_any _ _ (by assumption)).mono ?_; rintro e w' ⟨rfl, rfl⟩)
        | (go_at_call 23; refine (specReadHex_any _ _ (by assumption)).mono ?_; rintro e w' ⟨rfl, rfl⟩)
        | (go_at_call 14; refine (alive_any _).mono ?_; rintro e w' ⟨rfl, rfl⟩))
      go_ret
      exact ⟨rfl, HB.out⟩
    · obtain ⟨g0, g1, g2⟩ := readB_some hr
      have g3 := readB_zero s hr
      clear hr
      go_wp2_with (first
        | (go_at_call 21; refine (readHex_any _ _ (by assumption)).mono ?_; rintro e w' ⟨rfl, rfl⟩)
        | (go_at_call 23; refine (specReadHex_any _ _ (by assumption)).mono ?_; rintro e w' ⟨rfl, rfl⟩)
        | (go_at_call 19; refine (hexText_any _ _).mono ?_; rintro e w' ⟨rfl, rfl⟩))
      go_ret
      exact ⟨rfl, HB.out⟩
end Go.Proofs.Ytjbkponhnoljlaa
