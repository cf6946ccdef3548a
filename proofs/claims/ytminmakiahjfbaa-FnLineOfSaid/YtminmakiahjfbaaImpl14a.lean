/-
  Chapter 14's program: copies of versions, valid ones, added ones, lines, the nearest one, tips.
-/
import Derived.Test.YtminmakiahjfbaaModel14b
import Derived.Test.YtminmakiahjfbaaFold
namespace Go.Proofs.Ytminmakiahjfbaa
open Go.RowKit
set_option linter.unusedVariables false
/-! ### valid versions -/
set_option maxHeartbeats 1000000 in
theorem implVersionsValid_any (x : Option Addr) (n cap : Nat) (l : List Ver) (B : Nat) (w : World) (h : Vers w B x n cap l) (hB : B ≤ w.heap.size) (hz : ∀ k, (nthV l k).2.2.size ≤ maxLen) :
    Calls Try.prog 14 #[.slice x n cap] w (BelowB (versB l) w) := by
  have HL := Lib.hid h.len
  have HH := Lib.hid h
  have HZ := Lib.hid hz
  have hmx := h.max
  have hle := h.le
  clear h hz
  unfold maxLen at hmx
  by_cases hbig : 12 < n
  · have HF := Lib.hid (show versB l = false by unfold versB; rw [decide_eq_false (by have := HL.out; omega), Bool.and_false])
    go_enter Try.func14, Try.ntmps14
    go_wp2
    go_ret
    exact ⟨ret_bool HF.out.symm, Below.refl _ _⟩
  go_enter Try.func14, Try.ntmps14
  go_wp2
  go_loopw [3, 4, 10] (fun _ _ i wr => ∃ k : Nat, k ≤ n ∧ i = .int .i64 k ∧ (∀ j, j < k → okV l j = true) ∧ Below w.heap.size w wr) (fun _ _ i _ => n - (intOf i).toNat)
  case atStart => exact ⟨0, by omega, rfl, fun j hj => by omega, Below.refl _ _⟩
  case round =>
    obtain ⟨k, hk, rfl, ha, hb⟩ := hrel
    have HA := Lib.hid ha; have HB := Lib.hid hb; clear ha hb
    have hsz := HB.out.size
    by_cases hlt : k < n
    · have hkl : k < l.length := by have := HL.out; omega
      obtain ⟨b0, off, rfl, hb0, hc0, hc1, hc2⟩ := (HH.out.below HB.out hB).atV hlt
      have hzk := HZ.out k
      have HBW := Lib.hid (HB.out.alloc hsz (.cells #[.int .i64 (nthV l k).1, .int .i64 (nthV l k).2.1, .string (nthV l k).2.2] 27))
      obtain ⟨p0, p1, p2⟩ := three_at (heap_alloc_new wr (.cells #[.int .i64 (nthV l k).1, .int .i64 (nthV l k).2.1, .string (nthV l k).2.2] 27))
      have HBAD := Lib.hid (versB_bad hkl)
      obtain ⟨⟨vr, vb, vn⟩, hq⟩ : ∃ q, q = nthV l k := ⟨_, rfl⟩
      have HOK := Lib.hid (show okV l k = (isPr vr && (in3 vb (-1) ((k : Int) - 1) && wordB vn)) by unfold okV; rw [← hq]; rfl)
      simp only [← hq] at hc0 hc1 hc2 hzk HBW p0 p1 p2
      clear hq
      cases h1 : isPr vr
      · have HF := Lib.hid (HBAD.out (by rw [HOK.out, h1]; rfl))
        have H1 := Lib.hid h1
        clear h1
        go_wp2_with (go_at_call 44; refine (isPrint_any _ _).mono ?_; rintro e w2 ⟨rfl, hw⟩; subst hw; rw [H1.out])
        go_ret
        exact ⟨ret_bool HF.out.symm, HBW.out⟩
      by_cases h2 : vb < -1
      · have HF := Lib.hid (HBAD.out (by rw [HOK.out, h1, in3_lo (by omega)]; rfl))
        have H1 := Lib.hid h1
        clear h1
        go_wp2_with (go_at_call 44; refine (isPrint_any _ _).mono ?_; rintro e w2 ⟨rfl, hw⟩; subst hw; rw [H1.out])
        go_ret
        exact ⟨ret_bool HF.out.symm, HBW.out⟩
      by_cases h3 : (k : Int) ≤ vb
      · have HF := Lib.hid (HBAD.out (by rw [HOK.out, h1, in3_hi (by omega)]; rfl))
        have H1 := Lib.hid h1
        clear h1
        go_wp2_with (go_at_call 44; refine (isPrint_any _ _).mono ?_; rintro e w2 ⟨rfl, hw⟩; subst hw; rw [H1.out])
        go_ret
        exact ⟨ret_bool HF.out.symm, HBW.out⟩
      cases h4 : wordB vn
      · have HF := Lib.hid (HBAD.out (by rw [HOK.out, h4, Bool.and_false, Bool.and_false]))
        have H1 := Lib.hid h1; have H4 := Lib.hid h4
        clear h1 h4
        go_wp2_with (first | (go_at_call 44; refine (isPrint_any _ _).mono ?_; rintro e w2 ⟨rfl, hw⟩; subst hw; rw [H1.out]) | (go_at_call 45; refine (wordValid_any _ _ hzk).mono ?_; rintro e w2 ⟨rfl, hw⟩; subst hw; rw [H4.out]))
        go_ret
        exact ⟨ret_bool HF.out.symm, HBW.out⟩
      · have HR := Lib.hid (show okV l k = true by rw [HOK.out, h1, h4, in3_yes (by omega) (by omega)]; rfl)
        have H1 := Lib.hid h1; have H4 := Lib.hid h4
        clear h1 h4
        go_wp2_with (first | (go_at_call 44; refine (isPrint_any _ _).mono ?_; rintro e w2 ⟨rfl, hw⟩; subst hw; rw [H1.out]) | (go_at_call 45; refine (wordValid_any _ _ hzk).mono ?_; rintro e w2 ⟨rfl, hw⟩; subst hw; rw [H4.out]))
        go_roundw
        case rel => exact ⟨k + 1, by omega, by go_num, fun j hj => by rcases Nat.lt_succ_iff_lt_or_eq.1 hj with h | rfl; exact HA.out j h; exact HR.out, HBW.out⟩
        case measure => simp [intOf]; omega
    · have HF := Lib.hid (versB_end (l := l) (fun j hj => HA.out j (by have := HL.out; omega)))
      go_wp2
      go_ret
      exact ⟨ret_bool (by rw [HF.out, HL.out]; simp; omega), HB.out⟩
end Go.Proofs.Ytminmakiahjfbaa
