/-
  Contracts of chapter 3: chunks.
-/
import Derived.Test.YtefcmpbjfcpdeaaPlain3
import Derived.Test.YtefcmpbjfcpdeaaLst
import Derived.Test.YtefcmpbjfcpdeaaHelp
import Derived.Test.YtefcmpbjfcpdeaaPrints
namespace Go.Proofs.Ytefcmpbjfcpdeaa
open Go.RowKit
set_option linter.unusedVariables false
/-- The last byte of a chunk tells whether it is whole. -/
def wholeB (t : ByteArray) (h : t.size - 1 < t.size) : Bool := whole t[t.size - 1] t.size
theorem wholeB_eq (t : ByteArray) (h : t.size - 1 < t.size) : wholeB t h = whole t[t.size - 1] t.size := rfl
theorem isWhole_any (t : ByteArray) (w : World) (h : t.size - 1 < t.size) (hs : t.size ≤ maxLen) : Calls Try.prog 38 #[.string t] w fun e w' => e = .returned (.bool (wholeB t h)) ∧ w = w' := by
  unfold maxLen at hs
  by_cases h6 : (t.size : Int) = 6
  · have HF := Lib.hid (show wholeB t h = true by unfold wholeB whole; simp only [decide_eq_true_eq]; exact .inl (by omega))
    go_enter Try.func38, Try.ntmps38
    go_wp2
    go_ret
    exact ⟨ret_bool HF.out.symm, rfl⟩
  · by_cases h2 : 2 ≤ (t.size : Int)
    · by_cases h4 : ((t[t.size - 1]).toNat : Int) % 4 = 0
      · have HF := Lib.hid (show wholeB t h = true by unfold wholeB; exact whole_four (by omega) h4)
        go_enter Try.func38, Try.ntmps38
        go_wp2
        go_ret
        exact ⟨ret_bool HF.out.symm, rfl⟩
      · have HF := Lib.hid (show wholeB t h = false by unfold wholeB; exact whole_no2 (by omega) h4)
        go_enter Try.func38, Try.ntmps38
        go_wp2
        go_ret
        exact ⟨ret_bool (by rw [HF.out]; simp; omega), rfl⟩
    · have HF := Lib.hid (show wholeB t h = false by unfold wholeB; exact whole_no1 (by omega))
      go_enter Try.func38, Try.ntmps38
      go_wp2
      go_ret
      exact ⟨ret_bool (by rw [HF.out]; simp; omega), rfl⟩
/-- A part of a text that ends behind its byte k. -/
theorem whole_part (s : ByteArray) (b k : Nat) (hb : b ≤ k) (hk : k < s.size) (h : (s.extract b (k + 1)).size - 1 < (s.extract b (k + 1)).size) : wholeB (s.extract b (k + 1)) h = whole s[k] (k - b + 1) := by
  have hz : (s.extract b (k + 1)).size = k - b + 1 := by rw [ByteArray.size_extract]; omega
  unfold wholeB
  rw [ByteArray.getElem_extract]
  congr 1
  congr 1
  omega
theorem part_size (s : ByteArray) (b k : Nat) (hb : b ≤ k) (hk : k < s.size) : (s.extract b (k + 1)).size = k - b + 1 := by rw [ByteArray.size_extract]; omega
theorem chunkEnds_any (s : ByteArray) (w : World) (hs : s.size ≤ maxLen) : Calls Try.prog 12 #[.string s] w (NewI (endsB s) w) := by
  have hs' := hs
  unfold maxLen at hs'
  cases ht : textB s
  · have HF := Lib.hid (endsB_no ht)
    go_enter Try.func12, Try.ntmps12
    go_wp2_with (go_at_call 20; refine (textValid_any _ _ hs).mono ?_; rintro e w' ⟨rfl, rfl⟩)
    go_ret
    exact ⟨_, rfl, by rw [HF.out]; exact OwnI.nil _ _, Below.refl _ _⟩
  · have HF := Lib.hid (endsB_yes ht)
    have h60 := textB_bd' ht
    go_enter Try.func12, Try.ntmps12
    go_wp2_with (go_at_call 20; refine (textValid_any _ _ hs).mono ?_; rintro e w' ⟨rfl, rfl⟩)
    go_loopw [3, 4, 5] (fun v b i wr => ∃ (q k : Nat) (out : List Int), q ≤ k ∧ k ≤ s.size ∧ b = .int .i64 q ∧ i = .int .i64 (k + 1 : Nat) ∧ EndsRel s (k - q) k out ∧ OwnI wr w.heap.size v out ∧ Below w.heap.size w wr) (fun _ _ i _ => s.size + 1 - (intOf i).toNat)
    case atStart => exact ⟨0, 0, [], by omega, by omega, rfl, rfl, endsRel_start s, OwnI.nil _ _, Below.refl _ _⟩
    case round =>
      obtain ⟨q, k, out, hq, hk, rfl, rfl, he, ho, hb⟩ := hrel
      have HE := Lib.hid he; have HO := Lib.hid ho; have HB := Lib.hid hb; clear he ho hb
      have hbd := endsRel_bd HE.out
      obtain ⟨_, _, hbd⟩ := hbd
      have hsz := HB.out.size
      by_cases hlt : k < s.size
      · have hps := part_size s q k hq hlt
        have HW := Lib.hid (whole_part s q k hq hlt (by omega))
        have hp1 : (s.extract q (k + 1)).size - 1 < (s.extract q (k + 1)).size := by omega
        have hp2 : (s.extract q (k + 1)).size ≤ maxLen := by unfold maxLen; omega
        have HP := Lib.hid (isWhole_any (s.extract q (k + 1)) wr hp1 hp2)
        rw [whole_part s q k hq hlt hp1] at HP
        clear hp1 hp2 hps HW
        cases hw : whole s[k] (k - q + 1)
        · rw [hw] at HP
          by_cases hl : k + 1 = s.size
          · have HR := Lib.hid (endsRel_cut HE.out hlt (.inr hl))
            have hl' : ((k : Int) + 1 == (s.size : Int)) = true := by simp; omega
            clear hl
            go_wp2_with (first
              | (go_at_call 38; refine HP.out.mono ?_; rintro e w' ⟨rfl, rfl⟩)
              | (at_builtin; refine wpList_app1I ((k : Int) + 1) HO.out (by omega) hsz rfl _ _ rfl rfl rfl ?_; intro v' w' hown hgrow; have HW := Lib.hid hown; have HG := Lib.hid hgrow; clear hown hgrow))
            go_roundw
            case rel => exact ⟨k + 1, k + 1, _, by omega, by omega, by go_num, by go_num, by rw [Nat.sub_self]; exact HR.out, HW.out, HB.out.grown HG.out hsz HO.out.at⟩
            case measure => simp [intOf]; omega
          · have HR := Lib.hid (endsRel_on HE.out hlt hw hl)
            have hl' : ((k : Int) + 1 == (s.size : Int)) = false := by simp; omega
            clear hl
            go_wp2_with (first
              | (go_at_call 38; refine HP.out.mono ?_; rintro e w' ⟨rfl, rfl⟩))
            go_roundw
            case rel => exact ⟨q, k + 1, _, by omega, by omega, rfl, by go_num, by rw [show k + 1 - q = k - q + 1 by omega]; exact HR.out, HO.out, HB.out⟩
            case measure => simp [intOf]; omega
        · rw [hw] at HP
          have HR := Lib.hid (endsRel_cut HE.out hlt (.inl hw))
          go_wp2_with (first
            | (go_at_call 38; refine HP.out.mono ?_; rintro e w' ⟨rfl, rfl⟩)
            | (at_builtin; refine wpList_app1I ((k : Int) + 1) HO.out (by omega) hsz rfl _ _ rfl rfl rfl ?_; intro v' w' hown hgrow; have HW := Lib.hid hown; have HG := Lib.hid hgrow; clear hown hgrow))
          go_roundw
          case rel => exact ⟨k + 1, k + 1, _, by omega, by omega, by go_num, by go_num, by rw [Nat.sub_self]; exact HR.out, HW.out, HB.out.grown HG.out hsz HO.out.at⟩
          case measure => simp [intOf]; omega
      · have HX := Lib.hid (endsRel_end HE.out hlt)
        go_wp2
        go_ret
        exact ⟨_, rfl, by rw [HF.out, ← HX.out]; exact HO.out, HB.out⟩
theorem specChunkEnds_any (s : ByteArray) (w : World) (hs : s.size ≤ maxLen) : Calls Try.prog 14 #[.string s] w (NewI (endsB s) w) := by
  have hs' := hs
  unfold maxLen at hs'
  have HO0 := Lib.hid (own_newI w)
  have HB0 := Lib.hid ((Below.refl w.heap.size w).alloc (Nat.le_refl _) (.cells #[] 3))
  cases ht : textB s
  · have HF := Lib.hid (endsB_no ht)
    have hpos : 0 < s.size := by
      rcases Nat.eq_zero_or_pos s.size with h | h
      · have h0 : s.data.toList = [] := List.length_eq_zero_iff.1 (by rw [len_eq]; exact h)
        have : textB s = true := by unfold textB; rw [h0]; rfl
        rw [this] at ht; cases ht
      · exact h
    go_enter Try.func14, Try.ntmps14
    go_wp2
    go_loopw [3, 4, 5] (fun v m i wr => m = .int .i64 0 ∧ i = .int .i64 0 ∧ OwnI wr w.heap.size v [] ∧ Below w.heap.size w wr) (fun _ _ i _ => s.size - (intOf i).toNat)
    case atStart => exact ⟨rfl, rfl, HO0.out, HB0.out⟩
    case round =>
      obtain ⟨rfl, rfl, ho, hb⟩ := hrel
      have HO := Lib.hid ho; have HB := Lib.hid hb; clear ho hb
      go_wp2_with (go_at_call 39; refine (specTextValid_any _ _ hs).mono ?_; rintro e w' ⟨rfl, rfl⟩)
      go_ret
      exact ⟨_, rfl, by rw [HF.out]; exact HO.out, HB.out⟩
  · have HF := Lib.hid (endsB_yes ht)
    have h60 := textB_bd' ht
    go_enter Try.func14, Try.ntmps14
    go_wp2
    go_loopw [3, 4, 5] (fun v b i wr => ∃ (k m : Nat) (out : List Int), k ≤ s.size ∧ i = .int .i64 k ∧ b = .int .i64 m ∧ EndsRel s m k out ∧ OwnI wr w.heap.size v out ∧ Below w.heap.size w wr) (fun _ _ i _ => s.size - (intOf i).toNat)
    case atStart => exact ⟨0, 0, [], by omega, rfl, rfl, endsRel_start s, HO0.out, HB0.out⟩
    case round =>
      obtain ⟨k, m, out, hk, rfl, rfl, he, ho, hb⟩ := hrel
      have HE := Lib.hid he; have HO := Lib.hid ho; have HB := Lib.hid hb; clear he ho hb
      have hbd := endsRel_bd HE.out
      obtain ⟨hbd1, hbd2, hbd3⟩ := hbd
      have hsz := HB.out.size
      by_cases hlt : k < s.size
      · by_cases hm : m = 5
        · have HR := Lib.hid (endsRel_cut HE.out hlt (.inl (by rw [hm]; exact whole_six _)))
          subst hm
          go_wp2_with (first
            | (go_at_call 39; refine (specTextValid_any _ _ hs).mono ?_; rintro e w' ⟨rfl, rfl⟩)
            | (at_builtin; refine wpList_app1I ((k : Int) + 1) HO.out (by omega) hsz rfl _ _ rfl rfl rfl ?_; intro v' w' hown hgrow; have HW := Lib.hid hown; have HG := Lib.hid hgrow; clear hown hgrow))
          go_roundw
          case rel => exact ⟨k + 1, 0, _, by omega, by go_num, rfl, HR.out, HW.out, HB.out.grown HG.out hsz HO.out.at⟩
          case measure => simp [intOf]; omega
        · have hm6 : ((m : Int) + 1 == 6) = false := by simp; omega
          by_cases hm1 : m = 0
          · have hw := whole_no1 (c := s[k]) (m := m + 1) (by omega)
            by_cases hl : k + 1 = s.size
            · have HR := Lib.hid (endsRel_cut HE.out hlt (.inr hl))
              have hl' : ((k : Int) + 1 == (s.size : Int)) = true := by simp; omega
              clear hl
              subst hm1
              go_wp2_with (first
                | (go_at_call 39; refine (specTextValid_any _ _ hs).mono ?_; rintro e w' ⟨rfl, rfl⟩)
                | (at_builtin; refine wpList_app1I ((k : Int) + 1) HO.out (by omega) hsz rfl _ _ rfl rfl rfl ?_; intro v' w' hown hgrow; have HW := Lib.hid hown; have HG := Lib.hid hgrow; clear hown hgrow))
              go_roundw
              case rel => exact ⟨k + 1, 0, _, by omega, by go_num, rfl, HR.out, HW.out, HB.out.grown HG.out hsz HO.out.at⟩
              case measure => simp [intOf]; omega
            · have HR := Lib.hid (endsRel_on HE.out hlt hw hl)
              have hl' : ((k : Int) + 1 == (s.size : Int)) = false := by simp; omega
              clear hl
              subst hm1
              go_wp2_with (go_at_call 39; refine (specTextValid_any _ _ hs).mono ?_; rintro e w' ⟨rfl, rfl⟩)
              go_roundw
              case rel => exact ⟨k + 1, 1, _, by omega, by go_num, by go_num, HR.out, HO.out, HB.out⟩
              case measure => simp [intOf]; omega
          · by_cases h4 : ((s[k]).toNat : Int) % 4 = 0
            · have HR := Lib.hid (endsRel_cut HE.out hlt (.inl (whole_four (by omega) h4)))
              have h4' : (((s[k]).toNat : Int) % 4 == 0) = true := by simp; omega
              clear h4
              go_wp2_with (first
                | (go_at_call 39; refine (specTextValid_any _ _ hs).mono ?_; rintro e w' ⟨rfl, rfl⟩)
                | (at_builtin; refine wpList_app1I ((k : Int) + 1) HO.out (by omega) hsz rfl _ _ rfl rfl rfl ?_; intro v' w' hown hgrow; have HW := Lib.hid hown; have HG := Lib.hid hgrow; clear hown hgrow))
              go_roundw
              case rel => exact ⟨k + 1, 0, _, by omega, by go_num, rfl, HR.out, HW.out, HB.out.grown HG.out hsz HO.out.at⟩
              case measure => simp [intOf]; omega
            · have hw := whole_no2 (c := s[k]) (m := m + 1) (by omega) h4
              have h4' : (((s[k]).toNat : Int) % 4 == 0) = false := by simp; omega
              clear h4
              by_cases hl : k + 1 = s.size
              · have HR := Lib.hid (endsRel_cut HE.out hlt (.inr hl))
                have hl' : ((k : Int) + 1 == (s.size : Int)) = true := by simp; omega
                clear hl hw
                go_wp2_with (first
                  | (go_at_call 39; refine (specTextValid_any _ _ hs).mono ?_; rintro e w' ⟨rfl, rfl⟩)
                  | (at_builtin; refine wpList_app1I ((k : Int) + 1) HO.out (by omega) hsz rfl _ _ rfl rfl rfl ?_; intro v' w' hown hgrow; have HW := Lib.hid hown; have HG := Lib.hid hgrow; clear hown hgrow))
                go_roundw
                case rel => exact ⟨k + 1, 0, _, by omega, by go_num, rfl, HR.out, HW.out, HB.out.grown HG.out hsz HO.out.at⟩
                case measure => simp [intOf]; omega
              · have HR := Lib.hid (endsRel_on HE.out hlt hw hl)
                have hl' : ((k : Int) + 1 == (s.size : Int)) = false := by simp; omega
                clear hl hw
                go_wp2_with (go_at_call 39; refine (specTextValid_any _ _ hs).mono ?_; rintro e w' ⟨rfl, rfl⟩)
                go_roundw
                case rel => exact ⟨k + 1, m + 1, _, by omega, by go_num, by go_num, HR.out, HO.out, HB.out⟩
                case measure => simp [intOf]; omega
      · have HX := Lib.hid (endsRel_end HE.out hlt)
        go_wp2
        go_ret
        exact ⟨_, rfl, by rw [HF.out, ← HX.out]; exact HO.out, HB.out⟩
end Go.Proofs.Ytefcmpbjfcpdeaa
