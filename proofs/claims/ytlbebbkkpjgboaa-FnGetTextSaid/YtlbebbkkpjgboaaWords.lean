/-
  Contracts of chapter 1.
-/
import Derived.Test.YtlbebbkkpjgboaaRows
import Derived.Test.YtlbebbkkpjgboaaPlain1
import Derived.WalkKit
import Derived.Lib.Hide
namespace Go.Proofs.Ytlbebbkkpjgboaa
open Go.RowKit
theorem low_any (n : Int) (w : World) : Calls Try.prog 59 #[.int .u8 n] w fun e w' => e = .returned (.bool (low n)) ∧ w = w' := by
  by_cases h1 : 97 ≤ n
  · by_cases h2 : n ≤ 122
    all_goals
      first | (have : low n = true := by unfold low; simp [h1, h2]) | (have : low n = false := by unfold low; simp [h1, h2])
      rw [this]; clear this
      go_enter Try.func59, Try.ntmps59
      go_wp2
      go_ret
      exact ⟨rfl, rfl⟩
  · have : low n = false := by unfold low; simp [h1]
    rw [this]; clear this
    go_enter Try.func59, Try.ntmps59
    go_wp2
    go_ret
    exact ⟨rfl, rfl⟩
theorem dgt_any (n : Int) (w : World) : Calls Try.prog 60 #[.int .u8 n] w fun e w' => e = .returned (.bool (dgt n)) ∧ w = w' := by
  by_cases h1 : 48 ≤ n
  · by_cases h2 : n ≤ 57
    all_goals
      first | (have : dgt n = true := by unfold dgt; simp [h1, h2]) | (have : dgt n = false := by unfold dgt; simp [h1, h2])
      rw [this]; clear this
      go_enter Try.func60, Try.ntmps60
      go_wp2
      go_ret
      exact ⟨rfl, rfl⟩
  · have : dgt n = false := by unfold dgt; simp [h1]
    rw [this]; clear this
    go_enter Try.func60, Try.ntmps60
    go_wp2
    go_ret
    exact ⟨rfl, rfl⟩
theorem wordValid_any (s : ByteArray) (w : World) (hs : s.size ≤ maxLen) : Calls Try.prog 38 #[.string s] w fun e w' => e = .returned (.bool (wordB s)) ∧ w = w' := by
  unfold maxLen at hs
  by_cases h1 : s.size < 1
  · have HF := Lib.hid (wordV_nil s h1)
    go_enter Try.func38, Try.ntmps38
    go_wp2
    go_ret
    exact ⟨ret_bool HF.out.symm, rfl⟩
  by_cases h8 : 8 < s.size
  · have HF := Lib.hid (wordV_long s h8)
    go_enter Try.func38, Try.ntmps38
    go_wp2
    go_ret
    exact ⟨ret_bool HF.out.symm, rfl⟩
  have h0 : 0 < s.size := by omega
  cases hl : low ((s[0]).toNat : Int)
  · have HF := Lib.hid (wordV_head s h0 hl)
    go_enter Try.func38, Try.ntmps38
    go_wp2_with (first | (go_at_call 59; refine (low_any _ _).mono ?_; rintro e w' ⟨rfl, rfl⟩))
    go_ret
    exact ⟨ret_bool HF.out.symm, rfl⟩
  have HW := Lib.hid (wordV_of s h0 (by omega) hl)
  go_enter Try.func38, Try.ntmps38
  go_wp2_with (first | (go_at_call 59; refine (low_any _ _).mono ?_; rintro e w' ⟨rfl, rfl⟩))
  go_loop [3] (fun i => ∃ k : Nat, k ≤ s.size ∧ i = .int .i64 k ∧ (s.data.toList.take k).all wtail = true) (fun i => s.size - (intOf i).toNat)
  case atStart => exact ⟨1, by omega, rfl, by rw [all_one s wtail h0]; exact wtail_low hl⟩
  case round =>
    obtain ⟨k, hk, rfl, ha⟩ := hrel
    have HA := Lib.hid ha; clear ha
    by_cases hlt : k < s.size
    · cases h3 : low ((s[k]).toNat : Int)
      · cases h4 : dgt ((s[k]).toNat : Int)
        · have HF := Lib.hid (all_false_of s wtail k hlt (wtail_no h3 h4))
          go_wp2_with (first | (go_at_call 59; refine (low_any _ _).mono ?_; rintro e w' ⟨rfl, rfl⟩) | (go_at_call 60; refine (dgt_any _ _).mono ?_; rintro e w' ⟨rfl, rfl⟩))
          go_ret
          exact ⟨ret_bool (by unfold wordB; rw [HW.out, HF.out]), rfl⟩
        · have HF := Lib.hid (wtail_dgt h4)
          go_wp2_with (first | (go_at_call 59; refine (low_any _ _).mono ?_; rintro e w' ⟨rfl, rfl⟩) | (go_at_call 60; refine (dgt_any _ _).mono ?_; rintro e w' ⟨rfl, rfl⟩))
          go_round
          case rel => exact ⟨k + 1, by omega, by go_num, by rw [all_snoc s wtail k hlt, HA.out, HF.out]; rfl⟩
          case measure => simp [intOf]; omega
      · have HF := Lib.hid (wtail_low h3)
        go_wp2_with (first | (go_at_call 59; refine (low_any _ _).mono ?_; rintro e w' ⟨rfl, rfl⟩))
        go_round
        case rel => exact ⟨k + 1, by omega, by go_num, by rw [all_snoc s wtail k hlt, HA.out, HF.out]; rfl⟩
        case measure => simp [intOf]; omega
    · have HE := Lib.hid (all_end s k hlt)
      go_wp2
      go_ret
      exact ⟨ret_bool (by unfold wordB; rw [HW.out, ← HE.out, HA.out]), rfl⟩
theorem l1In_any (n lo hi : Int) (w : World) : Calls Try.prog 46 #[.int .i64 n, .int .i64 lo, .int .i64 hi] w fun e w' => e = .returned (.bool (in3 n lo hi)) ∧ w = w' := by
  by_cases h1 : lo ≤ n
  · by_cases h2 : n ≤ hi
    · go_enter Try.func46, Try.ntmps46
      go_wp2
      go_ret
      exact ⟨ret_bool (in3_yes h1 h2).symm, rfl⟩
    · go_enter Try.func46, Try.ntmps46
      go_wp2
      go_ret
      exact ⟨ret_bool (in3_hi (by omega)).symm, rfl⟩
  · go_enter Try.func46, Try.ntmps46
    go_wp2
    go_ret
    exact ⟨ret_bool (in3_lo (by omega)).symm, rfl⟩
theorem textValid_any (s : ByteArray) (w : World) (hs : s.size ≤ maxLen) : Calls Try.prog 39 #[.string s] w fun e w' => e = .returned (.bool (textB s)) ∧ w = w' := by
  unfold maxLen at hs
  by_cases h8 : 60 < s.size
  · have HF := Lib.hid (textV_long s h8)
    go_enter Try.func39, Try.ntmps39
    go_wp2
    go_ret
    exact ⟨ret_bool HF.out.symm, rfl⟩
  go_enter Try.func39, Try.ntmps39
  go_wp2
  go_loop [3] (fun i => ∃ k : Nat, k ≤ s.size ∧ i = .int .i64 k ∧ (s.data.toList.take k).all txt = true) (fun i => s.size - (intOf i).toNat)
  case atStart => exact ⟨0, by omega, rfl, by simp⟩
  case round =>
    obtain ⟨k, hk, rfl, ha⟩ := hrel
    have HA := Lib.hid ha; clear ha
    by_cases hlt : k < s.size
    · by_cases h3 : ((s[k]).toNat : Int) < 32
      · have HF := Lib.hid (textV_at s k hlt (txt_no (.inl h3)))
        go_wp2
        go_ret
        exact ⟨ret_bool HF.out.symm, rfl⟩
      · by_cases h4 : 126 < ((s[k]).toNat : Int)
        · have HF := Lib.hid (textV_at s k hlt (txt_no (.inr h4)))
          go_wp2
          go_ret
          exact ⟨ret_bool HF.out.symm, rfl⟩
        · have HF := Lib.hid (txt_yes h3 h4)
          go_wp2
          go_round
          case rel => exact ⟨k + 1, by omega, by go_num, by rw [all_snoc s txt k hlt, HA.out, HF.out]; rfl⟩
          case measure => simp [intOf]; omega
    · have HE := Lib.hid (textV_end s k hlt HA.out)
      go_wp2
      go_ret
      exact ⟨ret_bool (by rw [HE.out]; simp; omega), rfl⟩
theorem specTextValid_any (s : ByteArray) (w : World) (hs : s.size ≤ maxLen) : Calls Try.prog 57 #[.string s] w fun e w' => e = .returned (.bool (textB s)) ∧ w = w' := by
  unfold maxLen at hs
  go_enter Try.func57, Try.ntmps57
  go_wp2
  go_loop [3] (fun i => ∃ k : Nat, k ≤ s.size ∧ i = .int .i64 k ∧ (s.data.toList.take k).all txt = true) (fun i => s.size - (intOf i).toNat)
  case atStart => exact ⟨0, by omega, rfl, by simp⟩
  case round =>
    obtain ⟨k, hk, rfl, ha⟩ := hrel
    have HA := Lib.hid ha; clear ha
    by_cases hlt : k < s.size
    · by_cases h3 : ((s[k]).toNat : Int) < 32
      · have HF := Lib.hid (textV_at s k hlt (txt_no (.inl h3)))
        go_wp2
        go_ret
        exact ⟨ret_bool HF.out.symm, rfl⟩
      · by_cases h4 : 126 < ((s[k]).toNat : Int)
        · have HF := Lib.hid (textV_at s k hlt (txt_no (.inr h4)))
          go_wp2
          go_ret
          exact ⟨ret_bool HF.out.symm, rfl⟩
        · have HF := Lib.hid (txt_yes h3 h4)
          go_wp2
          go_round
          case rel => exact ⟨k + 1, by omega, by go_num, by rw [all_snoc s txt k hlt, HA.out, HF.out]; rfl⟩
          case measure => simp [intOf]; omega
    · have HE := Lib.hid (textV_end s k hlt HA.out)
      go_wp2
      go_ret
      exact ⟨ret_bool HE.out.symm, rfl⟩
theorem specWordValid_any (s : ByteArray) (w : World) (hs : s.size ≤ maxLen) : Calls Try.prog 80 #[.string s] w fun e w' => e = .returned (.bool (wordB s)) ∧ w = w' := by
  unfold maxLen at hs
  go_enter Try.func80, Try.ntmps80
  go_wp2
  go_loop [3, 4] (fun i _ => ∃ k : Nat, k ≤ s.size ∧ i = .int .i64 k ∧ (s.data.toList.take k).all wtail = true ∧ (0 < k → k ≤ s.size → whead s.data.toList = true)) (fun i _ => s.size - (intOf i).toNat)
  case atStart => exact ⟨0, by omega, rfl, by simp, fun h => by omega⟩
  case round =>
    obtain ⟨k, hk, rfl, ha, hh⟩ := hrel
    have HA := Lib.hid ha; clear ha
    have HH := Lib.hid hh; clear hh
    by_cases hlt : k < s.size
    · have go : ∀ (hw : wtail s[k] = true) (hz : k = 0 → whead s.data.toList = true), ∃ k' : Nat, k' ≤ s.size ∧ (Value.int .i64 (↑k + 1) = .int .i64 ↑k') ∧ (s.data.toList.take k').all wtail = true ∧ (0 < k' → k' ≤ s.size → whead s.data.toList = true) := fun hw hz =>
        ⟨k + 1, by omega, by go_num, by rw [all_snoc s wtail k hlt, HA.out, hw]; rfl, fun _ _ => by rcases Nat.eq_zero_or_pos k with h | h; exact hz h; exact HH.out h hk⟩
      have hhd : k = 0 → whead s.data.toList = low ((s[k]).toNat : Int) := fun h => by subst h; exact whead_eq s hlt
      by_cases h3 : 97 ≤ ((s[k]).toNat : Int) ∧ ((s[k]).toNat : Int) ≤ 122
      · have HG := Lib.hid (go (wtail_low (low_yes h3.1 h3.2)) (fun h => by rw [hhd h]; exact low_yes h3.1 h3.2))
        clear go hhd
        obtain ⟨h3, h4⟩ := h3
        go_wp2
        go_round
        case rel => exact HG.out
        case measure => simp [intOf]; omega
      · have HN := Lib.hid (low_no h3)
        by_cases hk0 : k = 0
        · subst hk0
          have HF := Lib.hid (wordV_first s hlt HN.out)
          clear go hhd
          by_cases h4 : 97 ≤ ((s[0]).toNat : Int)
          · have h5 : ¬ ((s[0]).toNat : Int) ≤ 122 := fun h => h3 ⟨h4, h⟩
            clear h3
            go_wp2
            go_ret
            exact ⟨ret_bool HF.out.symm, rfl⟩
          · clear h3
            go_wp2
            go_ret
            exact ⟨ret_bool HF.out.symm, rfl⟩
        · have hk1 : 0 < k := by omega
          have hk2 : ((k : Int) == 0) = false := by simp; omega
          by_cases h5 : ((s[k]).toNat : Int) < 48
          · have HF := Lib.hid (wordV_at s k hlt HN.out (dgt_no (.inl h5)))
            clear go hhd h3 hk0
            go_wp2
            go_ret
            exact ⟨ret_bool HF.out.symm, rfl⟩
          · by_cases h6 : 57 < ((s[k]).toNat : Int)
            · have HF := Lib.hid (wordV_at s k hlt HN.out (dgt_no (.inr h6)))
              clear go hhd hk0
              by_cases h4 : 97 ≤ ((s[k]).toNat : Int)
              · have h5' : ¬ ((s[k]).toNat : Int) ≤ 122 := fun h => h3 ⟨h4, h⟩
                clear h3
                go_wp2
                go_ret
                exact ⟨ret_bool HF.out.symm, rfl⟩
              · clear h3
                go_wp2
                go_ret
                exact ⟨ret_bool HF.out.symm, rfl⟩
            · have HG := Lib.hid (go (wtail_dgt (dgt_yes h5 h6)) (fun h => by omega))
              clear go hhd h3 hk0
              go_wp2
              go_round
              case rel => exact HG.out
              case measure => simp [intOf]; omega
    · have HE := Lib.hid (wordV_end s k hlt HA.out HH.out hk)
      go_wp2_with (go_at_call 46; refine (l1In_any _ _ _ _).mono ?_; rintro e w' ⟨rfl, rfl⟩)
      go_ret
      exact ⟨ret_bool HE.out.symm, rfl⟩
end Go.Proofs.Ytlbebbkkpjgboaa
