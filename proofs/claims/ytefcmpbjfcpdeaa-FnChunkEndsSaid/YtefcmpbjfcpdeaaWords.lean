/-
  Contracts of chapter 1.
-/
import Derived.Test.YtefcmpbjfcpdeaaRows
import Derived.Test.YtefcmpbjfcpdeaaPlain1
import Derived.WalkKit
import Derived.Lib.Hide
namespace Go.Proofs.Ytefcmpbjfcpdeaa
open Go.RowKit
theorem low_any (n : Int) (w : World) : Calls Try.prog 47 #[.int .u8 n] w fun e w' => e = .returned (.bool (low n)) ∧ w = w' := by
  by_cases h1 : 97 ≤ n
  · by_cases h2 : n ≤ 122
    all_goals
      first | (have : low n = true := by unfold low; simp [h1, h2]) | (have : low n = false := by unfold low; simp [h1, h2])
      rw [this]; clear this
      go_enter Try.func47, Try.ntmps47
      go_wp2
      go_ret
      exact ⟨rfl, rfl⟩
  · have : low n = false := by unfold low; simp [h1]
    rw [this]; clear this
    go_enter Try.func47, Try.ntmps47
    go_wp2
    go_ret
    exact ⟨rfl, rfl⟩
theorem dgt_any (n : Int) (w : World) : Calls Try.prog 48 #[.int .u8 n] w fun e w' => e = .returned (.bool (dgt n)) ∧ w = w' := by
  by_cases h1 : 48 ≤ n
  · by_cases h2 : n ≤ 57
    all_goals
      first | (have : dgt n = true := by unfold dgt; simp [h1, h2]) | (have : dgt n = false := by unfold dgt; simp [h1, h2])
      rw [this]; clear this
      go_enter Try.func48, Try.ntmps48
      go_wp2
      go_ret
      exact ⟨rfl, rfl⟩
  · have : dgt n = false := by unfold dgt; simp [h1]
    rw [this]; clear this
    go_enter Try.func48, Try.ntmps48
    go_wp2
    go_ret
    exact ⟨rfl, rfl⟩
theorem wordValid_any (s : ByteArray) (w : World) (hs : s.size ≤ maxLen) : Calls Try.prog 40 #[.string s] w fun e w' => e = .returned (.bool (wordB s)) ∧ w = w' := by
  unfold maxLen at hs
  by_cases h1 : s.size < 1
  · have HF := Lib.hid (wordV_nil s h1)
    go_enter Try.func40, Try.ntmps40
    go_wp2
    go_ret
    exact ⟨ret_bool HF.out.symm, rfl⟩
  by_cases h8 : 8 < s.size
  · have HF := Lib.hid (wordV_long s h8)
    go_enter Try.func40, Try.ntmps40
    go_wp2
    go_ret
    exact ⟨ret_bool HF.out.symm, rfl⟩
  have h0 : 0 < s.size := by omega
  cases hl : low ((s[0]).toNat : Int)
  · have HF := Lib.hid (wordV_head s h0 hl)
    go_enter Try.func40, Try.ntmps40
    go_wp2_with (first | (go_at_call 47; refine (low_any _ _).mono ?_; rintro e w' ⟨rfl, rfl⟩))
    go_ret
    exact ⟨ret_bool HF.out.symm, rfl⟩
  have HW := Lib.hid (wordV_of s h0 (by omega) hl)
  go_enter Try.func40, Try.ntmps40
  go_wp2_with (first | (go_at_call 47; refine (low_any _ _).mono ?_; rintro e w' ⟨rfl, rfl⟩))
  go_loop [3] (fun i => ∃ k : Nat, k ≤ s.size ∧ i = .int .i64 k ∧ (s.data.toList.take k).all wtail = true) (fun i => s.size - (intOf i).toNat)
  case atStart => exact ⟨1, by omega, rfl, by rw [all_one s wtail h0]; exact wtail_low hl⟩
  case round =>
    obtain ⟨k, hk, rfl, ha⟩ := hrel
    have HA := Lib.hid ha; clear ha
    by_cases hlt : k < s.size
    · cases h3 : low ((s[k]).toNat : Int)
      · cases h4 : dgt ((s[k]).toNat : Int)
        · have HF := Lib.hid (all_false_of s wtail k hlt (wtail_no h3 h4))
          go_wp2_with (first | (go_at_call 47; refine (low_any _ _).mono ?_; rintro e w' ⟨rfl, rfl⟩) | (go_at_call 48; refine (dgt_any _ _).mono ?_; rintro e w' ⟨rfl, rfl⟩))
          go_ret
          exact ⟨ret_bool (by unfold wordB; rw [HW.out, HF.out]), rfl⟩
        · have HF := Lib.hid (wtail_dgt h4)
          go_wp2_with (first | (go_at_call 47; refine (low_any _ _).mono ?_; rintro e w' ⟨rfl, rfl⟩) | (go_at_call 48; refine (dgt_any _ _).mono ?_; rintro e w' ⟨rfl, rfl⟩))
          go_round
          case rel => exact ⟨k + 1, by omega, by go_num, by rw [all_snoc s wtail k hlt, HA.out, HF.out]; rfl⟩
          case measure => simp [intOf]; omega
      · have HF := Lib.hid (wtail_low h3)
        go_wp2_with (first | (go_at_call 47; refine (low_any _ _).mono ?_; rintro e w' ⟨rfl, rfl⟩))
        go_round
        case rel => exact ⟨k + 1, by omega, by go_num, by rw [all_snoc s wtail k hlt, HA.out, HF.out]; rfl⟩
        case measure => simp [intOf]; omega
    · have HE := Lib.hid (all_end s k hlt)
      go_wp2
      go_ret
      exact ⟨ret_bool (by unfold wordB; rw [HW.out, ← HE.out, HA.out]), rfl⟩
theorem textValid_any (s : ByteArray) (w : World) (hs : s.size ≤ maxLen) : Calls Try.prog 20 #[.string s] w fun e w' => e = .returned (.bool (textB s)) ∧ w = w' := by
  unfold maxLen at hs
  by_cases h8 : 60 < s.size
  · have HF := Lib.hid (textV_long s h8)
    go_enter Try.func20, Try.ntmps20
    go_wp2
    go_ret
    exact ⟨ret_bool HF.out.symm, rfl⟩
  go_enter Try.func20, Try.ntmps20
  go_wp2
  go_loop [3] (fun i => ∃ k : Nat, k ≤ s.size ∧ i = .int .i64 k ∧ (s.data.toList.take k).all txt = true) (fun i => s.size - (intOf i).toNat)
  case atStart => exact ⟨0, by omega, rfl, by simp⟩
  case round =>
    obtain ⟨k, hk, rfl, ha⟩ := hrel
    have HA := Lib.hid ha; clear ha
    by_cases hlt : k < s.size
    · by_cases h3 : ((s[k]).toNat : Int) < 32
      · have HF := Lib.hid (textV_at s k hlt (txt_no (.inl h3)))
        go_wp2
        go_ret
        exact ⟨ret_bool HF.out.symm, rfl⟩
      · by_cases h4 : 126 < ((s[k]).toNat : Int)
        · have HF := Lib.hid (textV_at s k hlt (txt_no (.inr h4)))
          go_wp2
          go_ret
          exact ⟨ret_bool HF.out.symm, rfl⟩
        · have HF := Lib.hid (txt_yes h3 h4)
          go_wp2
          go_round
          case rel => exact ⟨k + 1, by omega, by go_num, by rw [all_snoc s txt k hlt, HA.out, HF.out]; rfl⟩
          case measure => simp [intOf]; omega
    · have HE := Lib.hid (textV_end s k hlt HA.out)
      go_wp2
      go_ret
      exact ⟨ret_bool (by rw [HE.out]; simp; omega), rfl⟩
theorem specTextValid_any (s : ByteArray) (w : World) (hs : s.size ≤ maxLen) : Calls Try.prog 39 #[.string s] w fun e w' => e = .returned (.bool (textB s)) ∧ w = w' := by
  unfold maxLen at hs
  go_enter Try.func39, Try.ntmps39
  go_wp2
  go_loop [3] (fun i => ∃ k : Nat, k ≤ s.size ∧ i = .int .i64 k ∧ (s.data.toList.take k).all txt = true) (fun i => s.size - (intOf i).toNat)
  case atStart => exact ⟨0, by omega, rfl, by simp⟩
  case round =>
    obtain ⟨k, hk, rfl, ha⟩ := hrel
    have HA := Lib.hid ha; clear ha
    by_cases hlt : k < s.size
    · by_cases h3 : ((s[k]).toNat : Int) < 32
      · have HF := Lib.hid (textV_at s k hlt (txt_no (.inl h3)))
        go_wp2
        go_ret
        exact ⟨ret_bool HF.out.symm, rfl⟩
      · by_cases h4 : 126 < ((s[k]).toNat : Int)
        · have HF := Lib.hid (textV_at s k hlt (txt_no (.inr h4)))
          go_wp2
          go_ret
          exact ⟨ret_bool HF.out.symm, rfl⟩
        · have HF := Lib.hid (txt_yes h3 h4)
          go_wp2
          go_round
          case rel => exact ⟨k + 1, by omega, by go_num, by rw [all_snoc s txt k hlt, HA.out, HF.out]; rfl⟩
          case measure => simp [intOf]; omega
    · have HE := Lib.hid (textV_end s k hlt HA.out)
      go_wp2
      go_ret
      exact ⟨ret_bool HE.out.symm, rfl⟩
end Go.Proofs.Ytefcmpbjfcpdeaa
