/-
  Contracts of chapter 1: reading hexadecimal numbers.
-/
import Derived.Test.YtlbebbkkpjgboaaHex
namespace Go.Proofs.Ytlbebbkkpjgboaa
open Go.RowKit
set_option linter.unusedVariables false
theorem specReadHex_any (s : ByteArray) (w : World) (hs : s.size ≤ maxLen) : Calls Try.prog 86 #[.string s] w fun e w' => e = .returned (.int .i64 (readB s)) ∧ w = w' := by
  unfold maxLen at hs
  go_enter Try.func86, Try.ntmps86
  go_wp2
  go_loop [3, 4] (fun n i => ∃ k : Nat, k ≤ s.size ∧ k ≤ 7 ∧ i = .int .i64 k ∧ n = .int .i64 (valL (s.data.toList.take k)) ∧ (s.data.toList.take k).all hexOk = true) (fun _ i => s.size - (intOf i).toNat)
  case atStart => exact ⟨0, by omega, by omega, rfl, rfl, rfl⟩
  case round =>
    obtain ⟨k, hk, h7, rfl, rfl, ha⟩ := hrel
    have hp := valL_take s k h7 ha
    obtain ⟨hp, hp'⟩ := hp
    have HA := Lib.hid ha; clear ha
    by_cases hlt : k < s.size
    · by_cases hl7 : k < 7
      · have hv : valL (s.data.toList.take (k + 1)) = 16 * valL (s.data.toList.take k) + digV s[k] := by rw [take_snoc s k hlt, valL_snoc]
        have HV := Lib.hid hv; clear hv
        have h6 : valL (s.data.toList.take k) ≤ 16777215 := by
          have h := (valL_bd _ HA.out).2
          have h3 : (s.data.toList.take k).length ≤ 6 := by rw [List.length_take]; omega
          have h4 : (16 : Int) ^ (s.data.toList.take k).length ≤ 16 ^ 6 := by
            have := Nat.pow_le_pow_right (n := 16) (by omega) h3
            exact_mod_cast this
          have h5 : (16 : Int) ^ 6 = 16777216 := by decide
          omega
        by_cases hd : 48 ≤ ((s[k]).toNat : Int) ∧ ((s[k]).toNat : Int) ≤ 57
        · have HD := Lib.hid (digV_num s[k] hd.1 hd.2)
          have HO := Lib.hid (show hexOk s[k] = true by unfold hexOk; rw [HD.out]; simp; omega)
          obtain ⟨hd1, hd2⟩ := hd
          go_wp2
          go_round
          case rel => exact ⟨k + 1, by omega, by omega, by go_num, by rw [HV.out, HD.out], by rw [all_snoc s hexOk k hlt, HA.out, HO.out]; rfl⟩
          case measure => simp [intOf]; omega
        · by_cases hl : 97 ≤ ((s[k]).toNat : Int) ∧ ((s[k]).toNat : Int) ≤ 102
          · have HD := Lib.hid (digV_let s[k] hl.1 hl.2)
            have HO := Lib.hid (show hexOk s[k] = true by unfold hexOk; rw [HD.out]; simp; omega)
            obtain ⟨hl1, hl2⟩ := hl
            clear hd
            go_wp2
            go_round
            case rel => exact ⟨k + 1, by omega, by omega, by go_num, by rw [HV.out, HD.out, ← Int.add_assoc], by rw [all_snoc s hexOk k hlt, HA.out, HO.out]; rfl⟩
            case measure => simp [intOf]; omega
          · have HF := Lib.hid (readB_bad s k hlt (digV_none s[k] hd hl))
            by_cases h48 : 48 ≤ ((s[k]).toNat : Int)
            · have h57 : 57 < ((s[k]).toNat : Int) := by omega
              by_cases h97 : 97 ≤ ((s[k]).toNat : Int)
              · have h102 : 102 < ((s[k]).toNat : Int) := by omega
                clear hd hl
                go_wp2
                go_ret
                exact ⟨ret_int HF.out.symm, rfl⟩
              · clear hd hl
                go_wp2
                go_ret
                exact ⟨ret_int HF.out.symm, rfl⟩
            · have h97 : ¬ 97 ≤ ((s[k]).toNat : Int) := by omega
              clear hd hl
              go_wp2
              go_ret
              exact ⟨ret_int HF.out.symm, rfl⟩
      · have HF := Lib.hid (readB_long s (by omega))
        have HN := Lib.hid (show ((hexB (valL (s.data.toList.take k))).toList == s.toList) = false by
          rw [str_beq]
          have : (hexB (valL (s.data.toList.take k))) ≠ s := by intro h; have := hexB_size (valL (s.data.toList.take k)); rw [h] at this; omega
          simp [this])
        have hne : s.toList.isEmpty = false := by rw [ByteArray.toList_eq, List.isEmpty_eq_false_iff, ← List.length_pos_iff, len_eq]; omega
        have he := HN.out
        go_wp2_with (go_at_call 72; refine (specHexText_any _ _).mono ?_; rintro e w' ⟨rfl, rfl⟩)
        go_ret
        exact ⟨ret_int HF.out.symm, rfl⟩
    · by_cases h0 : 0 < s.size
      · have HE := Lib.hid (readB_last s k hlt HA.out hp h0)
        have hne : s.toList.isEmpty = false := by rw [ByteArray.toList_eq, List.isEmpty_eq_false_iff, ← List.length_pos_iff, len_eq]; omega
        cases he : ((hexB (valL (s.data.toList.take k))).toList == s.toList)
        · have HN := Lib.hid (str_ne he)
          go_wp2_with (go_at_call 72; refine (specHexText_any _ _).mono ?_; rintro e w' ⟨rfl, rfl⟩)
          go_ret
          exact ⟨ret_int (by rw [HE.out, if_neg HN.out]), rfl⟩
        · have HN := Lib.hid (str_eq he)
          go_wp2_with (go_at_call 72; refine (specHexText_any _ _).mono ?_; rintro e w' ⟨rfl, rfl⟩)
          go_ret
          exact ⟨ret_int (by rw [HE.out, if_pos HN.out]), rfl⟩
      · have HF := Lib.hid (readB_empty s h0)
        have hne : s.toList.isEmpty = true := by rw [ByteArray.toList_eq, List.isEmpty_iff, ← List.length_eq_zero_iff, len_eq]; omega
        have hk0 : ¬ k < s.size := hlt
        go_wp2
        go_ret
        exact ⟨ret_int HF.out.symm, rfl⟩
end Go.Proofs.Ytlbebbkkpjgboaa
