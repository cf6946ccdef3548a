/-
  Chapter 2: prints. Plain functions and the contracts.
-/
import Derived.Test.YtglajbmopiolhaaGreatDoorMem
import Derived.Test.YtglajbmopiolhaaGreatDoorWords
import Derived.Test.YtglajbmopiolhaaGreatDoorDraw0
import Derived.Maps.AppendAt
namespace Go.Proofs.YtglajbmopiolhaaGreatDoor
open Go.RowKit
set_option linter.unusedVariables false
def isPr (n : Int) : Bool := decide (0 ≤ n ∧ n ≤ 16777212)
def stepB (n : Int) (c : UInt8) : Int := (257 * n + (c.toNat : Int)) % 16777213
def sumB (l : List UInt8) : Int := l.foldl stepB 1
/-- The print of a text. -/
def printB (s : ByteArray) : Int := if textB s = true then sumB s.data.toList else -1
theorem isPr_yes {n : Int} (h : 0 ≤ n) (h' : n ≤ 16777212) : isPr n = true := by unfold isPr; simp [h, h']
theorem isPr_no {n : Int} (h : n < 0 ∨ 16777212 < n) : isPr n = false := by unfold isPr; simp; omega
theorem sumB_snoc (l : List UInt8) (c : UInt8) : sumB (l ++ [c]) = stepB (sumB l) c := by unfold sumB; rw [List.foldl_append]; rfl
theorem stepB_bd (n : Int) (c : UInt8) : 0 ≤ stepB n c ∧ stepB n c ≤ 16777212 := by unfold stepB; omega
theorem sumB_bd (l : List UInt8) : 0 ≤ sumB l ∧ sumB l ≤ 16777212 := by
  rcases List.eq_nil_or_concat l with rfl | ⟨l', c, rfl⟩
  · unfold sumB; simp
  · rw [List.concat_eq_append, sumB_snoc]; exact stepB_bd _ _
theorem printB_bd (s : ByteArray) : -1 ≤ printB s ∧ printB s ≤ 16777212 := by
  unfold printB; have := sumB_bd s.data.toList; split <;> omega
/-! ### contracts -/
theorem isPrint_any (n : Int) (w : World) : Calls Tryz.prog 137 #[.int .i64 n] w fun e w' => e = .returned (.bool (isPr n)) ∧ w = w' := by
  by_cases h1 : 0 ≤ n
  · by_cases h2 : n ≤ 16777212
    · have HF := Lib.hid (isPr_yes h1 h2)
      go_enter Tryz.func137, Tryz.ntmps137
      go_wp2
      go_ret
      exact ⟨ret_bool HF.out.symm, rfl⟩
    · have HF := Lib.hid (isPr_no (n := n) (by omega))
      go_enter Tryz.func137, Tryz.ntmps137
      go_wp2
      go_ret
      exact ⟨ret_bool HF.out.symm, rfl⟩
  · have HF := Lib.hid (isPr_no (n := n) (by omega))
    go_enter Tryz.func137, Tryz.ntmps137
    go_wp2
    go_ret
    exact ⟨ret_bool HF.out.symm, rfl⟩
theorem printOf_any (s : ByteArray) (w : World) (hs : s.size ≤ maxLen) : Calls Tryz.prog 42 #[.string s] w fun e w' => e = .returned (.int .i64 (printB s)) ∧ w = w' := by
  have hs' := hs
  unfold maxLen at hs'
  cases ht : textB s
  · have HF := Lib.hid (show printB s = -1 by unfold printB; rw [ht]; rfl)
    go_enter Tryz.func42, Tryz.ntmps42
    go_wp2_with (go_at_call 41; refine (textValid_any _ _ hs).mono ?_; rintro e w' ⟨rfl, rfl⟩)
    go_ret
    exact ⟨ret_int HF.out.symm, rfl⟩
  · have HF := Lib.hid (show printB s = sumB s.data.toList by unfold printB; rw [ht]; rfl)
    go_enter Tryz.func42, Tryz.ntmps42
    go_wp2_with (go_at_call 41; refine (textValid_any _ _ hs).mono ?_; rintro e w' ⟨rfl, rfl⟩)
    go_loop [3, 4] (fun n i => ∃ k : Nat, k ≤ s.size ∧ i = .int .i64 k ∧ n = .int .i64 (sumB (s.data.toList.take k))) (fun _ i => s.size - (intOf i).toNat)
    case atStart => exact ⟨0, by omega, rfl, rfl⟩
    case round =>
      obtain ⟨k, hk, rfl, rfl⟩ := hrel
      obtain ⟨b0, b1⟩ := sumB_bd (s.data.toList.take k)
      by_cases hlt : k < s.size
      · have HV := Lib.hid (show sumB (s.data.toList.take (k + 1)) = stepB (sumB (s.data.toList.take k)) s[k] by rw [take_snoc s k hlt, sumB_snoc])
        have hc0 : (0 : Int) ≤ ((s[k]).toNat : Int) := by omega
        have hc1 : ((s[k]).toNat : Int) ≤ 255 := by have := (s[k]).toNat_lt; omega
        go_wp2
        go_round
        case rel => exact ⟨k + 1, by omega, by go_num, by rw [HV.out]; rfl⟩
        case measure => simp [intOf]; omega
      · have HE := Lib.hid (all_end s k hlt)
        go_wp2
        go_ret
        exact ⟨ret_int (by rw [HF.out, HE.out]), rfl⟩
theorem specPrintOf_any (s : ByteArray) (w : World) (hs : s.size ≤ maxLen) : Calls Tryz.prog 68 #[.string s] w fun e w' => e = .returned (.int .i64 (printB s)) ∧ w = w' := by
  have hs' := hs
  unfold maxLen at hs'
  cases ht : textB s
  · have HF := Lib.hid (show printB s = -1 by unfold printB; rw [ht]; rfl)
    go_enter Tryz.func68, Tryz.ntmps68
    go_wp2_with (go_at_call 67; refine (specTextValid_any _ _ hs).mono ?_; rintro e w' ⟨rfl, rfl⟩)
    go_ret
    exact ⟨ret_int HF.out.symm, rfl⟩
  · have HF := Lib.hid (show printB s = sumB s.data.toList by unfold printB; rw [ht]; rfl)
    go_enter Tryz.func68, Tryz.ntmps68
    go_wp2_with (go_at_call 67; refine (specTextValid_any _ _ hs).mono ?_; rintro e w' ⟨rfl, rfl⟩)
    go_loop [3, 4] (fun n i => ∃ k : Nat, k ≤ s.size ∧ i = .int .i64 k ∧ n = .int .i64 (sumB (s.data.toList.take k))) (fun _ i => s.size - (intOf i).toNat)
    case atStart => exact ⟨0, by omega, rfl, rfl⟩
    case round =>
      obtain ⟨k, hk, rfl, rfl⟩ := hrel
      obtain ⟨b0, b1⟩ := sumB_bd (s.data.toList.take k)
      by_cases hlt : k < s.size
      · have HV := Lib.hid (show sumB (s.data.toList.take (k + 1)) = stepB (sumB (s.data.toList.take k)) s[k] by rw [take_snoc s k hlt, sumB_snoc])
        have hc0 : (0 : Int) ≤ ((s[k]).toNat : Int) := by omega
        have hc1 : ((s[k]).toNat : Int) ≤ 255 := by have := (s[k]).toNat_lt; omega
        go_wp2
        go_round
        case rel => exact ⟨k + 1, by omega, by go_num, by rw [HV.out]; rfl⟩
        case measure => simp [intOf]; omega
      · have HE := Lib.hid (all_end s k hlt)
        go_wp2
        go_ret
        exact ⟨ret_int (by rw [HF.out, HE.out]), rfl⟩
end Go.Proofs.YtglajbmopiolhaaGreatDoor
/-
  Draws of chapter 2.
-/
namespace Go.Proofs.YtglajbmopiolhaaGreatDoor
open Go.RowKit
set_option linter.unusedVariables false
end Go.Proofs.YtglajbmopiolhaaGreatDoor
