/-
  Contracts of chapter 1: hexadecimal numbers.
-/
import Derived.Test.YtlbebbkkpjgboaaWords
import Derived.WalkSpells
namespace Go.Proofs.Ytlbebbkkpjgboaa
open Go.RowKit
set_option linter.unusedVariables false
theorem specHexText_any (n : Int) (w : World) : Calls Try.prog 72 #[.int .i64 n] w fun e w' => e = .returned (.string (hexB n)) ∧ w = w' := by
  cases h1 : in3 n 0 16777212
  · have HF := Lib.hid (hexB_no (n := n) (by unfold in3 at h1; simp at h1; omega))
    go_enter Try.func72, Try.ntmps72
    go_wp2_with (go_at_call 46; refine (l1In_any _ _ _ _).mono ?_; rintro e w' ⟨rfl, rfl⟩)
    go_ret
    exact ⟨ret_str HF.out.symm, rfl⟩
  have hn : 0 ≤ n ∧ n ≤ 16777212 := by unfold in3 at h1; simpa using h1
  obtain ⟨h0, h2⟩ := hn
  have HS := Lib.hid (hexRel_start h0 h2)
  obtain ⟨k, rfl⟩ : ∃ k : Nat, n = k := ⟨n.toNat, by omega⟩
  go_enter Try.func72, Try.ntmps72
  go_wp2_with (go_at_call 46; refine (l1In_any _ _ _ _).mono ?_; rintro e w' ⟨rfl, rfl⟩)
  go_loop [0, 4] (fun n' t => ∃ (m : Nat) (s : ByteArray), n' = .int .i64 m ∧ t = .string s ∧ HexRel k m s) (fun n' _ => (intOf n').toNat)
  case atStart => exact ⟨_, _, rfl, rfl, HS.out⟩
  case round =>
    obtain ⟨m, s, rfl, rfl, hr⟩ := hrel
    have HR := Lib.hid hr; clear hr
    have hb := hexRel_size HR.out
    obtain ⟨hb1, hb2⟩ := hb
    by_cases hlt : m < 16
    · have HE := Lib.hid (hexRel_end HR.out (by omega))
      go_wp2
      go_ret
      exact ⟨ret_str HE.out, rfl⟩
    · have HE := Lib.hid (hexRel_step HR.out (by omega))
      go_wp2
      go_round
      case rel => exact ⟨m / 16, _, by go_num, rfl, HE.out⟩
      case measure => simp [intOf]; omega
end Go.Proofs.Ytlbebbkkpjgboaa
