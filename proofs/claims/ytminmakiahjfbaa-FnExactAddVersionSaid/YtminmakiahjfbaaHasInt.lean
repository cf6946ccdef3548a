/-
  Whether a list has a number (the laws' own).
-/
import Derived.Test.YtminmakiahjfbaaHelp
namespace Go.Proofs.Ytminmakiahjfbaa
open Go.RowKit
set_option linter.unusedVariables false
theorem not_mem_of {ys : List Int} {v : Int} (h : ∀ i, i < ys.length → nthI ys i ≠ v) : v ∉ ys := fun hv => by
  obtain ⟨j, hj, e⟩ := List.mem_iff_getElem.1 hv
  exact h j hj (by rw [nthI_get hj]; exact e)
theorem hasInt_any (x : Option Addr) (n cap : Nat) (l : List Int) (v : Int) (B : Nat) (w : World) (h : Ints w B x n cap l) :
    Calls Try.prog 28 #[.slice x n cap, .int .i64 v] w fun e w' => e = .returned (.bool (decide (v ∈ l))) ∧ w = w' := by
  have HH := Lib.hid h; have HLEN := Lib.hid h.len
  have hmx := h.max
  have hle := h.le
  unfold maxLen at hmx
  clear h
  go_enter Try.func28, Try.ntmps28
  go_wp2
  go_loop [5] (fun i => ∃ k : Nat, k ≤ n ∧ i = .int .i64 k ∧ ∀ j, j < k → nthI l j ≠ v) (fun i => n - (intOf i).toNat)
  case atStart => exact ⟨0, by omega, rfl, fun j hj => by omega⟩
  case round =>
    obtain ⟨k, hk, rfl, ha⟩ := hrel
    have HA := Lib.hid ha; clear ha
    by_cases hlt : k < n
    · have hkl : k < l.length := by have := HLEN.out; omega
      obtain ⟨b, off, rfl, hb, hc⟩ := HH.out.at hlt
      by_cases he : nthI l k = v
      · have hd : (nthI l k == v) = true := by simpa using he
        have HF := Lib.hid (show decide (v ∈ l) = true from decide_eq_true (by rw [← he, nthI_get hkl]; exact List.getElem_mem _))
        clear he
        go_wp2
        go_ret
        exact ⟨ret_bool HF.out.symm, rfl⟩
      · have hd : (nthI l k == v) = false := by simpa using he
        have HE := Lib.hid he
        clear he
        go_wp2
        go_round
        case rel => exact ⟨k + 1, by omega, by go_num, fun j hj => by rcases Nat.lt_succ_iff_lt_or_eq.1 hj with h | rfl; exact HA.out j h; exact HE.out⟩
        case measure => simp [intOf]; omega
    · have HF := Lib.hid (show decide (v ∈ l) = false from decide_eq_false (not_mem_of fun i hi => HA.out i (by have := HLEN.out; omega)))
      go_wp2
      go_ret
      exact ⟨ret_bool HF.out.symm, rfl⟩
end Go.Proofs.Ytminmakiahjfbaa
