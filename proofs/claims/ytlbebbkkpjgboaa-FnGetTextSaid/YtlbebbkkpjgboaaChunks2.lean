/-
  Contracts of chapter 3: the chunks themselves, and their prints.
-/
import Derived.Test.YtlbebbkkpjgboaaChunks
import Derived.Test.YtlbebbkkpjgboaaShelf
namespace Go.Proofs.Ytlbebbkkpjgboaa
open Go.RowKit
set_option linter.unusedVariables false
theorem clone_any (s : ByteArray) (w : World) (hs : s.size ≤ 1000000) : Calls Try.prog 35 #[.string s] w fun e w' => e = .returned (.string s) ∧ Below w.heap.size w w' := by
  go_enter Try.func35, Try.ntmps35
  go_wp2_with (go_at_call 56; refine (Try.stringslite_Clone s _ (by omega)).mono ?_; rintro e w' ⟨rfl, hb⟩; have HB := Lib.hid hb; clear hb)
  go_ret
  exact ⟨rfl, HB.out⟩
/-- Where a chunk lies, as numbers. -/
theorem ends_nat {s : ByteArray} {k : Nat} (hk : k < (endsB s).length) : ∃ a b : Nat, fromI (endsB s) k = a ∧ nthI (endsB s) k = b ∧ a < b ∧ b ≤ s.size ∧ (chunksB s).take (k + 1) = (chunksB s).take k ++ [s.extract a b] ∧ s.size ≤ 60 := by
  obtain ⟨h1, h2, h3⟩ := ends_at hk
  have h4 := chunks_snoc hk
  unfold nthI
  refine ⟨_, _, (Int.toNat_of_nonneg h1).symm, (Int.toNat_of_nonneg (by omega)).symm, by omega, by omega, h4, ?_⟩
  cases ht : textB s
  · rw [endsB_no ht] at hk; simp at hk
  · exact textB_bd' ht
theorem chunks_count (s : ByteArray) : (chunksB s).length ≤ 60 := by rw [chunks_len]; exact endsB_len s
end Go.Proofs.Ytlbebbkkpjgboaa
