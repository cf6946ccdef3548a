/-
  Contracts of chapter 3: chunks.
-/
import Derived.Test.YtlbebbkkpjgboaaPlain3
import Derived.Test.YtlbebbkkpjgboaaLst
import Derived.Test.YtlbebbkkpjgboaaHelp
import Derived.Test.YtlbebbkkpjgboaaPrints
namespace Go.Proofs.Ytlbebbkkpjgboaa
open Go.RowKit
set_option linter.unusedVariables false
/-- The last byte of a chunk tells whether it is whole. -/
def wholeB (t : ByteArray) (h : t.size - 1 < t.size) : Bool := whole t[t.size - 1] t.size
theorem wholeB_eq (t : ByteArray) (h : t.size - 1 < t.size) : wholeB t h = whole t[t.size - 1] t.size := rfl
/-- A part of a text that ends behind its byte k. -/
theorem whole_part (s : ByteArray) (b k : Nat) (hb : b ≤ k) (hk : k < s.size) (h : (s.extract b (k + 1)).size - 1 < (s.extract b (k + 1)).size) : wholeB (s.extract b (k + 1)) h = whole s[k] (k - b + 1) := by
  have hz : (s.extract b (k + 1)).size = k - b + 1 := by rw [ByteArray.size_extract]; omega
  unfold wholeB
  rw [ByteArray.getElem_extract]
  congr 1
  congr 1
  omega
theorem part_size (s : ByteArray) (b k : Nat) (hb : b ≤ k) (hk : k < s.size) : (s.extract b (k + 1)).size = k - b + 1 := by rw [ByteArray.size_extract]; omega
end Go.Proofs.Ytlbebbkkpjgboaa
