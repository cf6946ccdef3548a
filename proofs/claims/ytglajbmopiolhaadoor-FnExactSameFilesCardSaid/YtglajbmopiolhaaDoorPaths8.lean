/-
  Chapter 8's model: a path below another one; joined words are divided again.
-/
import Derived.Test.YtglajbmopiolhaaDoorDrop
import Derived.Test.YtglajbmopiolhaaDoorFoldMath
namespace Go.Proofs.YtglajbmopiolhaaDoor
open Go.RowKit
set_option linter.unusedVariables false
/-! ### joined words are divided again -/
theorem nthS_last (out : List ByteArray) (p : ByteArray) : nthS (out ++ [p]) ((out ++ [p]).length - 1) = p := by
  unfold nthS
  rw [List.getD_eq_getElem?_getD, List.length_append, List.length_singleton, Nat.add_sub_cancel, List.getElem?_append_right (Nat.le_refl _)]
  simp
theorem slashed_cons (s : ByteArray) (l : List ByteArray) : (slashed (s :: l)).data.toList = 47 :: (s.data.toList ++ (slashed l).data.toList) := by
  unfold slashed
  rw [List.map_cons, joinB_cons, slashB]
  simp
theorem path_size (l : List ByteArray) (h : ∀ s ∈ l, s.size ≤ 9) (hl : l.length ≤ 4) : (pathB l).size ≤ 1000 := by
  unfold pathB
  split
  · decide
  split
  · have key : ∀ (l : List ByteArray), (∀ s ∈ l, s.size ≤ 9) → (slashed l).data.toList.length ≤ 10 * l.length := by
      intro l
      induction l with
      | nil => intro _; decide
      | cons s l ih =>
        intro h
        rw [slashed_cons]
        have h1 := h s (List.mem_cons_self ..)
        have h2 := ih fun q hq => h q (List.mem_cons_of_mem _ hq)
        have h3 : s.data.toList.length = s.size := by simp
        simp only [List.length_cons, List.length_append]
        omega
    have := key l h
    have h3 : (slashed l).data.toList.length = (slashed l).size := by simp
    omega
  · decide
end Go.Proofs.YtglajbmopiolhaaDoor
