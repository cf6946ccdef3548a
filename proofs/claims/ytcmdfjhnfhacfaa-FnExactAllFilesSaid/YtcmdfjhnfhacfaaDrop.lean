/-
  Chapter 10's model: a name is dropped.
-/
import Derived.Test.YtcmdfjhnfhacfaaSet
import Derived.Deep.CutBlock
namespace Go.Proofs.Ytcmdfjhnfhacfaa
open Go.RowKit
set_option linter.unusedVariables false
end Go.Proofs.Ytcmdfjhnfhacfaa
/-
  Chapter 10's model: writing and dropping at a path.
-/
namespace Go.Proofs.Ytcmdfjhnfhacfaa
open Go.RowKit
set_option linter.unusedVariables false
theorem nthS_all {l : List ByteArray} {m : Nat} (h : ∀ q ∈ l, q.size ≤ m) (k : Nat) : (nthS l k).size ≤ m := by
  by_cases hk : k < l.length
  · rw [nthS_get hk]; exact h _ (List.getElem_mem _)
  · unfold nthS; rw [List.getD_eq_getElem?_getD, List.getElem?_eq_none (by omega)]; simp
/-- The words of a path are few and short. -/
theorem parts_small {s : ByteArray} : (partsB s).length ≤ 3 ∧ ∀ k, (nthS (partsB s) k).size ≤ 8 := by
  unfold partsB
  split
  · exact ⟨by simp, fun k => by simp [nthS]⟩
  · split
    · rename_i h0 h1
      unfold isPath at h1
      rw [decide_eq_false h0, Bool.false_or, Bool.and_eq_true, decide_eq_true_eq, decide_eq_true_eq] at h1
      have h2 := h1.2
      unfold pathB at h2
      split at h2
      · rename_i h3; rw [h3]; exact ⟨by simp, fun k => by simp [nthS]⟩
      · split at h2
        · rename_i h4
          simp only [Bool.and_eq_true, decide_eq_true_eq] at h4
          exact ⟨h4.2, nthS_all fun q hq => word_size (List.all_eq_true.1 h4.1 q hq)⟩
        · rw [← h2] at h1; exact absurd h1.1 (by decide)
    · exact ⟨by simp, fun k => by simp [nthS]⟩
section
variable {ops : Array Oper} {rest : List Oper} {o : Oper} {a : Act} {Q : Exit → Act → World → Prop}
variable {t e : TypeId} {size : Nat} {z : Value} {w : World}
end
end Go.Proofs.Ytcmdfjhnfhacfaa
/-
  Chapter 10's model: dropping at a path.
-/
namespace Go.Proofs.Ytcmdfjhnfhacfaa
open Go.RowKit
set_option linter.unusedVariables false
end Go.Proofs.Ytcmdfjhnfhacfaa
