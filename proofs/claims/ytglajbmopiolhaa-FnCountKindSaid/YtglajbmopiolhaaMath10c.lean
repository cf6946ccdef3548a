/-
  Chapter 10, plain: a text and the folders on the way to it, put from below; that this is what the model's writes and drops make.
-/
import Derived.Test.YtglajbmopiolhaaMath10
namespace Go.Proofs.Ytglajbmopiolhaa
open Go.RowKit
set_option linter.unusedVariables false
/-! ### stores and their members -/
/-! ### the way of a path -/
theorem setTest_not {l : List Pc} {r : List ByteArray} {c : Int} : setTest l r c = (decide (r = []) && !(decide (c < 0) || isFile (getT l c))) := by
  unfold setTest
  by_cases hr : r = []
  · rw [decide_eq_true hr, Bool.true_and, Bool.true_and]
    by_cases hc : c < 0
    · rw [decide_eq_false (show ¬ 0 ≤ c by omega), decide_eq_true hc]; rfl
    · rw [decide_eq_true (show 0 ≤ c by omega), decide_eq_false hc, Bool.true_and, Bool.false_or]
      cases hf : isFile (getT l c)
      · have : ¬ kindB (getT l c) = 1 := by
          unfold kindB; rw [if_neg (by rw [hf]; simp)]
          split <;> decide
        rw [decide_eq_false this]; simp
      · have h1 : kindB (getT l c) = 1 := by unfold kindB; rw [if_pos hf]
        have h2 : getO l c = true := by
          unfold getO
          unfold getT at hf
          cases hg : getB l c with
          | none => rw [hg] at hf; cases hf
          | some t => rfl
        rw [h2, decide_eq_true h1]; rfl
  · rw [decide_eq_false hr]; rfl
/-! ### a text, and the folders on the way to it -/
/-! ### drops -/
theorem findE_mem : ∀ {l : List Ent} {nm : ByteArray} {c : Int}, findE l nm = some c → (nm, c) ∈ l
  | [], nm, c, h => by cases h
  | q :: l, nm, c, h => by
    rw [findE] at h
    split at h
    · rename_i h1
      rw [str_beq, decide_eq_true_eq] at h1
      simp only [Option.some.injEq] at h
      rw [← h1, ← h]
      exact List.mem_cons_self ..
    · exact List.mem_cons_of_mem _ (findE_mem h)
end Go.Proofs.Ytglajbmopiolhaa
