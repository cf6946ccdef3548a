/-
  Chapter 10, plain: a text and the folders on the way to it, put from below; that this is what the model's writes and drops make.
-/
import Derived.Test.YtcmdfjhnfhacfaaMath10
namespace Go.Proofs.Ytcmdfjhnfhacfaa
open Go.RowKit
set_option linter.unusedVariables false
/-! ### stores and their members -/
/-! ### the way of a path -/
/-! ### a text, and the folders on the way to it -/
/-! ### drops -/
theorem findE_mem : ∀ {l : List Ent} {nm : ByteArray} {c : Int}, findE l nm = some c → (nm, c) ∈ l
  | [], nm, c, h => by cases h
  | q :: l, nm, c, h => by
    rw [findE] at h
    split at h
    · rename_i h1
      rw [str_beq, decide_eq_true_eq] at h1
      simp only [Option.some.injEq] at h
      rw [← h1, ← h]
      exact List.mem_cons_self ..
    · exact List.mem_cons_of_mem _ (findE_mem h)
end Go.Proofs.Ytcmdfjhnfhacfaa
