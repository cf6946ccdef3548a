/-
  Chapter 13, plain: the order of files, when two roots have the same, and how many changes there are.
-/
import Derived.Test.YtglajbmopiolhaaMath13c
import Derived.Test.YtglajbmopiolhaaModel11
namespace Go.Proofs.Ytglajbmopiolhaa
open Go.RowKit
set_option linter.unusedVariables false
/-! ### the order of files -/
/-! ### the same files -/
/-! ### how many -/
def countK (cs : List Ent) (k : Int) : Nat := (cs.filter fun q => decide (q.2 = k)).length
theorem count_add (a b : List Ent) (k : Int) : countK (a ++ b) k = countK a k + countK b k := by unfold countK; rw [List.filter_append, List.length_append]
theorem count_all : ∀ {cs : List Ent}, (∀ q ∈ cs, q.2 = 0 ∨ q.2 = 1 ∨ q.2 = 2) → countK cs 0 + countK cs 1 + countK cs 2 = cs.length
  | [], _ => rfl
  | q :: cs, h => by
    have ih := count_all fun r hr => h r (List.mem_cons_of_mem _ hr)
    have e : ∀ k, countK (q :: cs) k = (if q.2 = k then 1 else 0) + countK cs k := fun k => by
      unfold countK
      rw [List.filter_cons]
      by_cases hk : q.2 = k
      · rw [if_pos (by simpa using hk), if_pos hk, List.length_cons]; omega
      · rw [if_neg (by simpa using hk), if_neg hk]; omega
    rw [e, e, e, List.length_cons]
    rcases h q (List.mem_cons_self ..) with h1 | h1 | h1 <;> rw [h1] <;> simp <;> omega
theorem chg_kinds (l : List Pc) (a b : Int) : ∀ q ∈ chgB l a b, q.2 = 0 ∨ q.2 = 1 ∨ q.2 = 2 := fun q hq => by
  unfold chgB at hq
  rcases List.mem_append.1 hq with hq | hq
  · unfold goneC at hq
    obtain ⟨s, _, rfl⟩ := List.mem_map.1 hq
    exact .inr (.inr rfl)
  · unfold newC at hq
    obtain ⟨s, _, rfl⟩ := List.mem_map.1 hq
    unfold newK
    dsimp only
    split
    · exact .inr (.inl rfl)
    · exact .inl rfl
theorem countK_le (cs : List Ent) (k : Int) : countK cs k ≤ cs.length := List.length_filter_le _ _
end Go.Proofs.Ytglajbmopiolhaa
