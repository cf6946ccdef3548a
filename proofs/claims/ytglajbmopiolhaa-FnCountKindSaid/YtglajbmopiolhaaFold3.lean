/-
  Contracts of chapter 6's program: an entry is dropped; the text of a folder.
-/
import Derived.Test.YtglajbmopiolhaaFold
import Derived.Test.YtglajbmopiolhaaFoldMath
namespace Go.Proofs.Ytglajbmopiolhaa
open Go.RowKit
set_option linter.unusedVariables false
theorem nthE_succ (q : Ent) (l : List Ent) (k : Nat) : nthE (q :: l) (k + 1) = nthE l k := by unfold nthE; simp
theorem nthE_zero (q : Ent) (l : List Ent) : nthE (q :: l) 0 = q := rfl
theorem atE_before {p : ByteArray} : ∀ {l : List Ent} {j : Nat}, j < atE p l → ltN (nthE l j).1 p = true
  | [], j, h => by rw [atE] at h; omega
  | q :: l, j, h => by
    rw [atE] at h
    split at h
    · rename_i h1
      cases j with
      | zero => exact h1
      | succ j => rw [nthE_succ]; exact atE_before (by omega)
    · omega
theorem atE_there {p : ByteArray} : ∀ {l : List Ent}, atE p l < l.length → ltN (nthE l (atE p l)).1 p = false
  | [], h => by simp at h
  | q :: l, h => by
    rw [atE] at h ⊢
    split
    · rename_i h1
      rw [if_pos h1, List.length_cons] at h
      rw [nthE_succ]; exact atE_there (by omega)
    · rename_i h1; rw [nthE_zero]; simpa using h1
theorem lt_ne {a b : ByteArray} (h : ltN a b = true) : a ≠ b := fun e => by rw [e, ltN_irrefl] at h; cases h
theorem below_quietN {base : Nat} {w w1 w2 : World} (h : Below base w w1) (h2 : ∃ q, w2 = w1.drewN q) : Below base w w2 := by obtain ⟨q, rfl⟩ := h2; exact below_drewN h q
end Go.Proofs.Ytglajbmopiolhaa
