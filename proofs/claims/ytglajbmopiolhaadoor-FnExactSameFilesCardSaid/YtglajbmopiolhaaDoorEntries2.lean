/-
  Chapter 6's model: an entry is put.
-/
import Derived.Test.YtglajbmopiolhaaDoorEnts
import Derived.Test.YtglajbmopiolhaaDoorMem
import Derived.Test.YtglajbmopiolhaaDoorImpl4
import Derived.Deep.CutRange
import Derived.Deep.CutBlock
namespace Go.Proofs.YtglajbmopiolhaaDoor
open Go.RowKit
set_option linter.unusedVariables false
/-- How many names lie ahead of a name. -/
def ltN (a b : ByteArray) : Bool := Op.bytesLess a.toList b.toList
def atE (p : ByteArray) : List Ent → Nat
  | [] => 0
  | q :: r => if ltN q.1 p = true then atE p r + 1 else 0
theorem atE_eq {p : ByteArray} : ∀ {l : List Ent} {k : Nat}, k ≤ l.length → (∀ j, j < k → ltN (nthE l j).1 p = true) → (k = l.length ∨ ltN (nthE l k).1 p = false) → atE p l = k
  | [], k, hk, h, h' => by simp at hk; subst hk; rfl
  | q :: r, 0, hk, h, h' => by
    rcases h' with h' | h'
    · simp at h'
    · have h1 : ltN q.1 p = false := h'
      rw [atE, if_neg (by rw [h1]; simp)]
  | q :: r, k + 1, hk, h, h' => by
    have h0 : ltN q.1 p = true := h 0 (by omega)
    rw [atE, if_pos h0, atE_eq (k := k) (by simpa using hk) (fun j hj => h (j + 1) (by omega)) (h'.imp (fun e => by simpa using e) (fun e => e))]
theorem atE_le (p : ByteArray) : ∀ l : List Ent, atE p l ≤ l.length
  | [] => Nat.le_refl _
  | q :: r => by
    rw [atE]; have := atE_le p r
    split
    · simpa using this
    · omega
end Go.Proofs.YtglajbmopiolhaaDoor
