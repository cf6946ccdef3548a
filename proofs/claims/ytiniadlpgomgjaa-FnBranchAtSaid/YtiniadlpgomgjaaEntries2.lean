/-
  Chapter 6's model: an entry is put.
-/
import Derived.Test.YtiniadlpgomgjaaEnts
import Derived.Test.YtiniadlpgomgjaaMem
import Derived.Test.YtiniadlpgomgjaaImpl4
import Derived.Deep.CutRange
import Derived.Deep.CutBlock
namespace Go.Proofs.Ytiniadlpgomgjaa
open Go.RowKit
set_option linter.unusedVariables false
/-- How many names lie ahead of a name. -/
def ltN (a b : ByteArray) : Bool := Op.bytesLess a.toList b.toList
def atE (p : ByteArray) : List Ent → Nat
  | [] => 0
  | q :: r => if ltN q.1 p = true then atE p r + 1 else 0
theorem atE_eq {p : ByteArray} : ∀ {l : List Ent} {k : Nat}, k ≤ l.length → (∀ j, j < k → ltN (nthE l j).1 p = true) → (k = l.length ∨ ltN (nthE l k).1 p = false) → atE p l = k
  | [], k, hk, h, h' => by simp at hk; subst hk; rfl
  | q :: r, 0, hk, h, h' => by
    rcases h' with h' | h'
    · simp at h'
    · have h1 : ltN q.1 p = false := h'
      rw [atE, if_neg (by rw [h1]; simp)]
  | q :: r, k + 1, hk, h, h' => by
    have h0 : ltN q.1 p = true := h 0 (by omega)
    rw [atE, if_pos h0, atE_eq (k := k) (by simpa using hk) (fun j hj => h (j + 1) (by omega)) (h'.imp (fun e => by simpa using e) (fun e => e))]
theorem atE_le (p : ByteArray) : ∀ l : List Ent, atE p l ≤ l.length
  | [] => Nat.le_refl _
  | q :: r => by
    rw [atE]; have := atE_le p r
    split
    · simpa using this
    · omega
/-- The entries with one put in. -/
def putInE (l : List Ent) (e : Ent) : List Ent :=
  l.take (atE e.1 l) ++ e :: l.drop (atE e.1 l + if (decide (atE e.1 l < l.length) && decide ((nthE l (atE e.1 l)).1 = e.1)) = true then 1 else 0)
theorem putInE_at {l : List Ent} {e : Ent} {k : Nat} (h : atE e.1 l = k) (hk : k < l.length) (he : (nthE l k).1 = e.1) : putInE l e = l.take k ++ e :: l.drop (k + 1) := by
  unfold putInE; rw [h, decide_eq_true hk, decide_eq_true he]; rfl
theorem putInE_other {l : List Ent} {e : Ent} {k : Nat} (h : atE e.1 l = k) (he : ¬ k < l.length ∨ (nthE l k).1 ≠ e.1) : putInE l e = l.take k ++ e :: l.drop k := by
  unfold putInE; rw [h]
  have : (decide (k < l.length) && decide ((nthE l k).1 = e.1)) = false := by
    rcases he with h1 | h1
    · rw [decide_eq_false h1]; rfl
    · rw [decide_eq_false h1, Bool.and_false]
  rw [this]; rfl
theorem nthE_all {l : List Ent} {m : Nat} : (∀ k, (nthE l k).1.size ≤ m) ↔ ∀ q ∈ l, q.1.size ≤ m := by
  constructor
  · intro h q hq
    obtain ⟨k, hk, rfl⟩ := List.mem_iff_getElem.1 hq
    have := h k; rwa [nthE_get hk] at this
  · intro h k
    by_cases hk : k < l.length
    · rw [nthE_get hk]; exact h _ (List.getElem_mem _)
    · unfold nthE; rw [List.getD_eq_getElem?_getD, List.getElem?_eq_none (by omega)]; simp
theorem put_sizes {l L : List Ent} {p : Ent} {m : Nat} (h : L = putInE l p) (hz : ∀ k, (nthE l k).1.size ≤ m) (hp : p.1.size ≤ m) : ∀ k, (nthE L k).1.size ≤ m := by
  subst h
  refine nthE_all.2 fun q hq => ?_
  unfold putInE at hq
  rcases List.mem_append.1 hq with h | h
  · exact nthE_all.1 hz q (List.mem_of_mem_take h)
  · rcases List.mem_cons.1 h with rfl | h
    · exact hp
    · exact nthE_all.1 hz q (List.mem_of_mem_drop h)
end Go.Proofs.Ytiniadlpgomgjaa
