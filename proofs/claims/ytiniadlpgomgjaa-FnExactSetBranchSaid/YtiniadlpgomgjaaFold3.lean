/-
  Contracts of chapter 6's program: an entry is dropped; the text of a folder.
-/
import Derived.Test.YtiniadlpgomgjaaFold2
import Derived.Test.YtiniadlpgomgjaaFoldMath
namespace Go.Proofs.Ytiniadlpgomgjaa
open Go.RowKit
set_option linter.unusedVariables false
theorem nthE_succ (q : Ent) (l : List Ent) (k : Nat) : nthE (q :: l) (k + 1) = nthE l k := by unfold nthE; simp
theorem nthE_zero (q : Ent) (l : List Ent) : nthE (q :: l) 0 = q := rfl
theorem atE_before {p : ByteArray} : ∀ {l : List Ent} {j : Nat}, j < atE p l → ltN (nthE l j).1 p = true
  | [], j, h => by rw [atE] at h; omega
  | q :: l, j, h => by
    rw [atE] at h
    split at h
    · rename_i h1
      cases j with
      | zero => exact h1
      | succ j => rw [nthE_succ]; exact atE_before (by omega)
    · omega
theorem atE_there {p : ByteArray} : ∀ {l : List Ent}, atE p l < l.length → ltN (nthE l (atE p l)).1 p = false
  | [], h => by simp at h
  | q :: l, h => by
    rw [atE] at h ⊢
    split
    · rename_i h1
      rw [if_pos h1, List.length_cons] at h
      rw [nthE_succ]; exact atE_there (by omega)
    · rename_i h1; rw [nthE_zero]; simpa using h1
theorem lt_ne {a b : ByteArray} (h : ltN a b = true) : a ≠ b := fun e => by rw [e, ltN_irrefl] at h; cases h
theorem otherE_of {nm : ByteArray} {q : Ent} (h : q.1 ≠ nm) : otherE nm q = true := by unfold otherE; rw [str_beq, decide_eq_false h]; rfl
theorem lessE_found {l : List Ent} {nm : ByteArray} {k : Nat} (hs : AscE l) (hk : k < l.length) (hn : (nthE l k).1 = nm) : lessE l nm = l.take k ++ l.drop (k + 1) := by
  have e : l = l.take k ++ nthE l k :: l.drop (k + 1) := by rw [nthE_get hk, ← List.drop_eq_getElem_cons hk, List.take_append_drop]
  unfold lessE
  conv => lhs; rw [e]
  rw [List.filter_append, List.filter_cons, if_neg (by unfold otherE; rw [hn]; simp), List.filter_eq_self.2, List.filter_eq_self.2]
  · intro q hq
    obtain ⟨j, hj, rfl⟩ := List.mem_iff_getElem.1 hq
    rw [List.length_drop] at hj
    rw [List.getElem_drop, ← nthE_get (by omega)]
    exact otherE_of (fun h => lt_ne (hs k (k + 1 + j) (by omega) (by omega)) (by rw [hn, h]))
  · intro q hq
    obtain ⟨j, hj, rfl⟩ := List.mem_iff_getElem.1 hq
    rw [List.length_take] at hj
    rw [List.getElem_take, ← nthE_get (by omega)]
    exact otherE_of (fun h => lt_ne (hs j k (by omega) hk) (by rw [hn, h]))
theorem lessE_none {l : List Ent} {nm : ByteArray} (hs : AscE l) (h : hereE nm l = false) : lessE l nm = l := by
  refine List.filter_eq_self.2 fun q hq => ?_
  obtain ⟨j, hj, rfl⟩ := List.mem_iff_getElem.1 hq
  rw [← nthE_get hj]
  refine otherE_of fun e => ?_
  rcases Nat.lt_or_ge j (atE nm l) with h1 | h1
  · exact lt_ne (atE_before h1) e
  · have hk : atE nm l < l.length := by omega
    have h2 := atE_there hk
    unfold hereE at h
    rw [decide_eq_true hk, Bool.true_and, decide_eq_false_iff_not] at h
    have h3 : ltN nm (nthE l (atE nm l)).1 = true := by
      cases h4 : ltN nm (nthE l (atE nm l)).1
      · exact absurd (ltN_conn h2 h4) h
      · rfl
    rcases Nat.lt_or_eq_of_le h1 with h5 | h5
    · exact lt_ne (ltN_trans h3 (hs _ _ h5 hj)) e.symm
    · rw [← h5] at e; exact h e
theorem below_quietN {base : Nat} {w w1 w2 : World} (h : Below base w w1) (h2 : ∃ q, w2 = w1.drewN q) : Below base w w2 := by obtain ⟨q, rfl⟩ := h2; exact below_drewN h q
end Go.Proofs.Ytiniadlpgomgjaa
