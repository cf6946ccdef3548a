/-
  Laws of stores: places, putting, getting, joining.
-/
import Derived.Test.YtlbebbkkpjgboaaPlain4
namespace Go.Proofs.Ytlbebbkkpjgboaa
open Go.RowKit
set_option linter.unusedVariables false
theorem atP_lt {p : Int} : ∀ {l : List Pc} {j : Nat}, j < atP p l → (nthP l j).1 < p
  | [], j, h => by simp [atP] at h
  | q :: r, j, h => by
    rw [atP] at h
    split at h
    · rename_i hq
      cases j with
      | zero => exact hq
      | succ j => exact atP_lt (l := r) (j := j) (by omega)
    · omega
theorem atP_ge {p : Int} : ∀ {l : List Pc}, atP p l < l.length → p ≤ (nthP l (atP p l)).1
  | [], h => by simp at h
  | q :: r, h => by
    rw [atP] at h ⊢
    by_cases hq : q.1 < p
    · rw [if_pos hq] at h ⊢
      exact atP_ge (l := r) (by simpa using h)
    · rw [if_neg hq]
      show p ≤ q.1
      omega
theorem hereP_iff {p : Int} {l : List Pc} : hereP p l = true ↔ atP p l < l.length ∧ (nthP l (atP p l)).1 = p := by unfold hereP; simp
theorem take_lt {p : Int} {l : List Pc} {q : Pc} (h : q ∈ l.take (atP p l)) : q.1 < p := by
  obtain ⟨j, hj, rfl⟩ := List.mem_iff_getElem.1 h
  rw [List.length_take] at hj
  rw [List.getElem_take, ← nthP_get (by omega)]
  exact atP_lt (by omega)
theorem drop_ge {p : Int} {l : List Pc} (hs : l.Pairwise fun a b => a.1 < b.1) {q : Pc} (h : q ∈ l.drop (atP p l)) : p ≤ q.1 := by
  obtain ⟨j, hj, rfl⟩ := List.mem_iff_getElem.1 h
  rw [List.length_drop] at hj
  rw [List.getElem_drop]
  have h1 := atP_ge (p := p) (l := l) (by omega)
  rcases Nat.eq_zero_or_pos j with rfl | h0
  · rw [nthP_get (by omega)] at h1; simpa using h1
  · rw [nthP_get (by omega)] at h1
    have := List.pairwise_iff_getElem.1 hs (atP p l) (atP p l + j) (by omega) (by omega) (by omega)
    omega
theorem drop_gt {p : Int} {l : List Pc} (hs : l.Pairwise fun a b => a.1 < b.1) (hh : hereP p l = false) {q : Pc} (h : q ∈ l.drop (atP p l)) : p < q.1 := by
  have hne : ∀ (h : atP p l < l.length), (nthP l (atP p l)).1 ≠ p := fun h he => by rw [hereP_iff.2 ⟨h, he⟩] at hh; cases hh
  obtain ⟨j, hj, rfl⟩ := List.mem_iff_getElem.1 h
  rw [List.length_drop] at hj
  rw [List.getElem_drop]
  have h1 := atP_ge (p := p) (l := l) (by omega)
  have h2 := hne (by omega)
  rw [nthP_get (by omega)] at h1 h2
  rcases Nat.eq_zero_or_pos j with rfl | h0
  · simp only [Nat.add_zero]; omega
  · have := List.pairwise_iff_getElem.1 hs (atP p l) (atP p l + j) (by omega) (by omega) (by omega)
    omega
/-- A piece that is right and not there, put in its place, leaves a store. -/
theorem store_in {l : List Pc} {p : Pc} (h : storeB l = true) (hp : okPc p = true) (hh : hereP p.1 l = false) (hl : l.length ≠ 40) : storeB (l.take (atP p.1 l) ++ p :: l.drop (atP p.1 l)) = true := by
  obtain ⟨h1, h2, h3⟩ := storeB_iff.1 h
  have hat := atP_le p.1 l
  refine storeB_iff.2 ⟨by simp; omega, fun q hq => ?_, ?_⟩
  · rcases List.mem_append.1 hq with h | h
    · exact h2 q (List.mem_of_mem_take h)
    · rcases List.mem_cons.1 h with rfl | h
      · exact hp
      · exact h2 q (List.mem_of_mem_drop h)
  · refine List.pairwise_append.2 ⟨h3.sublist (List.take_sublist _ _), List.pairwise_cons.2 ⟨fun q hq => drop_gt h3 hh hq, h3.sublist (List.drop_sublist _ _)⟩, fun a ha b hb => ?_⟩
    have h4 := take_lt ha
    rcases List.mem_cons.1 hb with rfl | hb
    · exact h4
    · have := drop_gt h3 hh hb; omega
theorem put_store {l : List Pc} {t : ByteArray} (h : storeB l = true) (ht : textB t = true) : storeB (putB l t).1 = true := by
  unfold putB
  rw [if_neg (by rw [h]; simp)]
  split
  · exact h
  split
  · split <;> exact h
  split
  · exact h
  · rename_i h1 h2 h3
    exact store_in (p := (printB t, t)) h (okPc_iff.2 ⟨ht, rfl⟩) (by simpa using h2) h3
/-! ### getting -/
theorem getB_here {l : List Pc} {p : Int} (h : hereP p l = true) : getB l p = some (nthP l (atP p l)).2 := by
  obtain ⟨h1, h2⟩ := hereP_iff.1 h
  exact getB_some h1 (fun j hj => by have := atP_lt hj; omega) h2
theorem getB_gone {l : List Pc} {p : Int} (hs : l.Pairwise fun a b => a.1 < b.1) (h : hereP p l = false) : getB l p = none := by
  refine getB_none fun j hj => ?_
  rcases Nat.lt_or_ge j (atP p l) with h1 | h1
  · have := atP_lt h1; omega
  · have := drop_gt hs h (q := nthP l j) (by
      rw [nthP_get hj]
      exact List.mem_iff_getElem.2 ⟨j - atP p l, by rw [List.length_drop]; omega, by rw [List.getElem_drop]; congr 1; omega⟩)
    omega
/-! ### putting a piece -/
/-- A piece is put into a store: what there is then, and whether it is in. -/
def putP (l : List Pc) (p : Pc) : List Pc × Bool :=
  if hereP p.1 l = true then (l, decide ((nthP l (atP p.1 l)).2 = p.2)) else if l.length = 40 then (l, false) else (l.take (atP p.1 l) ++ p :: l.drop (atP p.1 l), true)
theorem putP_here {l : List Pc} {p : Pc} (h : hereP p.1 l = true) : putP l p = (l, decide ((nthP l (atP p.1 l)).2 = p.2)) := by unfold putP; rw [if_pos h]
theorem putP_full {l : List Pc} {p : Pc} (h : hereP p.1 l = false) (h' : l.length = 40) : putP l p = (l, false) := by unfold putP; rw [if_neg (by rw [h]; simp), if_pos h']
theorem putP_new {l : List Pc} {p : Pc} (h : hereP p.1 l = false) (h' : l.length ≠ 40) : putP l p = (l.take (atP p.1 l) ++ p :: l.drop (atP p.1 l), true) := by unfold putP; rw [if_neg (by rw [h]; simp), if_neg h']
theorem putB_of {l : List Pc} {t : ByteArray} (h : storeB l = true) (h1 : 0 ≤ printB t) : putB l t = ((putP l (printB t, t)).1, (if (putP l (printB t, t)).2 = true then printB t else -1), (putP l (printB t, t)).2) := by
  cases hh : hereP (printB t) l
  · by_cases h4 : l.length = 40
    · rw [putP_full (p := (printB t, t)) hh h4, putB_full h (by omega) hh h4]; rfl
    · rw [putP_new (p := (printB t, t)) hh h4, putB_new h (by omega) rfl hh h4]; rfl
  · rw [putP_here (p := (printB t, t)) hh]
    by_cases h5 : (nthP l (atP (printB t) l)).2 = t
    · rw [putB_there h (by omega) rfl hh h5]; simp [h5]
    · rw [putB_other h (by omega) rfl hh h5]; simp [h5]
end Go.Proofs.Ytlbebbkkpjgboaa
