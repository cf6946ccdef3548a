/-
  Chapter 4, plain: what stands in a store; a text put again.
-/
import Derived.Test.YtlbebbkkpjgboaaImpl4e
namespace Go.Proofs.Ytlbebbkkpjgboaa
open Go.RowKit
set_option linter.unusedVariables false
theorem store_lt {l : List Pc} (h : storeB l = true) {i j : Nat} (hj : j < l.length) (hij : i < j) : (nthP l i).1 < (nthP l j).1 := by
  have h3 := (storeB_iff.1 h).2.2
  rw [nthP_get (show i < l.length by omega), nthP_get hj]
  exact List.pairwise_iff_getElem.1 h3 i j (by omega) hj hij
theorem mem_at {l : List Pc} {q : Pc} (hq : q ∈ l) : ∃ k, k < l.length ∧ nthP l k = q := by
  obtain ⟨k, hk, e⟩ := List.mem_iff_getElem.1 hq
  exact ⟨k, hk, by rw [nthP_get hk]; exact e⟩
/-- What stands in a store can be got. -/
theorem got_mem {l : List Pc} {q : Pc} (h : storeB l = true) (hq : q ∈ l) : gotT l q.1 = q.2 ∧ gotO l q.1 = true := by
  obtain ⟨k, hk, rfl⟩ := mem_at hq
  have hg := getB_some (p := (nthP l k).1) hk (fun j hj => by have := store_lt h hk hj; omega) rfl
  obtain ⟨e1, e2⟩ := got_yes (nthP l k).1 h
  rw [e1, e2]
  unfold getT getO
  rw [hg]
  exact ⟨rfl, rfl⟩
/-- What can be got stands in the store. -/
theorem got_in {l : List Pc} {p : Int} (h : gotO l p = true) : storeB l = true ∧ (p, gotT l p) ∈ l := by
  unfold gotO at h
  rw [Bool.and_eq_true] at h
  refine ⟨h.1, ?_⟩
  rw [(got_yes p h.1).1]
  have h2 := h.2
  unfold getO getB at h2
  unfold getT getB
  rw [Option.isSome_map] at h2
  obtain ⟨q, hq⟩ := Option.isSome_iff_exists.1 h2
  rw [hq]
  have h3 := List.find?_some hq
  simp only [decide_eq_true_eq] at h3
  have h4 := List.mem_of_find?_eq_some hq
  subst h3
  exact h4
/-- A text that stands there changes nothing. -/
theorem put_again {l : List Pc} {t : ByteArray} (h : storeB l = true) (hm : (printB t, t) ∈ l) (h0 : ¬ printB t < 0) : putB l t = (l, printB t, true) := by
  obtain ⟨k, hk, e⟩ := mem_at hm
  have ha : atP (printB t) l = k := atP_eq (Nat.le_of_lt hk) (fun j hj => by have := store_lt h hk hj; rw [e] at this; exact this) (.inr (by rw [e]; exact Int.lt_irrefl _))
  exact putB_there h h0 ha (hereP_yes ha hk (by rw [e])) (by rw [e])
theorem put_no {l : List Pc} {t : ByteArray} (h : (putB l t).2.2 = false) : (putB l t).2.1 = -1 ∧ ((putB l t).1 = l ∨ (putB l t).1 = []) := by
  cases hs : storeB l
  · rw [putB_bad hs]; exact ⟨rfl, .inr rfl⟩
  by_cases h1 : printB t < 0
  · rw [putB_text hs h1]; exact ⟨rfl, .inl rfl⟩
  cases hh : hereP (printB t) l
  · by_cases h4 : l.length = 40
    · rw [putB_full hs h1 hh h4]; exact ⟨rfl, .inl rfl⟩
    · rw [putB_new hs h1 rfl hh h4] at h; cases h
  · by_cases h3 : (nthP l (atP (printB t) l)).2 = t
    · rw [putB_there hs h1 rfl hh h3] at h; cases h
    · rw [putB_other hs h1 rfl hh h3]; exact ⟨rfl, .inl rfl⟩
theorem text_of_print {t : ByteArray} (h : ¬ printB t < 0) : textB t = true := by
  cases ht : textB t
  · rw [printB_none ht] at h; omega
  · rfl
theorem put_yes {l : List Pc} {t : ByteArray} (h : (putB l t).2.2 = true) : storeB l = true ∧ textB t = true ∧ (putB l t).2.1 = printB t ∧ storeB (putB l t).1 = true ∧ (printB t, t) ∈ (putB l t).1 ∧ (∀ q ∈ l, q ∈ (putB l t).1) ∧ (putB l t).1.length ≤ l.length + 1 ∧ putB (putB l t).1 t = ((putB l t).1, printB t, true) := by
  cases hs : storeB l
  · rw [putB_bad hs] at h; cases h
  by_cases h1 : printB t < 0
  · rw [putB_text hs h1] at h; cases h
  have ht := text_of_print h1
  have hst := put_store hs ht
  cases hh : hereP (printB t) l
  · by_cases h4 : l.length = 40
    · rw [putB_full hs h1 hh h4] at h; cases h
    · have e := putB_new hs h1 rfl hh h4
      have hm : (printB t, t) ∈ (putB l t).1 := by rw [e]; simp
      refine ⟨rfl, ht, by rw [e], hst, hm, fun q hq => ?_, by rw [e]; simp; omega, put_again hst hm h1⟩
      rw [e]
      have hq' : q ∈ l.take (atP (printB t) l) ++ l.drop (atP (printB t) l) := by rw [List.take_append_drop]; exact hq
      rcases List.mem_append.1 hq' with h5 | h5
      · exact List.mem_append_left _ h5
      · exact List.mem_append_right _ (List.mem_cons_of_mem _ h5)
  · obtain ⟨ha, hp⟩ := hereP_iff.1 hh
    by_cases h3 : (nthP l (atP (printB t) l)).2 = t
    · have e := putB_there hs h1 rfl hh h3
      have hm : (printB t, t) ∈ (putB l t).1 := by
        rw [e]
        have := nthP_mem ha
        have e2 : nthP l (atP (printB t) l) = (printB t, t) := Prod.ext hp h3
        rwa [e2] at this
      exact ⟨rfl, ht, by rw [e], hst, hm, fun q hq => by rw [e]; exact hq, by rw [e]; simp, put_again hst hm h1⟩
    · rw [putB_other hs h1 rfl hh h3] at h; cases h
end Go.Proofs.Ytlbebbkkpjgboaa
