/-
  Chapter 10, plain: the roots that writes and drops lead to; two writes in either order; what was dropped, written again.
-/
import Derived.Test.YtojebghaegimbaaGreatDoorDrop
import Derived.Test.YtojebghaegimbaaGreatDoorFold3
import Derived.Test.YtojebghaegimbaaGreatDoorFoldMath
import Derived.Test.YtojebghaegimbaaGreatDoorWalks9
namespace Go.Proofs.YtojebghaegimbaaGreatDoor
open Go.RowKit
set_option linter.unusedVariables false
/-! ### entries whose names ascend -/
def AscN (l : List Ent) : Prop := l.Pairwise (fun a b => ltN a.1 b.1 = true)
theorem ascN_of {l : List Ent} (h : entsB l = true) : AscN l := by
  unfold AscN; rw [List.pairwise_iff_getElem]; intro i j hi hj hij
  have := ents_asc h i j hij hj
  rwa [nthE_get hi, nthE_get hj] at this
theorem lastE_none : ∀ {l : List Ent} {nm : ByteArray} {d : Int}, (∀ q ∈ l, q.1 ≠ nm) → lastE nm d l = d
  | [], _, _, _ => rfl
  | q :: l, nm, d, h => by
    rw [lastE, if_neg (by rw [str_beq, decide_eq_false (h q (List.mem_cons_self ..))]; simp)]
    exact lastE_none fun x hx => h x (List.mem_cons_of_mem _ hx)
theorem lastE_in : ∀ {l : List Ent} {nm : ByteArray} {c d : Int}, AscN l → (nm, c) ∈ l → lastE nm d l = c
  | q :: l, nm, c, d, h, hm => by
    obtain ⟨h1, h2⟩ := List.pairwise_cons.1 h
    rw [lastE]
    rcases List.mem_cons.1 hm with e | hm
    · subst e
      rw [if_pos (by simp)]
      exact lastE_none fun x hx e => by have := h1 _ hx; rw [e, ltN_irrefl] at this; cases this
    · exact lastE_in h2 hm
theorem mem_less {l : List Ent} {nm : ByteArray} {q : Ent} : q ∈ lessE l nm ↔ q ∈ l ∧ q.1 ≠ nm := by
  unfold lessE otherE
  rw [List.mem_filter, str_beq]
  simp
/-! ### stores that grow -/
def Grows (l l' : List Pc) : Prop := storeB l' = true ∧ ∀ q ∈ l, q ∈ l'
theorem Grows.refl {l : List Pc} (h : storeB l = true) : Grows l l := ⟨h, fun _ h => h⟩
theorem Grows.trans {a b c : List Pc} (h : Grows a b) (h' : Grows b c) : Grows a c := ⟨h'.1, fun q hq => h'.2 q (h.2 q hq)⟩
theorem in_get {l : List Pc} {p : Int} {t : ByteArray} (hs : storeB l = true) (h : (p, t) ∈ l) : getB l p = some t := by
  unfold getB
  have hp := (storeB_iff.1 hs).2.2
  have : l.find? (fun q => decide (q.1 = p)) = some (p, t) := by
    clear hs
    induction l with
    | nil => cases h
    | cons x l ih =>
      obtain ⟨h1, h2⟩ := List.pairwise_cons.1 hp
      rcases List.mem_cons.1 h with h3 | h3
      · subst h3; rw [List.find?_cons_of_pos]; simp
      · have := h1 _ h3
        rw [List.find?_cons_of_neg]
        · exact ih h3 h2
        · simp; simp at this; omega
  rw [this]; rfl
theorem get_in {l : List Pc} {p : Int} {t : ByteArray} (h : getB l p = some t) : (p, t) ∈ l := by
  unfold getB at h
  cases hf : l.find? fun q => decide (q.1 = p) with
  | none => rw [hf] at h; cases h
  | some q =>
    rw [hf] at h
    have h1 := List.mem_of_find?_eq_some hf
    have h2 := List.find?_some hf
    simp at h2
    obtain rfl : q.2 = t := by simpa using h
    rw [← h2]; exact h1
theorem get_right {l : List Pc} {p : Int} {t : ByteArray} (hs : storeB l = true) (h : getB l p = some t) : textB t = true ∧ printB t = p ∧ 0 ≤ p := by
  have h1 := okPc_iff.1 ((storeB_iff.1 hs).2.1 _ (get_in h))
  exact ⟨h1.1, h1.2, by have := printB_ge h1.1; rw [h1.2] at this; exact this⟩
theorem Grows.get {l l' : List Pc} {p : Int} {t : ByteArray} (h : Grows l l') (hg : getB l p = some t) : getB l' p = some t := in_get h.1 (h.2 _ (get_in hg))
theorem getT_some {l : List Pc} {p : Int} {t : ByteArray} (h : getB l p = some t) : getT l p = t := by unfold getT; rw [h]; rfl
theorem fold_get {l : List Pc} {p : Int} (h : isFold (getT l p) = true) : getB l p = some (getT l p) := by
  unfold getT at h ⊢
  cases hg : getB l p with
  | none => rw [hg] at h; cases h
  | some t => rfl
/-! ### what a write makes -/
/-! ### a drop, and a write back -/
theorem findE_in : ∀ {l : List Ent} {nm : ByteArray} {c : Int}, AscN l → (nm, c) ∈ l → findE l nm = some c
  | q :: l, nm, c, h, hm => by
    obtain ⟨h1, h2⟩ := List.pairwise_cons.1 h
    rw [findE]
    rcases List.mem_cons.1 hm with e | hm
    · subst e; rw [if_pos (by simp)]
    · rw [if_neg]
      · exact findE_in h2 hm
      · have := h1 _ hm
        rw [str_beq, decide_eq_true_eq]
        intro e
        rw [e, ltN_irrefl] at this; cases this
end Go.Proofs.YtojebghaegimbaaGreatDoor
