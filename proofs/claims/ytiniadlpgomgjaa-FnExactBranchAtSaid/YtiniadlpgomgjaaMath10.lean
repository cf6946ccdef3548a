/-
  Chapter 10, plain: the roots that writes and drops lead to; two writes in either order; what was dropped, written again.
-/
import Derived.Test.YtiniadlpgomgjaaEnts
import Derived.Test.YtiniadlpgomgjaaEntries2
import Derived.Deep.CutRange
import Derived.Deep.CutBlock
import Derived.Test.YtiniadlpgomgjaaFold3
import Derived.Test.YtiniadlpgomgjaaFoldMath
namespace Go.Proofs.Ytiniadlpgomgjaa
open Go.RowKit
set_option linter.unusedVariables false
/-! ### entries whose names ascend -/
def AscN (l : List Ent) : Prop := l.Pairwise (fun a b => ltN a.1 b.1 = true)
theorem mem_less {l : List Ent} {nm : ByteArray} {q : Ent} : q ∈ lessE l nm ↔ q ∈ l ∧ q.1 ≠ nm := by
  unfold lessE otherE
  rw [List.mem_filter, str_beq]
  simp
theorem ascE_of {l : List Ent} (h : AscN l) : AscE l := by
  intro i j hij hj
  rw [nthE_get (by omega), nthE_get hj]
  exact List.pairwise_iff_getElem.1 h i j (by omega) hj hij
/-! ### stores that grow -/
def Grows (l l' : List Pc) : Prop := storeB l' = true ∧ ∀ q ∈ l, q ∈ l'
theorem Grows.refl {l : List Pc} (h : storeB l = true) : Grows l l := ⟨h, fun _ h => h⟩
theorem Grows.trans {a b c : List Pc} (h : Grows a b) (h' : Grows b c) : Grows a c := ⟨h'.1, fun q hq => h'.2 q (h.2 q hq)⟩
theorem in_get {l : List Pc} {p : Int} {t : ByteArray} (hs : storeB l = true) (h : (p, t) ∈ l) : getB l p = some t := by
  unfold getB
  have hp := (storeB_iff.1 hs).2.2
  have : l.find? (fun q => decide (q.1 = p)) = some (p, t) := by
    clear hs
    induction l with
    | nil => cases h
    | cons x l ih =>
      obtain ⟨h1, h2⟩ := List.pairwise_cons.1 hp
      rcases List.mem_cons.1 h with h3 | h3
      · subst h3; rw [List.find?_cons_of_pos]; simp
      · have := h1 _ h3
        rw [List.find?_cons_of_neg]
        · exact ih h3 h2
        · simp; simp at this; omega
  rw [this]; rfl
theorem get_in {l : List Pc} {p : Int} {t : ByteArray} (h : getB l p = some t) : (p, t) ∈ l := by
  unfold getB at h
  cases hf : l.find? fun q => decide (q.1 = p) with
  | none => rw [hf] at h; cases h
  | some q =>
    rw [hf] at h
    have h1 := List.mem_of_find?_eq_some hf
    have h2 := List.find?_some hf
    simp at h2
    obtain rfl : q.2 = t := by simpa using h
    rw [← h2]; exact h1
theorem Grows.get {l l' : List Pc} {p : Int} {t : ByteArray} (h : Grows l l') (hg : getB l p = some t) : getB l' p = some t := in_get h.1 (h.2 _ (get_in hg))
/-! ### what a write makes -/
/-! ### a drop, and a write back -/
theorem findE_in : ∀ {l : List Ent} {nm : ByteArray} {c : Int}, AscN l → (nm, c) ∈ l → findE l nm = some c
  | q :: l, nm, c, h, hm => by
    obtain ⟨h1, h2⟩ := List.pairwise_cons.1 h
    rw [findE]
    rcases List.mem_cons.1 hm with e | hm
    · subst e; rw [if_pos (by simp)]
    · rw [if_neg]
      · exact findE_in h2 hm
      · have := h1 _ hm
        rw [str_beq, decide_eq_true_eq]
        intro e
        rw [e, ltN_irrefl] at this; cases this
end Go.Proofs.Ytiniadlpgomgjaa
