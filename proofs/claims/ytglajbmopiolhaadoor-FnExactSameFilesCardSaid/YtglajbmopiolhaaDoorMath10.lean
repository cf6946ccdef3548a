/-
  Chapter 10, plain: the roots that writes and drops lead to; two writes in either order; what was dropped, written again.
-/
import Derived.Test.YtglajbmopiolhaaDoorDrop
import Derived.Test.YtglajbmopiolhaaDoorFold3
import Derived.Test.YtglajbmopiolhaaDoorFoldMath
import Derived.Test.YtglajbmopiolhaaDoorWalks9
namespace Go.Proofs.YtglajbmopiolhaaDoor
open Go.RowKit
set_option linter.unusedVariables false
/-! ### entries whose names ascend -/
/-! ### stores that grow -/
def Grows (l l' : List Pc) : Prop := storeB l' = true ∧ ∀ q ∈ l, q ∈ l'
theorem Grows.refl {l : List Pc} (h : storeB l = true) : Grows l l := ⟨h, fun _ h => h⟩
theorem Grows.trans {a b c : List Pc} (h : Grows a b) (h' : Grows b c) : Grows a c := ⟨h'.1, fun q hq => h'.2 q (h.2 q hq)⟩
theorem in_get {l : List Pc} {p : Int} {t : ByteArray} (hs : storeB l = true) (h : (p, t) ∈ l) : getB l p = some t := by
  unfold getB
  have hp := (storeB_iff.1 hs).2.2
  have : l.find? (fun q => decide (q.1 = p)) = some (p, t) := by
    clear hs
    induction l with
    | nil => cases h
    | cons x l ih =>
      obtain ⟨h1, h2⟩ := List.pairwise_cons.1 hp
      rcases List.mem_cons.1 h with h3 | h3
      · subst h3; rw [List.find?_cons_of_pos]; simp
      · have := h1 _ h3
        rw [List.find?_cons_of_neg]
        · exact ih h3 h2
        · simp; simp at this; omega
  rw [this]; rfl
theorem get_in {l : List Pc} {p : Int} {t : ByteArray} (h : getB l p = some t) : (p, t) ∈ l := by
  unfold getB at h
  cases hf : l.find? fun q => decide (q.1 = p) with
  | none => rw [hf] at h; cases h
  | some q =>
    rw [hf] at h
    have h1 := List.mem_of_find?_eq_some hf
    have h2 := List.find?_some hf
    simp at h2
    obtain rfl : q.2 = t := by simpa using h
    rw [← h2]; exact h1
theorem Grows.get {l l' : List Pc} {p : Int} {t : ByteArray} (h : Grows l l') (hg : getB l p = some t) : getB l' p = some t := in_get h.1 (h.2 _ (get_in hg))
/-! ### what a write makes -/
/-! ### a drop, and a write back -/
end Go.Proofs.YtglajbmopiolhaaDoor
