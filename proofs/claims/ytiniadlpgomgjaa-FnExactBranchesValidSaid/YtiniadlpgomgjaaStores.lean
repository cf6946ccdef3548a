/-
  Plain functions of chapter 4 (stores), and their laws.
-/
import Derived.Test.YtiniadlpgomgjaaArgs
import Derived.Test.YtiniadlpgomgjaaPrints
namespace Go.Proofs.Ytiniadlpgomgjaa
open Go.RowKit
set_option linter.unusedVariables false
def okPc (p : Pc) : Bool := textB p.2 && decide (printB p.2 = p.1)
/-- The piece k stands right. -/
def okAt (l : List Pc) (k : Nat) : Bool := okPc (nthP l k) && (decide (k = 0) || decide ((nthP l (k - 1)).1 < (nthP l k).1))
def storeB (l : List Pc) : Bool := decide (l.length ≤ 40) && (List.range l.length).all (okAt l)
theorem okAt_yes {l : List Pc} {k : Nat} (h1 : textB (nthP l k).2 = true) (h2 : printB (nthP l k).2 = (nthP l k).1) (h3 : k = 0 ∨ (nthP l (k - 1)).1 < (nthP l k).1) : okAt l k = true := by
  unfold okAt okPc; simp only [h1, h2, decide_true, Bool.and_self, Bool.true_and, Bool.or_eq_true, decide_eq_true_eq]; exact h3
theorem storeB_end {l : List Pc} (h : ∀ j, j < l.length → okAt l j = true) : storeB l = decide (l.length ≤ 40) := by
  unfold storeB
  have : (List.range l.length).all (okAt l) = true := List.all_eq_true.2 fun j hj => h j (List.mem_range.1 hj)
  rw [this, Bool.and_true]
theorem storeB_at {l : List Pc} (h : storeB l = true) : l.length ≤ 40 ∧ ∀ j, j < l.length → okAt l j = true := by
  unfold storeB at h
  simp only [Bool.and_eq_true, decide_eq_true_eq, List.all_eq_true, List.mem_range] at h
  exact h
theorem okPc_iff {p : Pc} : okPc p = true ↔ textB p.2 = true ∧ printB p.2 = p.1 := by unfold okPc; simp
theorem nthP_mem {l : List Pc} {k : Nat} (h : k < l.length) : nthP l k ∈ l := by rw [nthP_get h]; exact List.getElem_mem _
theorem storeB_iff {l : List Pc} : storeB l = true ↔ l.length ≤ 40 ∧ (∀ p ∈ l, okPc p = true) ∧ l.Pairwise (fun a b => a.1 < b.1) := by
  constructor
  · intro h
    obtain ⟨h1, h2⟩ := storeB_at h
    refine ⟨h1, fun p hp => ?_, List.pairwise_iff_getElem.2 fun i j hi hj hij => ?_⟩
    · obtain ⟨k, hk, rfl⟩ := List.mem_iff_getElem.1 hp
      have := h2 k hk
      unfold okAt at this
      rw [Bool.and_eq_true] at this
      rw [← nthP_get hk]; exact this.1
    · rw [← nthP_get hi, ← nthP_get hj]
      have step : ∀ j, j < l.length → j ≠ 0 → (nthP l (j - 1)).1 < (nthP l j).1 := fun j hj h0 => by
        have := h2 j hj
        unfold okAt at this
        simp only [Bool.and_eq_true, Bool.or_eq_true, decide_eq_true_eq] at this
        rcases this.2 with h | h
        · exact absurd h h0
        · exact h
      have all : ∀ d, ∀ j, j < l.length → j = i + 1 + d → (nthP l i).1 < (nthP l j).1 := by
        intro d
        induction d with
        | zero => intro j hj e; have := step j hj (by omega); rwa [show j - 1 = i by omega] at this
        | succ d ih => intro j hj e; have h1 := ih (j - 1) (by omega) (by omega); have h2 := step j hj (by omega); omega
      exact all (j - i - 1) j hj (by omega)
  · rintro ⟨h1, h2, h3⟩
    rw [storeB_end, decide_eq_true_eq]
    · exact h1
    · intro j hj
      have hp := okPc_iff.1 (h2 _ (nthP_mem hj))
      refine okAt_yes hp.1 hp.2 ?_
      by_cases h0 : j = 0
      · exact .inl h0
      · right
        rw [nthP_get (show j - 1 < l.length by omega), nthP_get hj]
        exact List.pairwise_iff_getElem.1 h3 (j - 1) j (by omega) hj (by omega)
/-! ### looking a print up -/
def getB (l : List Pc) (p : Int) : Option ByteArray := (l.find? fun q => decide (q.1 = p)).map (·.2)
/-! ### putting a text -/
end Go.Proofs.Ytiniadlpgomgjaa
/-
  Contracts of chapter 4's model: stores.
-/
namespace Go.Proofs.Ytiniadlpgomgjaa
open Go.RowKit
set_option linter.unusedVariables false
end Go.Proofs.Ytiniadlpgomgjaa
/-
  Laws of stores: places, putting, getting, joining.
-/
namespace Go.Proofs.Ytiniadlpgomgjaa
open Go.RowKit
set_option linter.unusedVariables false
/-! ### getting -/
/-! ### putting a piece -/
end Go.Proofs.Ytiniadlpgomgjaa
