/-
  Chapter 11, plain: which paths all files have.
-/
import Derived.Test.YtcmdfjhnfhacfaaMath10
import Derived.Test.YtcmdfjhnfhacfaaDraw14
import Derived.Test.YtcmdfjhnfhacfaaImpl7
import Derived.Test.YtcmdfjhnfhacfaaImpl9
import Derived.Test.YtcmdfjhnfhacfaaMath10c
import Derived.Test.YtcmdfjhnfhacfaaFiles11
namespace Go.Proofs.Ytcmdfjhnfhacfaa
open Go.RowKit
set_option linter.unusedVariables false
theorem walk_words {l : List Pc} : ∀ {r : List ByteArray} {p : Int}, (walkB l p r).2 = true → ∀ s ∈ r, wordB s = true
  | [], _, _, s, hs => by cases hs
  | nm :: r, p, h, s, hs => by
    rw [walkB] at h
    cases hc : childB l p nm with
    | none => rw [hc] at h; cases h
    | some c =>
      rw [hc] at h
      rcases List.mem_cons.1 hs with rfl | hs
      · exact (ents_ok (fold_ents (s := getT l p)) _ (findE_mem hc)).1
      · exact walk_words h s hs
theorem files_iff {l : List Pc} : ∀ (d : Nat) (p : Int) (ps : List ByteArray) (q : ByteArray), q ∈ filesB l d p ps ↔ ∃ r : List ByteArray, r.length ≤ d ∧ ps ++ r ≠ [] ∧ q = pathB (ps ++ r) ∧ (walkB l p r).2 = true ∧ isFile (getT l (walkB l p r).1) = true := by
  have base : ∀ (d : Nat) (p : Int) (ps : List ByteArray) (q : ByteArray), isFile (getT l p) = true → 0 < ps.length → (q ∈ filesB l d p ps ↔ ∃ r : List ByteArray, r.length ≤ d ∧ ps ++ r ≠ [] ∧ q = pathB (ps ++ r) ∧ (walkB l p r).2 = true ∧ isFile (getT l (walkB l p r).1) = true) := by
    intro d p ps q hf h0
    rw [files_file hf h0, List.mem_singleton]
    have hw : walkB l p [] = (p, true) := by rw [walkB, if_pos (file_has hf)]
    constructor
    · intro e
      exact ⟨[], Nat.zero_le _, by rw [List.append_nil]; exact List.length_pos_iff.1 h0, by rw [List.append_nil]; exact e, by rw [hw], by rw [hw]; exact hf⟩
    · rintro ⟨r, _, _, hq, h4, _⟩
      cases r with
      | nil => rw [hq, List.append_nil]
      | cons nm r =>
        rw [walkB, childB, foldL_no (not_fold hf)] at h4
        cases h4
  intro d
  induction d with
  | zero =>
    intro p ps q
    by_cases hb : isFile (getT l p) = true ∧ 0 < ps.length
    · exact base 0 p ps q hb.1 hb.2
    rw [files_stop (by
      cases hf : isFile (getT l p)
      · exact .inl rfl
      · exact .inr fun h => hb ⟨hf, h⟩)]
    constructor
    · intro h; cases h
    · rintro ⟨r, h1, h2, _, h4, h5⟩
      obtain rfl : r = [] := List.eq_nil_of_length_eq_zero (by omega)
      rw [List.append_nil] at h2
      rw [walkB] at h4 h5
      split at h5
      · exact absurd ⟨h5, List.length_pos_iff.2 h2⟩ hb
      · rename_i hg; rw [if_neg hg] at h4; cases h4
  | succ d ih =>
    intro p ps q
    by_cases hb : isFile (getT l p) = true ∧ 0 < ps.length
    · exact base (d + 1) p ps q hb.1 hb.2
    rw [files_fold (by
      cases hf : isFile (getT l p)
      · exact .inl rfl
      · exact .inr fun h => hb ⟨hf, h⟩), List.mem_flatMap]
    constructor
    · rintro ⟨e, he, hq⟩
      obtain ⟨r, h1, h2, h3, h4, h5⟩ := (ih e.2 (ps ++ [e.1]) q).1 hq
      have hc : childB l p e.1 = some e.2 := findE_in (ascN_of fold_ents) he
      have hw : walkB l p (e.1 :: r) = walkB l e.2 r := by rw [walkB, hc]
      exact ⟨e.1 :: r, by rw [List.length_cons]; omega, by simp, by rw [h3, List.append_assoc]; rfl, by rw [hw]; exact h4, by rw [hw]; exact h5⟩
    · rintro ⟨r, h1, h2, h3, h4, h5⟩
      cases r with
      | nil =>
        rw [List.append_nil] at h2
        rw [walkB] at h4 h5
        split at h5
        · exact absurd ⟨h5, List.length_pos_iff.2 h2⟩ hb
        · rename_i hg; rw [if_neg hg] at h4; cases h4
      | cons nm r =>
        rw [walkB] at h4 h5
        cases hc : childB l p nm with
        | none => rw [hc] at h4; cases h4
        | some c =>
          rw [hc] at h4 h5
          refine ⟨(nm, c), findE_mem hc, (ih c (ps ++ [nm]) q).2 ⟨r, by rw [List.length_cons] at h1; omega, by simp, by rw [h3, List.append_assoc]; rfl, h4, h5⟩⟩
theorem path_words {l : List ByteArray} (hw : ∀ s ∈ l, wordB s = true) (h3 : l.length ≤ 3) : partsB (pathB l) = l ∧ isPath (pathB l) = true := by
  by_cases h0 : l = []
  · subst h0; exact parts_root
  refine join_parts fun e => ?_
  have hk : (l.all wordB && decide (l.length ≤ 3)) = true := by rw [List.all_eq_true.2 hw, decide_eq_true h3]; rfl
  have e2 : pathB l = slashed l := by unfold pathB; rw [if_neg h0, if_pos hk]
  rw [e2] at e
  cases l with
  | nil => exact h0 rfl
  | cons a l =>
    have := slashed_cons a l
    rw [e] at this
    cases this
end Go.Proofs.Ytcmdfjhnfhacfaa
