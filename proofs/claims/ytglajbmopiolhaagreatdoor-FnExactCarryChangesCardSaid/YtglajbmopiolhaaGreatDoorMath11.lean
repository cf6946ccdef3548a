/-
  Chapter 11, plain: which paths all files have.
-/
import Derived.Test.YtglajbmopiolhaaGreatDoorMath10b
import Derived.Test.YtglajbmopiolhaaGreatDoorMath10c
import Derived.Test.YtglajbmopiolhaaGreatDoorFiles11
import Derived.Test.YtglajbmopiolhaaGreatDoorDraw14
namespace Go.Proofs.YtglajbmopiolhaaGreatDoor
open Go.RowKit
set_option linter.unusedVariables false
theorem walk_words {l : List Pc} : ∀ {r : List ByteArray} {p : Int}, (walkB l p r).2 = true → ∀ s ∈ r, wordB s = true
  | [], _, _, s, hs => by cases hs
  | nm :: r, p, h, s, hs => by
    rw [walkB] at h
    cases hc : childB l p nm with
    | none => rw [hc] at h; cases h
    | some c =>
      rw [hc] at h
      rcases List.mem_cons.1 hs with rfl | hs
      · exact (ents_ok (fold_ents (s := getT l p)) _ (findE_mem hc)).1
      · exact walk_words h s hs
theorem files_iff {l : List Pc} : ∀ (d : Nat) (p : Int) (ps : List ByteArray) (q : ByteArray), q ∈ filesB l d p ps ↔ ∃ r : List ByteArray, r.length ≤ d ∧ ps ++ r ≠ [] ∧ q = pathB (ps ++ r) ∧ (walkB l p r).2 = true ∧ isFile (getT l (walkB l p r).1) = true := by
  have base : ∀ (d : Nat) (p : Int) (ps : List ByteArray) (q : ByteArray), isFile (getT l p) = true → 0 < ps.length → (q ∈ filesB l d p ps ↔ ∃ r : List ByteArray, r.length ≤ d ∧ ps ++ r ≠ [] ∧ q = pathB (ps ++ r) ∧ (walkB l p r).2 = true ∧ isFile (getT l (walkB l p r).1) = true) := by
    intro d p ps q hf h0
    rw [files_file hf h0, List.mem_singleton]
    have hw : walkB l p [] = (p, true) := by rw [walkB, if_pos (file_has hf)]
    constructor
    · intro e
      exact ⟨[], Nat.zero_le _, by rw [List.append_nil]; exact List.length_pos_iff.1 h0, by rw [List.append_nil]; exact e, by rw [hw], by rw [hw]; exact hf⟩
    · rintro ⟨r, _, _, hq, h4, _⟩
      cases r with
      | nil => rw [hq, List.append_nil]
      | cons nm r =>
        rw [walkB, childB, foldL_no (not_fold hf)] at h4
        cases h4
  intro d
  induction d with
  | zero =>
    intro p ps q
    by_cases hb : isFile (getT l p) = true ∧ 0 < ps.length
    · exact base 0 p ps q hb.1 hb.2
    rw [files_stop (by
      cases hf : isFile (getT l p)
      · exact .inl rfl
      · exact .inr fun h => hb ⟨hf, h⟩)]
    constructor
    · intro h; cases h
    · rintro ⟨r, h1, h2, _, h4, h5⟩
      obtain rfl : r = [] := List.eq_nil_of_length_eq_zero (by omega)
      rw [List.append_nil] at h2
      rw [walkB] at h4 h5
      split at h5
      · exact absurd ⟨h5, List.length_pos_iff.2 h2⟩ hb
      · rename_i hg; rw [if_neg hg] at h4; cases h4
  | succ d ih =>
    intro p ps q
    by_cases hb : isFile (getT l p) = true ∧ 0 < ps.length
    · exact base (d + 1) p ps q hb.1 hb.2
    rw [files_fold (by
      cases hf : isFile (getT l p)
      · exact .inl rfl
      · exact .inr fun h => hb ⟨hf, h⟩), List.mem_flatMap]
    constructor
    · rintro ⟨e, he, hq⟩
      obtain ⟨r, h1, h2, h3, h4, h5⟩ := (ih e.2 (ps ++ [e.1]) q).1 hq
      have hc : childB l p e.1 = some e.2 := findE_in (ascN_of fold_ents) he
      have hw : walkB l p (e.1 :: r) = walkB l e.2 r := by rw [walkB, hc]
      exact ⟨e.1 :: r, by rw [List.length_cons]; omega, by simp, by rw [h3, List.append_assoc]; rfl, by rw [hw]; exact h4, by rw [hw]; exact h5⟩
    · rintro ⟨r, h1, h2, h3, h4, h5⟩
      cases r with
      | nil =>
        rw [List.append_nil] at h2
        rw [walkB] at h4 h5
        split at h5
        · exact absurd ⟨h5, List.length_pos_iff.2 h2⟩ hb
        · rename_i hg; rw [if_neg hg] at h4; cases h4
      | cons nm r =>
        rw [walkB] at h4 h5
        cases hc : childB l p nm with
        | none => rw [hc] at h4; cases h4
        | some c =>
          rw [hc] at h4 h5
          refine ⟨(nm, c), findE_mem hc, (ih c (ps ++ [nm]) q).2 ⟨r, by rw [List.length_cons] at h1; omega, by simp, by rw [h3, List.append_assoc]; rfl, h4, h5⟩⟩
theorem path_words {l : List ByteArray} (hw : ∀ s ∈ l, wordB s = true) (h3 : l.length ≤ 3) : partsB (pathB l) = l ∧ isPath (pathB l) = true := by
  by_cases h0 : l = []
  · subst h0; exact parts_root
  refine join_parts fun e => ?_
  have hk : (l.all wordB && decide (l.length ≤ 3)) = true := by rw [List.all_eq_true.2 hw, decide_eq_true h3]; rfl
  have e2 : pathB l = slashed l := by unfold pathB; rw [if_neg h0, if_pos hk]
  rw [e2] at e
  cases l with
  | nil => exact h0 rfl
  | cons a l =>
    have := slashed_cons a l
    rw [e] at this
    cases this
/-- A path is among all files where a file is read at it, / aside. -/
theorem all_iff {l : List Pc} {root : Int} {path : ByteArray} : path ∈ allB l root ↔ (rdB l root path).2 = true ∧ partsB path ≠ [] := by
  unfold allB
  cases hs : storeB l
  · rw [if_neg (by simp)]
    constructor
    · intro h; cases h
    · rintro ⟨h, _⟩
      have := ((rd_facts l root path).1 h).1
      rw [wtB_no (.inr hs)] at this; cases this
  rw [if_pos rfl, files_iff]
  constructor
  · rintro ⟨r, h1, h2, h3, h4, h5⟩
    rw [List.nil_append] at h2 h3
    obtain ⟨e1, e2⟩ := path_words (walk_words h4) h1
    rw [h3, e1]
    refine ⟨?_, h2⟩
    unfold rdB
    rw [wtB_yes e2 hs, e1, if_pos h4, (got_yes _ hs).1]
    exact h5
  · rintro ⟨h, hne⟩
    have hp : isPath path = true := by
      cases hp : isPath path
      · have := ((rd_facts l root path).1 h).1
        rw [wtB_no (.inl hp)] at this; cases this
      · rfl
    refine ⟨partsB path, parts_small.1, hne, (path_back hp).symm, ?_, ?_⟩
    · have := ((rd_facts l root path).1 h).1
      rwa [wtB_yes hp hs] at this
    · unfold rdB at h
      split at h
      · rwa [wtB_yes hp hs, (got_yes _ hs).1] at h
      · cases h
theorem files_nodup {l : List Pc} : ∀ (d : Nat) (p : Int) (ps : List ByteArray), (∀ s ∈ ps, wordB s = true) → ps.length + d ≤ 3 → (filesB l d p ps).Nodup
  | 0, p, ps, hw, h3 => by
    rw [filesB]
    split
    · simp
    · simp
  | d + 1, p, ps, hw, h3 => by
    rw [filesB]
    split
    · simp
    unfold List.Nodup
    rw [List.pairwise_flatMap]
    have hE := fold_ents (s := getT l p)
    refine ⟨fun e he => files_nodup d e.2 (ps ++ [e.1]) (fun s hs => ?_) (by rw [List.length_append, List.length_singleton]; omega), ?_⟩
    · rcases List.mem_append.1 hs with h | h
      · exact hw s h
      · rw [List.mem_singleton.1 h]; exact (ents_ok hE e he).1
    · have hpw : (foldL (getT l p)).Pairwise fun a b => a ∈ foldL (getT l p) ∧ b ∈ foldL (getT l p) ∧ ltN a.1 b.1 = true := by
        rw [List.pairwise_iff_getElem]
        intro i j hi hj hij
        exact ⟨List.getElem_mem _, List.getElem_mem _, List.pairwise_iff_getElem.1 (ascN_of hE) i j hi hj hij⟩
      refine hpw.imp fun {a b} hab x hx y hy e => ?_
      obtain ⟨r1, a1, _, a3, a4, _⟩ := (files_iff d a.2 (ps ++ [a.1]) x).1 hx
      obtain ⟨r2, b1, _, b3, b4, _⟩ := (files_iff d b.2 (ps ++ [b.1]) y).1 hy
      have wa : ∀ s ∈ ps ++ [a.1] ++ r1, wordB s = true := fun s hs => by
        rcases List.mem_append.1 hs with h | h
        · rcases List.mem_append.1 h with h | h
          · exact hw s h
          · rw [List.mem_singleton.1 h]; exact (ents_ok hE a hab.1).1
        · exact walk_words a4 s h
      have wb : ∀ s ∈ ps ++ [b.1] ++ r2, wordB s = true := fun s hs => by
        rcases List.mem_append.1 hs with h | h
        · rcases List.mem_append.1 h with h | h
          · exact hw s h
          · rw [List.mem_singleton.1 h]; exact (ents_ok hE b hab.2.1).1
        · exact walk_words b4 s h
      have e1 := (path_words wa (by simp only [List.length_append, List.length_singleton]; omega)).1
      have e2 := (path_words wb (by simp only [List.length_append, List.length_singleton]; omega)).1
      rw [← a3, e, b3, e2] at e1
      rw [List.append_assoc, List.append_assoc] at e1
      have e3 := List.append_cancel_left e1
      have e4 : b.1 = a.1 := (List.cons.inj e3).1
      have h5 := hab.2.2
      rw [e4, ltN_irrefl] at h5; cases h5
theorem all_nodup (l : List Pc) (root : Int) : (allB l root).Nodup := by
  unfold allB
  split
  · exact files_nodup 3 root [] (fun s hs => by cases hs) (by simp)
  · simp
end Go.Proofs.YtglajbmopiolhaaGreatDoor
