/-
  Chapter 8's model: a path below another one; joined words are divided again.
-/
import Derived.Test.YtglajbmopiolhaaGreatDoorDrop
import Derived.Test.YtglajbmopiolhaaGreatDoorFoldMath
namespace Go.Proofs.YtglajbmopiolhaaGreatDoor
open Go.RowKit
set_option linter.unusedVariables false
/-! ### joined words are divided again -/
theorem nthS_last (out : List ByteArray) (p : ByteArray) : nthS (out ++ [p]) ((out ++ [p]).length - 1) = p := by
  unfold nthS
  rw [List.getD_eq_getElem?_getD, List.length_append, List.length_singleton, Nat.add_sub_cancel, List.getElem?_append_right (Nat.le_refl _)]
  simp
theorem word_go : ∀ (c : List UInt8) (out : List ByteArray) (p : ByteArray) (r : List UInt8), (∀ x ∈ c, x ≠ 47) → splitGo (out ++ [p]) (c ++ r) = splitGo (out ++ [⟨p.data ++ c.toArray⟩]) r
  | [], out, p, r, h => by simp
  | x :: c, out, p, r, h => by
    rw [List.cons_append, splitGo, if_neg (h x (List.mem_cons_self ..)), if_neg (by simp), nthS_last]
    have e : (out ++ [p]).set ((out ++ [p]).length - 1) (p ++ ⟨#[x]⟩) = out ++ [p ++ ⟨#[x]⟩] := by
      rw [List.length_append, List.length_singleton, Nat.add_sub_cancel, List.set_append_right _ _ (Nat.le_refl _)]
      simp
    rw [e, word_go c out _ r fun y hy => h y (List.mem_cons_of_mem _ hy)]
    congr 3
    have : (p ++ (ByteArray.mk #[x])).data = p.data ++ #[x] := by simp
    rw [this, Array.append_assoc]
    simp
theorem slashed_cons (s : ByteArray) (l : List ByteArray) : (slashed (s :: l)).data.toList = 47 :: (s.data.toList ++ (slashed l).data.toList) := by
  unfold slashed
  rw [List.map_cons, joinB_cons, slashB]
  simp
theorem slashed_go : ∀ (l out : List ByteArray), (∀ s ∈ l, ∀ x ∈ s.data.toList, x ≠ 47) → splitGo out (slashed l).data.toList = out ++ l
  | [], out, h => by show splitGo out [] = out ++ []; rw [splitGo, List.append_nil]
  | s :: l, out, h => by
    rw [slashed_cons, splitGo, if_pos rfl, word_go _ _ _ _ (h s (List.mem_cons_self ..)), slashed_go l _ fun q hq => h q (List.mem_cons_of_mem _ hq)]
    have : (ByteArray.mk (ByteArray.empty.data ++ s.data.toList.toArray)) = s := by cases s; simp
    rw [this]
    simp
theorem word47 {s : ByteArray} (h : wordB s = true) : ∀ x ∈ s.data.toList, x ≠ 47 := fun x hx e => by
  have := wtail_of (word_all h hx)
  rw [e] at this
  revert this; decide
theorem join_parts {l : List ByteArray} (h : pathB l ≠ ByteArray.empty) : partsB (pathB l) = l ∧ isPath (pathB l) = true := by
  by_cases h0 : l = []
  · subst h0; exact parts_root
  have hl : (l.all wordB && decide (l.length ≤ 3)) = true := by
    unfold pathB at h
    rw [if_neg h0] at h
    by_cases hx : (l.all wordB && decide (l.length ≤ 3)) = true
    · exact hx
    · rw [if_neg hx] at h; exact absurd rfl h
  have e : pathB l = slashed l := by unfold pathB; rw [if_neg h0, if_pos hl]
  rw [Bool.and_eq_true, List.all_eq_true] at hl
  have hsp : splitB (slashed l) = l := by
    have := slashed_go l [] fun s hs => word47 (hl.1 s hs)
    exact this
  have hne : pathB l ≠ ⟨#[47]⟩ := fun e2 => by
    rw [e] at e2
    rw [e2] at hsp
    have h1 : splitB ⟨#[47]⟩ = [ByteArray.empty] := by decide +kernel
    rw [h1] at hsp
    have := hl.1 ByteArray.empty (by rw [← hsp]; simp)
    revert this; decide
  have hp : 0 < (pathB l).size := by
    rcases Nat.eq_zero_or_pos (pathB l).size with h1 | h1
    · exact absurd (by cases hq : pathB l with | mk d => rw [hq] at h1; show ByteArray.mk d = ⟨#[]⟩; congr 1; exact Array.eq_empty_of_size_eq_zero h1) h
    · exact h1
  have := parts_yes (s := pathB l) hne hp (by rw [e, hsp, e])
  rw [this.1, this.2]
  exact ⟨by rw [e, hsp], rfl⟩
theorem path_size (l : List ByteArray) (h : ∀ s ∈ l, s.size ≤ 9) (hl : l.length ≤ 4) : (pathB l).size ≤ 1000 := by
  unfold pathB
  split
  · decide
  split
  · have key : ∀ (l : List ByteArray), (∀ s ∈ l, s.size ≤ 9) → (slashed l).data.toList.length ≤ 10 * l.length := by
      intro l
      induction l with
      | nil => intro _; decide
      | cons s l ih =>
        intro h
        rw [slashed_cons]
        have h1 := h s (List.mem_cons_self ..)
        have h2 := ih fun q hq => h q (List.mem_cons_of_mem _ hq)
        have h3 : s.data.toList.length = s.size := by simp
        simp only [List.length_cons, List.length_append]
        omega
    have := key l h
    have h3 : (slashed l).data.toList.length = (slashed l).size := by simp
    omega
  · decide
end Go.Proofs.YtglajbmopiolhaaGreatDoor
