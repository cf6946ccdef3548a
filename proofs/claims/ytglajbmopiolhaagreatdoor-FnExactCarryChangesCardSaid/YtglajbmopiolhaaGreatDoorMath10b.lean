/-
  Chapter 10, plain: what written and dropped roots hold, and that two writes lead to the same root in either order.
-/
import Derived.Test.YtglajbmopiolhaaGreatDoorMath10
import Derived.Test.YtglajbmopiolhaaGreatDoorLaw9
namespace Go.Proofs.YtglajbmopiolhaaGreatDoor
open Go.RowKit
set_option linter.unusedVariables false
theorem path_back {s : ByteArray} (h : isPath s = true) : pathB (partsB s) = s := by
  by_cases h1 : s = ⟨#[47]⟩
  · rw [h1]; rfl
  have h2 := h
  unfold isPath at h2
  rw [decide_eq_false h1, Bool.false_or, Bool.and_eq_true, decide_eq_true_eq, decide_eq_true_eq] at h2
  unfold partsB
  rw [if_neg h1, if_pos h, h2.2]
theorem file_folds {s : ByteArray} (h : contentB s = true) : isFile (fileB s) = true ∧ isFold (fileB s) = false ∧ fileT (fileB s) = s := by
  have h1 : (fileB s).data.toList = 102 :: s.data.toList := by rw [fileB_yes h]; simp
  have h2 : (fileB s).extract 1 (fileB s).size = s := by
    apply data_inj
    have e : (fileB s).size = s.data.toList.length + 1 := by rw [← len_eq, h1]; rfl
    rw [extract_list, h1, List.drop_succ_cons, List.drop_zero, List.take_of_length_le (by omega)]
  have h3 : isFile (fileB s) = true := by
    unfold isFile
    rw [h1, h2, h]; rfl
  exact ⟨h3, not_fold h3, by rw [fileT_yes h3, h2]⟩
/-- What a write that was possible made. -/
theorem write_made {l : List Pc} {root : Int} {path content : ByteArray} (h : (writeB l root path content).2.2 = true) :
    storeB l = true ∧ isPath path = true ∧ partsB path ≠ [] ∧ contentB content = true ∧ getO l root = true ∧ (writeB l root path content).2.1 = setP (printB (fileB content)) l root (partsB path)
    ∧ Grows l (writeB l root path content).1 ∧ Made (printB (fileB content)) l (writeB l root path content).1 root (partsB path)
    ∧ getB (writeB l root path content).1 (printB (fileB content)) = some (fileB content) ∧ 0 ≤ printB (fileB content) := by
  unfold writeB at h ⊢
  split at h
  · cases h
  rename_i h1
  rw [if_neg h1]
  split at h
  · cases h
  rename_i h2
  rw [if_neg h2]
  split at h
  · cases h
  rename_i h3
  rw [if_neg h3]
  split at h
  · cases h
  rename_i h4
  rw [if_neg h4]
  rw [Bool.not_eq_false] at h1 h2 h3 h4
  simp only [Bool.and_eq_true, Bool.not_eq_true', decide_eq_false_iff_not] at h1
  obtain ⟨i1, i2, i3⟩ := set_made h1.1.1.1 h3
  obtain ⟨g1, g2, g3, g4⟩ := put_grown h4
  exact ⟨h1.1.1.1, h1.1.1.2, h1.1.2, h1.2, h2, i1, i2.trans g1, i3 _ g1, g3, g4⟩
/-- What a drop that was possible made. -/
theorem drop_made {l : List Pc} {root : Int} {path : ByteArray} (h : (dropAtB l root path).2.2 = true) :
    storeB l = true ∧ isPath path = true ∧ partsB path ≠ [] ∧ (walkB l root (partsB path)).2 = true ∧ (dropB l root (partsB path)).2.2 = true
    ∧ Grows (dropB l root (partsB path)).1 (dropAtB l root path).1 ∧ entsAt (dropAtB l root path).1 (dropAtB l root path).2.1 = entsAt (dropAtB l root path).1 (dropB l root (partsB path)).2.1
    ∧ 0 ≤ (dropAtB l root path).2.1 := by
  unfold dropAtB at h ⊢
  split at h
  · cases h
  rename_i h1
  rw [if_neg h1]
  split at h
  · cases h
  rename_i h2
  rw [if_neg h2]
  rw [Bool.not_eq_false] at h1 h2
  simp only [Bool.and_eq_true, Bool.not_eq_true', decide_eq_false_iff_not] at h1
  split at h
  · rename_i h3
    rw [if_pos h3]
    rw [Bool.and_eq_true, decide_eq_true_eq] at h3
    split at h
    · cases h
    rename_i h4
    rw [if_neg h4]
    rw [Bool.not_eq_false] at h4
    obtain ⟨g1, g2, g3, g4⟩ := put_grown h4
    refine ⟨h1.1.1, h1.1.2, h1.2, h2, h3.1, g1, ?_, by rw [g2]; exact g4⟩
    show entsAt _ (putB (dropB l root (partsB path)).1 (folderB [])).2.1 = _
    rw [g2, ents_got g3 rfl g4]
    unfold entsAt
    rw [if_neg (by omega)]
  · rename_i h3
    rw [if_neg h3]
    split at h
    · cases h
    rename_i h4
    rw [if_neg h4]
    rw [Bool.not_eq_false] at h4
    obtain ⟨i1, _⟩ := drop_ok h1.1.1 h4
    refine ⟨h1.1.1, h1.1.2, h1.2, h2, h4, Grows.refl i1.1, rfl, ?_⟩
    rw [h4, Bool.true_and, decide_eq_true_eq] at h3
    show 0 ≤ (dropB l root (partsB path)).2.1
    omega
/-! ### reading what was written -/
theorem made_walk {leaf : Int} {l a : List Pc} : ∀ {ps : List ByteArray} {p : Int}, Made leaf l a p ps → walkB a (setP leaf l p ps) ps = if getO a leaf = true then (leaf, true) else (-1, false)
  | [], p, _ => rfl
  | nm :: r, p, m => by
    have k := ascN_of m.2.1
    have e : foldL (getT a (setP leaf l p (nm :: r))) = putInE (entsAt l p) (nm, setP leaf l (lastE nm (-1) (entsAt l p)) r) := by
      have := m.2.2.1
      unfold entsAt at this
      rwa [if_pos m.2.2.2.1] at this
    have hc : childB a (setP leaf l p (nm :: r)) nm = some (setP leaf l (lastE nm (-1) (entsAt l p)) r) := by
      unfold childB
      rw [e]
      exact findE_in k ((mem_putIn k).2 (.inl rfl))
    rw [walkB, hc]
    exact made_walk m.2.2.2.2.2
theorem write_read {l : List Pc} {root : Int} {path content : ByteArray} (h : (writeB l root path content).2.2 = true) : rdB (writeB l root path content).1 (writeB l root path content).2.1 path = (content, true) := by
  obtain ⟨hs, hp, hne, hc, _, w3, w4, w5, w6, _⟩ := write_made h
  have hw := made_walk w5
  have ho : getO (writeB l root path content).1 (printB (fileB content)) = true := by unfold getO; rw [w6]; rfl
  rw [if_pos ho, ← w3] at hw
  unfold rdB
  rw [wtB_yes hp w4.1, hw, if_pos rfl, (got_yes _ w4.1).1, getT_some w6, (file_folds hc).2.2, (file_folds hc).1]
/-! ### a dropped path leads nowhere -/
theorem findE_not {l : List Ent} {nm : ByteArray} (h : ∀ q ∈ l, q.1 ≠ nm) : findE l nm = none := by
  induction l with
  | nil => rfl
  | cons q l ih =>
    rw [findE, if_neg (by rw [str_beq, decide_eq_false (h q (List.mem_cons_self ..))]; simp)]
    exact ih fun x hx => h x (List.mem_cons_of_mem _ hx)
theorem foldL_at {l : List Pc} {p : Int} (h : 0 ≤ p) : entsAt l p = foldL (getT l p) := by unfold entsAt; rw [if_pos h]
theorem drop_gone {l x : List Pc} (hs : storeB l = true) : ∀ {ps : List ByteArray} {p P : Int}, (dropB l p ps).2.2 = true → Grows (dropB l p ps).1 x → 0 ≤ P → entsAt x P = entsAt x (dropB l p ps).2.1 → walkB x P ps = (-1, false)
  | [], p, P, h, _, _, _ => by cases h
  | nm :: r, p, P, h, gx, h0, hP => by
    have hE : entsB (foldL (getT l p)) = true := fold_ents
    rw [foldL_at h0] at hP
    rw [walkB, childB, hP]
    rw [dropB] at h gx ⊢
    split at h
    · cases h
    rename_i h1
    rw [if_neg h1] at gx ⊢
    have hm : (nm, lastE nm (-1) (foldL (getT l p))) ∈ foldL (getT l p) := by
      rcases lastE_or (foldL (getT l p)) nm (-1) with h4 | h4
      · omega
      · exact h4
    obtain ⟨E, hEq⟩ : ∃ E, foldL (getT l p) = E := ⟨_, rfl⟩
    rw [hEq] at h gx hE hm h1 ⊢
    obtain ⟨c, hc⟩ : ∃ c, lastE nm (-1) E = c := ⟨_, rfl⟩
    rw [hc] at h gx hm h1 ⊢
    split at h
    · rename_i h2
      rw [if_pos h2] at gx ⊢
      have hl : leftE E nm (-1) = lessE E nm := by unfold leftE; rw [if_neg (by omega), dropE_ok hE]
      rw [hl] at h gx ⊢
      rw [(end_ok hs (ents_less nm hE) h).2.2 x gx, findE_not fun q hq => (mem_less.1 hq).2]
    rename_i h2
    rw [if_neg h2] at gx ⊢
    split at h
    · cases h
    rename_i h3
    rw [if_neg h3] at gx ⊢
    rw [Bool.not_eq_false] at h3
    obtain ⟨i1, i2⟩ := drop_ok hs h3
    by_cases hl : 0 ≤ (dropB l c r).2.1
    · have h6 := put_over hE hm (i2.resolve_left (by omega))
      have e : leftE E nm (dropB l c r).2.1 = putInE E (nm, (dropB l c r).2.1) := by unfold leftE; rw [if_pos hl, putE_yes hE h6]
      rw [e] at h gx ⊢
      have ho := end_ok i1.1 h6 h
      rw [ho.2.2 x gx, findE_in (ascN_of h6) ((mem_putIn (ascN_of h6)).2 (.inl rfl))]
      exact drop_gone hs h3 (ho.1.trans gx) hl rfl
    · have e : leftE E nm (dropB l c r).2.1 = lessE E nm := by unfold leftE; rw [if_neg hl, dropE_ok hE]
      rw [e] at h gx ⊢
      have ho := end_ok i1.1 (ents_less nm hE) h
      rw [ho.2.2 x gx, findE_not fun q hq => (mem_less.1 hq).2]
theorem drop_nowhere {l : List Pc} {root : Int} {path : ByteArray} (h : (dropAtB l root path).2.2 = true) :
    storeB (dropAtB l root path).1 = true ∧ Grows l (dropAtB l root path).1 ∧ (wtB (dropAtB l root path).1 (dropAtB l root path).2.1 path).2 = false ∧ (dropAtB (dropAtB l root path).1 (dropAtB l root path).2.1 path).2.2 = false := by
  obtain ⟨hs, hp, hne, h2, h3, h4, h5, h6⟩ := drop_made h
  have hg := drop_gone hs h3 h4 h6 h5
  have hst := h4.1
  refine ⟨hst, (drop_ok hs h3).1.trans h4, by rw [wtB_yes hp hst, hg], ?_⟩
  obtain ⟨x, hx⟩ : ∃ x, (dropAtB l root path).1 = x := ⟨_, rfl⟩
  obtain ⟨P, hP⟩ : ∃ P, (dropAtB l root path).2.1 = P := ⟨_, rfl⟩
  rw [hx, hP] at hg ⊢
  rw [hx] at hst
  unfold dropAtB
  rw [hst, hp, decide_eq_false hne, hg]
  rfl
/-! ### what was there is there -/
end Go.Proofs.YtglajbmopiolhaaGreatDoor
