/-
  Chapter 10, plain: what written and dropped roots hold, and that two writes lead to the same root in either order.
-/
import Derived.Test.YtbbjpihlielpgaaGreatDoorMath10
import Derived.Test.YtbbjpihlielpgaaGreatDoorLaw9
namespace Go.Proofs.YtbbjpihlielpgaaGreatDoor
open Go.RowKit
set_option linter.unusedVariables false
theorem path_back {s : ByteArray} (h : isPath s = true) : pathB (partsB s) = s := by
  by_cases h1 : s = ⟨#[47]⟩
  · rw [h1]; rfl
  have h2 := h
  unfold isPath at h2
  rw [decide_eq_false h1, Bool.false_or, Bool.and_eq_true, decide_eq_true_eq, decide_eq_true_eq] at h2
  unfold partsB
  rw [if_neg h1, if_pos h, h2.2]
theorem file_folds {s : ByteArray} (h : contentB s = true) : isFile (fileB s) = true ∧ isFold (fileB s) = false ∧ fileT (fileB s) = s := by
  have h1 : (fileB s).data.toList = 102 :: s.data.toList := by rw [fileB_yes h]; simp
  have h2 : (fileB s).extract 1 (fileB s).size = s := by
    apply data_inj
    have e : (fileB s).size = s.data.toList.length + 1 := by rw [← len_eq, h1]; rfl
    rw [extract_list, h1, List.drop_succ_cons, List.drop_zero, List.take_of_length_le (by omega)]
  have h3 : isFile (fileB s) = true := by
    unfold isFile
    rw [h1, h2, h]; rfl
  exact ⟨h3, not_fold h3, by rw [fileT_yes h3, h2]⟩
/-- What a write that was possible made. -/
theorem write_made {l : List Pc} {root : Int} {path content : ByteArray} (h : (writeB l root path content).2.2 = true) :
    storeB l = true ∧ isPath path = true ∧ partsB path ≠ [] ∧ contentB content = true ∧ getO l root = true ∧ (writeB l root path content).2.1 = setP (printB (fileB content)) l root (partsB path)
    ∧ Grows l (writeB l root path content).1 ∧ Made (printB (fileB content)) l (writeB l root path content).1 root (partsB path)
    ∧ getB (writeB l root path content).1 (printB (fileB content)) = some (fileB content) ∧ 0 ≤ printB (fileB content) := by
  unfold writeB at h ⊢
  split at h
  · cases h
  rename_i h1
  rw [if_neg h1]
  split at h
  · cases h
  rename_i h2
  rw [if_neg h2]
  split at h
  · cases h
  rename_i h3
  rw [if_neg h3]
  split at h
  · cases h
  rename_i h4
  rw [if_neg h4]
  rw [Bool.not_eq_false] at h1 h2 h3 h4
  simp only [Bool.and_eq_true, Bool.not_eq_true', decide_eq_false_iff_not] at h1
  obtain ⟨i1, i2, i3⟩ := set_made h1.1.1.1 h3
  obtain ⟨g1, g2, g3, g4⟩ := put_grown h4
  exact ⟨h1.1.1.1, h1.1.1.2, h1.1.2, h1.2, h2, i1, i2.trans g1, i3 _ g1, g3, g4⟩
/-- What a drop that was possible made. -/
theorem drop_made {l : List Pc} {root : Int} {path : ByteArray} (h : (dropAtB l root path).2.2 = true) :
    storeB l = true ∧ isPath path = true ∧ partsB path ≠ [] ∧ (walkB l root (partsB path)).2 = true ∧ (dropB l root (partsB path)).2.2 = true
    ∧ Grows (dropB l root (partsB path)).1 (dropAtB l root path).1 ∧ entsAt (dropAtB l root path).1 (dropAtB l root path).2.1 = entsAt (dropAtB l root path).1 (dropB l root (partsB path)).2.1
    ∧ 0 ≤ (dropAtB l root path).2.1 := by
  unfold dropAtB at h ⊢
  split at h
  · cases h
  rename_i h1
  rw [if_neg h1]
  split at h
  · cases h
  rename_i h2
  rw [if_neg h2]
  rw [Bool.not_eq_false] at h1 h2
  simp only [Bool.and_eq_true, Bool.not_eq_true', decide_eq_false_iff_not] at h1
  split at h
  · rename_i h3
    rw [if_pos h3]
    rw [Bool.and_eq_true, decide_eq_true_eq] at h3
    split at h
    · cases h
    rename_i h4
    rw [if_neg h4]
    rw [Bool.not_eq_false] at h4
    obtain ⟨g1, g2, g3, g4⟩ := put_grown h4
    refine ⟨h1.1.1, h1.1.2, h1.2, h2, h3.1, g1, ?_, by rw [g2]; exact g4⟩
    show entsAt _ (putB (dropB l root (partsB path)).1 (folderB [])).2.1 = _
    rw [g2, ents_got g3 rfl g4]
    unfold entsAt
    rw [if_neg (by omega)]
  · rename_i h3
    rw [if_neg h3]
    split at h
    · cases h
    rename_i h4
    rw [if_neg h4]
    rw [Bool.not_eq_false] at h4
    obtain ⟨i1, _⟩ := drop_ok h1.1.1 h4
    refine ⟨h1.1.1, h1.1.2, h1.2, h2, h4, Grows.refl i1.1, rfl, ?_⟩
    rw [h4, Bool.true_and, decide_eq_true_eq] at h3
    show 0 ≤ (dropB l root (partsB path)).2.1
    omega
theorem write_back {l : List Pc} {root : Int} {path : ByteArray} (h : (dropAtB l root path).2.2 = true) (hr : (rdB l root path).2 = true)
    (hw : (writeB (dropAtB l root path).1 (dropAtB l root path).2.1 path (rdB l root path).1).2.2 = true) :
    (writeB (dropAtB l root path).1 (dropAtB l root path).2.1 path (rdB l root path).1).2.1 = root := by
  obtain ⟨hs, hp, hne, h2, h3, h4, h5, _⟩ := drop_made h
  obtain ⟨_, _, _, _, _, w3, _, w5, _, _⟩ := write_made hw
  obtain ⟨r1, r2, r3⟩ := (rd_facts l root path).1 hr
  have hwt : wtB l root path = walkB l root (partsB path) := wtB_yes hp hs
  rw [hwt] at r2 r3
  have hlf : printB (fileB (rdB l root path).1) = (walkB l root (partsB path)).1 := by
    rw [← r3, (got_yes _ hs).1]
    rw [(got_yes _ hs).2] at r2
    unfold getO at r2
    cases hg : getB l (walkB l root (partsB path)).1 with
    | none => rw [hg] at r2; cases r2
    | some t => rw [getT_some hg]; exact (get_right hs hg).2.1
  rw [w3]
  rw [hlf] at w5 ⊢
  exact set_back hs h3 h4 (Prod.ext rfl h2) h5 w5
/-! ### reading what was written -/
theorem made_walk {leaf : Int} {l a : List Pc} : ∀ {ps : List ByteArray} {p : Int}, Made leaf l a p ps → walkB a (setP leaf l p ps) ps = if getO a leaf = true then (leaf, true) else (-1, false)
  | [], p, _ => rfl
  | nm :: r, p, m => by
    have k := ascN_of m.2.1
    have e : foldL (getT a (setP leaf l p (nm :: r))) = putInE (entsAt l p) (nm, setP leaf l (lastE nm (-1) (entsAt l p)) r) := by
      have := m.2.2.1
      unfold entsAt at this
      rwa [if_pos m.2.2.2.1] at this
    have hc : childB a (setP leaf l p (nm :: r)) nm = some (setP leaf l (lastE nm (-1) (entsAt l p)) r) := by
      unfold childB
      rw [e]
      exact findE_in k ((mem_putIn k).2 (.inl rfl))
    rw [walkB, hc]
    exact made_walk m.2.2.2.2.2
theorem write_read {l : List Pc} {root : Int} {path content : ByteArray} (h : (writeB l root path content).2.2 = true) : rdB (writeB l root path content).1 (writeB l root path content).2.1 path = (content, true) := by
  obtain ⟨hs, hp, hne, hc, _, w3, w4, w5, w6, _⟩ := write_made h
  have hw := made_walk w5
  have ho : getO (writeB l root path content).1 (printB (fileB content)) = true := by unfold getO; rw [w6]; rfl
  rw [if_pos ho, ← w3] at hw
  unfold rdB
  rw [wtB_yes hp w4.1, hw, if_pos rfl, (got_yes _ w4.1).1, getT_some w6, (file_folds hc).2.2, (file_folds hc).1]
theorem kind_file {s : ByteArray} (h : isFile s = true) : kindB s = 1 := by unfold kindB; rw [if_pos h]
theorem setP_pr {leaf : Int} {l : List Pc} (hl : isPr leaf = true) : ∀ {ps : List ByteArray} {p : Int}, (0 ≤ setP leaf l p ps) → isPr (setP leaf l p ps) = true
  | [], p, _ => hl
  | nm :: r, p, h => by
    have := printB_bd (folderB (putInE (entsAt l p) (nm, setP leaf l (lastE nm (-1) (entsAt l p)) r)))
    unfold isPr
    exact decide_eq_true ⟨h, this.2⟩
theorem made_ge {leaf : Int} {l a : List Pc} (hl : 0 ≤ leaf) : ∀ {ps : List ByteArray} {p : Int}, Made leaf l a p ps → 0 ≤ setP leaf l p ps
  | [], _, _ => hl
  | _ :: _, _, m => m.2.2.2.1
/-- Setting again what was set changes nothing. -/
theorem set_again {leaf : Int} {l a : List Pc} (ha : storeB a = true) (hl : isPr leaf = true) (hk : getO a leaf = true ∧ kindB (getT a leaf) = 1) : ∀ {ps : List ByteArray} {p : Int}, Made leaf l a p ps → setB leaf a (setP leaf l p ps) ps = (a, setP leaf l p ps, true)
  | [], p, _ => rfl
  | nm :: r, p, m => by
    have k := ascN_of m.2.1
    have e := m.2.2.1
    have hl0 : 0 ≤ leaf := by unfold isPr at hl; rw [decide_eq_true_eq] at hl; exact hl.1
    have hq0 := made_ge hl0 m.2.2.2.2.2
    have hqp := setP_pr hl hq0
    have ih := set_again ha hl hk m.2.2.2.2.2
    have hfo : isFold (getT a (setP leaf l p (nm :: r))) = true := by
      rw [getT_some m.2.2.2.2.1, folderB_yes m.2.1]; exact (fold_text m.2.1).2
    have hput : putB a (folderB (putInE (entsAt l p) (nm, setP leaf l (lastE nm (-1) (entsAt l p)) r))) = (a, setP leaf l p (nm :: r), true) :=
      put_again ha (get_in m.2.2.2.2.1) (by have := m.2.2.2.1; show ¬ setP leaf l p (nm :: r) < 0; omega)
    have hm := (mem_putIn k (q := (nm, setP leaf l (lastE nm (-1) (entsAt l p)) r))).2 (.inl rfl)
    have f : lastE nm (-1) (putInE (entsAt l p) (nm, setP leaf l (lastE nm (-1) (entsAt l p)) r)) = setP leaf l (lastE nm (-1) (entsAt l p)) r := lastE_in k hm
    have hpp : putE (putInE (entsAt l p) (nm, setP leaf l (lastE nm (-1) (entsAt l p)) r)) (nm, setP leaf l (lastE nm (-1) (entsAt l p)) r) = (putInE (entsAt l p) (nm, setP leaf l (lastE nm (-1) (entsAt l p)) r), true) := by
      have h6 := put_over m.2.1 hm hqp
      rw [putE_yes m.2.1 h6]
      congr 1
      refine ascN_ext (ascN_of h6) k fun q => ?_
      rw [mem_putIn (ascN_of h6)]
      constructor
      · rintro (h | h)
        · rw [h]; exact hm
        · exact h.1
      · intro h
        by_cases hn : q.1 = nm
        · exact .inl (ascN_one k h hm hn)
        · exact .inr ⟨h, hn⟩
    rw [setB, hfo, e, f, ih, hpp, hput]
    rw [if_neg (by simp), if_neg, if_neg (by simp), if_neg (by simp)]
    intro hx
    simp only [Bool.and_eq_true, decide_eq_true_eq] at hx
    have hr := hx.1.1
    subst hr
    have h2 := hx.2
    rw [show setP leaf l (lastE nm (-1) (entsAt l p)) [] = leaf from rfl, hk.1, hk.2] at h2
    simp at h2
theorem write_again {l : List Pc} {root : Int} {path content : ByteArray} (h : (writeB l root path content).2.2 = true) :
    writeB (writeB l root path content).1 (writeB l root path content).2.1 path content = ((writeB l root path content).1, (writeB l root path content).2.1, true) := by
  obtain ⟨hs, hp, hne, hc, _, w3, w4, w5, w6, w7⟩ := write_made h
  obtain ⟨x, hx⟩ : ∃ x, (writeB l root path content).1 = x := ⟨_, rfl⟩
  rw [hx] at w4 w5 w6 ⊢
  rw [w3]
  have hl : isPr (printB (fileB content)) = true := by unfold isPr; exact decide_eq_true ⟨w7, (printB_bd _).2⟩
  have ho : getO x (printB (fileB content)) = true := by unfold getO; rw [w6]; rfl
  have hset := set_again w4.1 hl ⟨ho, by rw [getT_some w6]; exact kind_file (file_folds hc).1⟩ w5
  have hput : putB x (fileB content) = (x, printB (fileB content), true) := put_again w4.1 (get_in w6) (by omega)
  have hro : getO x (setP (printB (fileB content)) l root (partsB path)) = true := by
    cases hpp : partsB path with
    | nil => exact absurd hpp hne
    | cons nm r => rw [hpp] at w5; unfold getO; rw [w5.2.2.2.2.1]; rfl
  unfold writeB
  rw [w4.1, hp, hc, decide_eq_false hne, hset, hput, hro]
  rfl
/-! ### a dropped path leads nowhere -/
theorem findE_not {l : List Ent} {nm : ByteArray} (h : ∀ q ∈ l, q.1 ≠ nm) : findE l nm = none := by
  induction l with
  | nil => rfl
  | cons q l ih =>
    rw [findE, if_neg (by rw [str_beq, decide_eq_false (h q (List.mem_cons_self ..))]; simp)]
    exact ih fun x hx => h x (List.mem_cons_of_mem _ hx)
theorem foldL_at {l : List Pc} {p : Int} (h : 0 ≤ p) : entsAt l p = foldL (getT l p) := by unfold entsAt; rw [if_pos h]
theorem drop_gone {l x : List Pc} (hs : storeB l = true) : ∀ {ps : List ByteArray} {p P : Int}, (dropB l p ps).2.2 = true → Grows (dropB l p ps).1 x → 0 ≤ P → entsAt x P = entsAt x (dropB l p ps).2.1 → walkB x P ps = (-1, false)
  | [], p, P, h, _, _, _ => by cases h
  | nm :: r, p, P, h, gx, h0, hP => by
    have hE : entsB (foldL (getT l p)) = true := fold_ents
    rw [foldL_at h0] at hP
    rw [walkB, childB, hP]
    rw [dropB] at h gx ⊢
    split at h
    · cases h
    rename_i h1
    rw [if_neg h1] at gx ⊢
    have hm : (nm, lastE nm (-1) (foldL (getT l p))) ∈ foldL (getT l p) := by
      rcases lastE_or (foldL (getT l p)) nm (-1) with h4 | h4
      · omega
      · exact h4
    obtain ⟨E, hEq⟩ : ∃ E, foldL (getT l p) = E := ⟨_, rfl⟩
    rw [hEq] at h gx hE hm h1 ⊢
    obtain ⟨c, hc⟩ : ∃ c, lastE nm (-1) E = c := ⟨_, rfl⟩
    rw [hc] at h gx hm h1 ⊢
    split at h
    · rename_i h2
      rw [if_pos h2] at gx ⊢
      have hl : leftE E nm (-1) = lessE E nm := by unfold leftE; rw [if_neg (by omega), dropE_ok hE]
      rw [hl] at h gx ⊢
      rw [(end_ok hs (ents_less nm hE) h).2.2 x gx, findE_not fun q hq => (mem_less.1 hq).2]
    rename_i h2
    rw [if_neg h2] at gx ⊢
    split at h
    · cases h
    rename_i h3
    rw [if_neg h3] at gx ⊢
    rw [Bool.not_eq_false] at h3
    obtain ⟨i1, i2⟩ := drop_ok hs h3
    by_cases hl : 0 ≤ (dropB l c r).2.1
    · have h6 := put_over hE hm (i2.resolve_left (by omega))
      have e : leftE E nm (dropB l c r).2.1 = putInE E (nm, (dropB l c r).2.1) := by unfold leftE; rw [if_pos hl, putE_yes hE h6]
      rw [e] at h gx ⊢
      have ho := end_ok i1.1 h6 h
      rw [ho.2.2 x gx, findE_in (ascN_of h6) ((mem_putIn (ascN_of h6)).2 (.inl rfl))]
      exact drop_gone hs h3 (ho.1.trans gx) hl rfl
    · have e : leftE E nm (dropB l c r).2.1 = lessE E nm := by unfold leftE; rw [if_neg hl, dropE_ok hE]
      rw [e] at h gx ⊢
      have ho := end_ok i1.1 (ents_less nm hE) h
      rw [ho.2.2 x gx, findE_not fun q hq => (mem_less.1 hq).2]
theorem drop_nowhere {l : List Pc} {root : Int} {path : ByteArray} (h : (dropAtB l root path).2.2 = true) :
    storeB (dropAtB l root path).1 = true ∧ Grows l (dropAtB l root path).1 ∧ (wtB (dropAtB l root path).1 (dropAtB l root path).2.1 path).2 = false ∧ (dropAtB (dropAtB l root path).1 (dropAtB l root path).2.1 path).2.2 = false := by
  obtain ⟨hs, hp, hne, h2, h3, h4, h5, h6⟩ := drop_made h
  have hg := drop_gone hs h3 h4 h6 h5
  have hst := h4.1
  refine ⟨hst, (drop_ok hs h3).1.trans h4, by rw [wtB_yes hp hst, hg], ?_⟩
  obtain ⟨x, hx⟩ : ∃ x, (dropAtB l root path).1 = x := ⟨_, rfl⟩
  obtain ⟨P, hP⟩ : ∃ P, (dropAtB l root path).2.1 = P := ⟨_, rfl⟩
  rw [hx, hP] at hg ⊢
  rw [hx] at hst
  unfold dropAtB
  rw [hst, hp, decide_eq_false hne, hg]
  rfl
/-! ### what was there is there -/
theorem walk_grows {l x : List Pc} (h : Grows l x) : ∀ {ps : List ByteArray} {p c : Int}, walkB l p ps = (c, true) → walkB x p ps = (c, true)
  | [], p, c, hw => by
    rw [walkB] at hw ⊢
    split at hw
    · rename_i h1
      unfold getO at h1
      cases hg : getB l p with
      | none => rw [hg] at h1; cases h1
      | some t => rw [if_pos (by unfold getO; rw [h.get hg]; rfl)]; exact hw
    · cases hw
  | nm :: r, p, c, hw => by
    rw [walkB] at hw ⊢
    cases hc : childB l p nm with
    | none => rw [hc] at hw; cases hw
    | some d =>
      rw [hc] at hw
      have hf : isFold (getT l p) = true := by
        cases hf : isFold (getT l p)
        · unfold childB at hc; rw [foldL_no hf] at hc; cases hc
        · rfl
      have : childB x p nm = some d := by
        unfold childB at hc ⊢
        rw [getT_some (h.get (fold_get hf))]; exact hc
      rw [this]
      exact walk_grows h hw
theorem read_grows {l x : List Pc} {root : Int} {path : ByteArray} (h : Grows l x) (hr : (rdB l root path).2 = true) : rdB x root path = rdB l root path := by
  obtain ⟨r1, r2, r3⟩ := (rd_facts l root path).1 hr
  have hs : storeB l = true := by unfold gotO at r2; rw [Bool.and_eq_true] at r2; exact r2.1
  have hp : isPath path = true := by
    cases hp : isPath path
    · rw [wtB_no (.inl hp)] at r1; cases r1
    · rfl
  rw [wtB_yes hp hs] at r1 r2
  have hw := walk_grows h (Prod.ext rfl r1 : walkB l root (partsB path) = ((walkB l root (partsB path)).1, true))
  rw [(got_yes _ hs).2] at r2
  unfold getO at r2
  cases hg : getB l (walkB l root (partsB path)).1 with
  | none => rw [hg] at r2; cases r2
  | some t =>
    unfold rdB
    rw [wtB_yes hp hs, wtB_yes hp h.1, hw, r1, (got_yes _ hs).1, (got_yes _ h.1).1, getT_some hg, getT_some (h.get hg)]
theorem nodup_len : ∀ {l x : List Pc}, l.Nodup → (∀ q ∈ l, q ∈ x) → l.length ≤ x.length
  | [], _, _, _ => Nat.zero_le _
  | q :: l, x, hn, h => by
    obtain ⟨h1, h2⟩ := List.nodup_cons.1 hn
    obtain ⟨a, b, rfl⟩ := List.append_of_mem (h q (List.mem_cons_self ..))
    have ih := nodup_len (x := a ++ b) h2 fun y hy => by
      have := h y (List.mem_cons_of_mem _ hy)
      rcases List.mem_append.1 this with h3 | h3
      · exact List.mem_append_left _ h3
      · rcases List.mem_cons.1 h3 with rfl | h3
        · exact absurd hy h1
        · exact List.mem_append_right _ h3
    simp only [List.length_append, List.length_cons] at ih ⊢
    omega
theorem grows_len {l x : List Pc} (hs : storeB l = true) (h : Grows l x) : l.length ≤ x.length := by
  have hn : l.Nodup := (storeB_iff.1 hs).2.2.imp fun h e => by rw [e] at h; omega
  exact nodup_len hn h.2
end Go.Proofs.YtbbjpihlielpgaaGreatDoor
