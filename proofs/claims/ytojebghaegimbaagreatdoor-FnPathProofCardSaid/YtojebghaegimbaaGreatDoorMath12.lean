/-
  Chapter 12, plain: texts on the way of a path; that they prove what is there, or that nothing is.
-/
import Derived.Test.YtojebghaegimbaaGreatDoorMath10c
import Derived.Test.YtojebghaegimbaaGreatDoorLaw9
namespace Go.Proofs.YtojebghaegimbaaGreatDoor
open Go.RowKit
set_option linter.unusedVariables false
/-! ### texts on a way -/
def wayPB : Int → List ByteArray → List ByteArray → Bool
  | _, _, [] => false
  | p, ps, t :: r => decide (printB t = p) && (decide (r = []) || wayPB (lastE (nthS ps 0) (-2) (foldL t)) (ps.drop 1) r)
theorem nthS_drop {ps : List ByteArray} {k j : Nat} : nthS (ps.drop k) j = nthS ps (k + j) := by
  unfold nthS; rw [List.getD_eq_getElem?_getD, List.getD_eq_getElem?_getD, List.getElem?_drop]
theorem wayP_none {p : Int} {ps L : List ByteArray} {k : Nat} (h : L.length ≤ k) : wayPB p (ps.drop k) (L.drop k) = false := by
  rw [List.drop_of_length_le h, wayPB]
theorem wayP_end {p : Int} {ps L : List ByteArray} {k : Nat} (h : k + 1 = L.length) : wayPB p (ps.drop k) (L.drop k) = decide (printB (nthS L k) = p) := by
  rw [List.drop_eq_getElem_cons (show k < L.length by omega), ← nthS_get, wayPB, List.drop_of_length_le (show L.length ≤ k + 1 by omega)]
  simp
theorem wayP_step {p : Int} {ps L : List ByteArray} {k : Nat} (h : k + 1 < L.length) :
    wayPB p (ps.drop k) (L.drop k) = (decide (printB (nthS L k) = p) && wayPB (lastE (nthS ps k) (-2) (foldL (nthS L k))) (ps.drop (k + 1)) (L.drop (k + 1))) := by
  rw [List.drop_eq_getElem_cons (show k < L.length by omega), ← nthS_get, wayPB, nthS_drop, List.drop_drop]
  have : L.drop (k + 1) ≠ [] := fun e => by
    have := congrArg List.length e
    rw [List.length_drop] at this
    simp at this; omega
  rw [decide_eq_false this, Bool.false_or]
  rfl
theorem wayP_head {p : Int} {ps L : List ByteArray} (h : wayPB p ps L = true) : 0 < L.length ∧ printB (nthS L 0) = p := by
  cases L with
  | nil => rw [wayPB] at h; cases h
  | cons t r =>
    rw [wayPB, Bool.and_eq_true, decide_eq_true_eq] at h
    exact ⟨by simp, h.1⟩
theorem wayP_other {p q : Int} {ps L : List ByteArray} (h : wayPB p ps L = true) (hq : q ≠ p) : wayPB q ps L = false := by
  cases hx : wayPB q ps L
  · rfl
  · exact absurd ((wayP_head hx).2.symm.trans (wayP_head h).2) hq
/-! ### proofs -/
def ppRight (root : Int) (path : ByteArray) (L : List ByteArray) : Bool := isPath path && decide (L.length = (partsB path).length + 1) && wayPB root (partsB path) L
def ppCont (root : Int) (path : ByteArray) (L : List ByteArray) : ByteArray × Bool := if ppRight root path L = true then (fileT (nthS L (L.length - 1)), isFile (nthS L (L.length - 1))) else (ByteArray.empty, false)
def hasN (E : List Ent) (nm : ByteArray) : Bool := E.any fun q => decide (q.1 = nm)
theorem hasN_at {E : List Ent} {nm : ByteArray} {k : Nat} (hk : k < E.length) (h : (nthE E k).1 = nm) : hasN E nm = true :=
  List.any_eq_true.2 ⟨_, List.getElem_mem hk, by rw [← nthE_get hk]; exact decide_eq_true h⟩
theorem hasN_end {E : List Ent} {nm : ByteArray} (h : ∀ j, j < E.length → (nthE E j).1 ≠ nm) : hasN E nm = false := by
  refine List.any_eq_false.2 fun q hq => ?_
  obtain ⟨j, hj, rfl⟩ := List.mem_iff_getElem.1 hq
  have := h j hj
  rw [nthE_get hj] at this
  simpa using this
theorem hasN_here {E : List Ent} {nm : ByteArray} (hE : entsB E = true) : hasN E nm = hereE nm E := by
  cases hh : hereE nm E
  · refine hasN_end fun j hj e => ?_
    have h1 := lessE_none (ents_asc hE) hh
    have h2 : nthE E j ∈ lessE E nm := by rw [h1, nthE_get hj]; exact List.getElem_mem hj
    exact (mem_less.1 h2).2 e
  · unfold hereE at hh
    rw [Bool.and_eq_true, decide_eq_true_eq, decide_eq_true_eq] at hh
    exact hasN_at hh.1 hh.2
def ppAbs (root : Int) (path : ByteArray) (L : List ByteArray) : Bool :=
  isPath path && (decide (1 ≤ L.length) && decide (L.length ≤ (partsB path).length)) && wayPB root (partsB path) L && isFold (nthS L (L.length - 1)) && !hasN (foldL (nthS L (L.length - 1))) (nthS (partsB path) (L.length - 1))
/-! ### the texts of a path -/
def textsW (l : List Pc) : Int → List ByteArray → List ByteArray
  | p, [] => [getT l p]
  | p, nm :: r => getT l p :: textsW l (lastE nm (-1) (entsAt l p)) r
theorem textsW_len (l : List Pc) : ∀ (ps : List ByteArray) (p : Int), (textsW l p ps).length = ps.length + 1
  | [], _ => rfl
  | nm :: r, p => by rw [textsW, List.length_cons, textsW_len l r, List.length_cons]
def ppTexts (l : List Pc) (root : Int) (path : ByteArray) : List ByteArray := if (wtB l root path).2 = true then textsW l root (partsB path) else []
theorem walk_cons {l : List Pc} (hs : storeB l = true) {p : Int} {nm : ByteArray} {r : List ByteArray} (h : (walkB l p (nm :: r)).2 = true) (r' : List ByteArray) : walkB l p (nm :: r') = walkB l (lastE nm (-1) (entsAt l p)) r' := by
  obtain ⟨h1, h2, h3, h4, h5⟩ := walk_step hs h
  have hc : childB l p nm = some (lastE nm (-1) (entsAt l p)) := by
    unfold childB
    rw [← h2]
    exact findE_in (ascN_of (entsAt_ok l p)) h3
  rw [walkB, hc]
theorem textsW_nth {l : List Pc} (hs : storeB l = true) : ∀ {ps : List ByteArray} {p : Int} {k : Nat}, (walkB l p ps).2 = true → k ≤ ps.length → (walkB l p (ps.take k)).2 = true ∧ nthS (textsW l p ps) k = getT l (walkB l p (ps.take k)).1
  | [], p, k, h, hk => by
    have hk0 : k = 0 := by simp at hk; exact hk
    subst hk0
    have ho := (walk_has h).2
    have e : walkB l p [] = (p, true) := by rw [walkB, if_pos ho]
    rw [List.take_nil, e]
    exact ⟨rfl, rfl⟩
  | nm :: r, p, 0, h, hk => by
    have ho := (walk_has h).2
    have e : walkB l p [] = (p, true) := by rw [walkB, if_pos ho]
    rw [List.take_zero, e]
    exact ⟨rfl, rfl⟩
  | nm :: r, p, k + 1, h, hk => by
    have h5 := (walk_step hs h).2.2.2.2
    rw [List.take_succ_cons, walk_cons hs h]
    exact textsW_nth hs h5 (by rw [List.length_cons] at hk; omega)
theorem got_print {l : List Pc} (hs : storeB l = true) {p : Int} (h : getO l p = true) : printB (getT l p) = p := by
  unfold getO at h
  cases hg : getB l p with
  | none => rw [hg] at h; cases h
  | some t => rw [getT_some hg]; exact (get_right hs hg).2.1
theorem texts_way {l : List Pc} (hs : storeB l = true) : ∀ {ps : List ByteArray} {p : Int}, (walkB l p ps).2 = true → wayPB p ps (textsW l p ps) = true
  | [], p, h => by
    rw [textsW, wayPB, got_print hs (walk_has h).2]
    simp
  | nm :: r, p, h => by
    obtain ⟨h1, h2, h3, h4, h5⟩ := walk_step hs h
    have hl : lastE nm (-2) (foldL (getT l p)) = lastE nm (-1) (entsAt l p) := by
      rw [← h2]; exact lastE_in (ascN_of (entsAt_ok l p)) h3
    rw [textsW, wayPB, got_print hs (walk_has h).2, show nthS (nm :: r) 0 = nm from rfl, hl]
    show (decide (p = p) && (_ || wayPB _ r _)) = true
    rw [texts_way hs h5]
    simp
theorem wt_ok {l : List Pc} {root : Int} {path : ByteArray} (h : (wtB l root path).2 = true) : isPath path = true ∧ storeB l = true ∧ (walkB l root (partsB path)).2 = true ∧ wtB l root path = walkB l root (partsB path) := by
  cases hp : isPath path
  · rw [wtB_no (.inl hp)] at h; cases h
  cases hs : storeB l
  · rw [wtB_no (.inr hs)] at h; cases h
  rw [wtB_yes hp hs] at h
  exact ⟨rfl, rfl, h, wtB_yes hp hs⟩
theorem texts_len {l : List Pc} {root : Int} {path : ByteArray} : (ppTexts l root path).length = if (wtB l root path).2 = true then (partsB path).length + 1 else 0 := by
  unfold ppTexts
  split
  · exact textsW_len _ _ _
  · rfl
/-! ### what the laws say -/
theorem texts_right {l : List Pc} {root : Int} {path : ByteArray} (h : (wtB l root path).2 = true) : ppRight root path (ppTexts l root path) = true := by
  obtain ⟨h1, h2, h3, _⟩ := wt_ok h
  unfold ppRight
  rw [h1, texts_len, if_pos h, decide_eq_true rfl]
  unfold ppTexts
  rw [if_pos h, texts_way h2 h3]; rfl
theorem right_facts {root : Int} {path : ByteArray} {L : List ByteArray} (h : ppRight root path L = true) :
    ppRight (root + 1) path L = false ∧ (∀ x, ppRight root path (L ++ [x]) = false) ∧ ppAbs root path L = false ∧ -1 ≤ root ∧ root < 16777216 ∧ isPath path = true ∧ L.length = (partsB path).length + 1 := by
  unfold ppRight at h
  simp only [Bool.and_eq_true, decide_eq_true_eq] at h
  obtain ⟨⟨h1, h2⟩, h3⟩ := h
  have hp := (wayP_head h3).2
  have hb := printB_bd (nthS L 0)
  refine ⟨?_, fun x => ?_, ?_, by omega, by omega, h1, h2⟩
  · unfold ppRight
    rw [wayP_other h3 (by omega), Bool.and_false]
  · unfold ppRight
    rw [decide_eq_false (by rw [List.length_append, h2]; simp)]; simp
  · unfold ppAbs
    rw [decide_eq_false (show ¬ L.length ≤ (partsB path).length by omega)]; simp
theorem cont_facts {root : Int} {path : ByteArray} {L : List ByteArray} : ((ppCont root path L).2 = true → ppRight root path L = true ∧ nthS L (L.length - 1) = fileB (ppCont root path L).1) ∧ ((ppCont root path L).2 = false → (ppCont root path L).1 = ByteArray.empty) := by
  unfold ppCont
  split
  · rename_i h
    refine ⟨fun h2 => ⟨h, (file_back h2).symm⟩, fun h2 => fileT_no h2⟩
  · exact ⟨fun h2 => (by cases h2), fun _ => rfl⟩
theorem texts_last {l : List Pc} {root : Int} {path : ByteArray} (h : (wtB l root path).2 = true) : nthS (ppTexts l root path) ((ppTexts l root path).length - 1) = getT l (wtB l root path).1 := by
  obtain ⟨h1, h2, h3, h4⟩ := wt_ok h
  rw [texts_len, if_pos h, h4]
  unfold ppTexts
  rw [if_pos h, Nat.add_sub_cancel]
  have := (textsW_nth h2 h3 (Nat.le_refl _)).2
  rwa [List.take_length] at this
theorem cont_reads (l : List Pc) (root : Int) (path : ByteArray) : ppCont root path (ppTexts l root path) = rdB l root path := by
  cases h : (wtB l root path).2
  · have hr : ppRight root path (ppTexts l root path) = false := by
      unfold ppRight
      rw [texts_len, if_neg (by rw [h]; simp), decide_eq_false (by omega)]; simp
    unfold ppCont rdB
    rw [if_neg (by rw [hr]; simp), if_neg (by rw [h]; simp)]
  · obtain ⟨h1, h2, h3, h4⟩ := wt_ok h
    unfold ppCont rdB
    rw [if_pos (texts_right h), if_pos h, texts_last h, (got_yes _ h2).1]
/-! ### proofs of absence -/
def goneAt (l : List Pc) (root : Int) (path : ByteArray) (k : Nat) : List ByteArray := ppTexts l root (pathB ((partsB path).take k))
def goneF (l : List Pc) (root : Int) (path : ByteArray) : List Nat → List ByteArray
  | [] => []
  | k :: r => if ppAbs root path (goneAt l root path k) = true then goneAt l root path k else goneF l root path r
def ppGone (l : List Pc) (root : Int) (path : ByteArray) : List ByteArray := if (isPath path && storeB l) = true then goneF l root path (List.range (partsB path).length) else []
theorem gone_is {l : List Pc} {root : Int} {path : ByteArray} : ∀ {ks : List Nat}, goneF l root path ks = [] ∨ ∃ k ∈ ks, goneF l root path ks = goneAt l root path k ∧ ppAbs root path (goneAt l root path k) = true
  | [] => .inl rfl
  | k :: r => by
    rw [goneF]
    split
    · rename_i h; exact .inr ⟨k, List.mem_cons_self .., rfl, h⟩
    · rcases gone_is (ks := r) with h | ⟨j, hj, h1, h2⟩
      · exact .inl h
      · exact .inr ⟨j, List.mem_cons_of_mem _ hj, h1, h2⟩
theorem range_drop {n k : Nat} (h : k < n) : (List.range n).drop k = k :: (List.range n).drop (k + 1) := by
  rw [List.drop_eq_getElem_cons (by rw [List.length_range]; exact h), List.getElem_range]
theorem gone_yes {l : List Pc} {root : Int} {path : ByteArray} {n k : Nat} (h : k < n) (ha : ppAbs root path (goneAt l root path k) = true) : goneF l root path ((List.range n).drop k) = goneAt l root path k := by
  rw [range_drop h, goneF, if_pos ha]
theorem gone_no {l : List Pc} {root : Int} {path : ByteArray} {n k : Nat} (h : k < n) (ha : ppAbs root path (goneAt l root path k) = false) : goneF l root path ((List.range n).drop k) = goneF l root path ((List.range n).drop (k + 1)) := by
  rw [range_drop h, goneF, if_neg (by rw [ha]; simp)]
theorem gone_end {l : List Pc} {root : Int} {path : ByteArray} {n k : Nat} (h : n ≤ k) : goneF l root path ((List.range n).drop k) = [] := by
  rw [List.drop_of_length_le (by rw [List.length_range]; exact h)]; rfl
theorem path_good {path : ByteArray} (hp : isPath path = true) : (partsB path = [] ∨ pathB (partsB path) ≠ ByteArray.empty) ∧ (∀ k, pathB ((partsB path).take k) ≠ ByteArray.empty) := by
  have key : partsB path = [] ∨ ((partsB path).all wordB = true ∧ (partsB path).length ≤ 3) := by
    by_cases h0 : partsB path = []
    · exact .inl h0
    right
    have h1 : pathB (partsB path) ≠ ByteArray.empty := by
      intro e
      unfold partsB at e h0
      split at e
      · rename_i h2; rw [if_pos h2] at h0; exact h0 rfl
      · rename_i h2
        have e : pathB (splitB path) = ByteArray.empty := by simpa [hp] using e
        unfold isPath at hp
        rw [decide_eq_false h2, Bool.false_or, Bool.and_eq_true, decide_eq_true_eq, decide_eq_true_eq] at hp
        rw [hp.2] at e
        rw [e] at hp
        exact absurd hp.1 (by decide)
    unfold pathB at h1
    rw [if_neg h0] at h1
    split at h1
    · rename_i h4
      rw [Bool.and_eq_true, decide_eq_true_eq] at h4
      exact h4
    · exact absurd rfl h1
  have gen : ∀ k, pathB ((partsB path).take k) ≠ ByteArray.empty := by
    intro k e
    rcases key with h0 | ⟨h1, h2⟩
    · rw [h0, List.take_nil] at e
      exact absurd e (by decide)
    · unfold pathB at e
      split at e
      · exact absurd e (by decide)
      · rename_i h3
        rw [if_pos (by
          rw [Bool.and_eq_true, decide_eq_true_eq]
          refine ⟨List.all_eq_true.2 fun q hq => List.all_eq_true.1 h1 q (List.mem_of_mem_take hq), ?_⟩
          rw [List.length_take]; omega)] at e
        cases ht : (partsB path).take k with
        | nil => exact h3 ht
        | cons q r =>
          rw [ht] at e
          have := congrArg (fun s : ByteArray => s.data.toList) e
          simp only [slashed_cons] at this
          cases this
  refine ⟨?_, gen⟩
  by_cases h0 : partsB path = []
  · exact .inl h0
  · right
    have := gen (partsB path).length
    rwa [List.take_length] at this
theorem absence_none {l : List Pc} {root : Int} {path : ByteArray} (h : (wtB l root path).2 = true) : ppGone l root path = [] := by
  obtain ⟨h1, h2, h3, h4⟩ := wt_ok h
  unfold ppGone
  rw [h1, h2, Bool.true_and, if_pos rfl]
  rcases gone_is (l := l) (root := root) (path := path) (ks := List.range (partsB path).length) with h5 | ⟨k, hk, h5, h6⟩
  · exact h5
  exfalso
  rw [List.mem_range] at hk
  have hj := join_parts ((path_good h1).2 k)
  have hpre := textsW_nth h2 h3 (Nat.le_of_lt hk)
  have hwt : (wtB l root (pathB ((partsB path).take k))).2 = true := by rw [wtB_yes hj.2 h2, hj.1]; exact hpre.1
  have hlen : (goneAt l root path k).length = k + 1 := by
    unfold goneAt
    rw [texts_len, if_pos hwt, hj.1, List.length_take]; omega
  have hlast : nthS (goneAt l root path k) k = getT l (walkB l root ((partsB path).take k)).1 := by
    have := texts_last hwt
    have e : (ppTexts l root (pathB ((partsB path).take k))).length = k + 1 := hlen
    rw [e, Nat.add_sub_cancel, wtB_yes hj.2 h2, hj.1] at this
    exact this
  have key : ∀ (ps : List ByteArray) (p : Int) (k : Nat), k < ps.length → (walkB l p ps).2 = true → hasN (foldL (getT l (walkB l p (ps.take k)).1)) (nthS ps k) = true := by
    intro ps
    induction ps with
    | nil => intro p k hk; exact absurd hk (Nat.not_lt_zero _)
    | cons nm r ih =>
      intro p k hk hw
      obtain ⟨g1, g2, g3, g4, g5⟩ := walk_step h2 hw
      cases k with
      | zero =>
        have e : walkB l p [] = (p, true) := by rw [walkB, if_pos (walk_has hw).2]
        rw [List.take_zero, e]
        rw [g2] at g3
        exact List.any_eq_true.2 ⟨_, g3, decide_eq_true rfl⟩
      | succ k =>
        rw [List.take_succ_cons, walk_cons h2 hw]
        exact ih _ k (by rw [List.length_cons] at hk; omega) g5
  have hn := key (partsB path) root k hk h3
  unfold ppAbs at h6
  rw [hlen, Nat.add_sub_cancel, hlast, hn] at h6
  simp at h6
theorem absence_right {l : List Pc} {root : Int} {path : ByteArray} : ppGone l root path = [] ∨ ((wtB l root path).2 = false ∧ ppAbs root path (ppGone l root path) = true) := by
  cases h : (wtB l root path).2
  · unfold ppGone
    split
    · rcases gone_is (l := l) (root := root) (path := path) (ks := List.range (partsB path).length) with h5 | ⟨k, hk, h5, h6⟩
      · exact .inl h5
      · exact .inr ⟨rfl, by rw [h5]; exact h6⟩
    · exact .inl rfl
  · exact .inl (absence_none h)
/-! ### sizes -/
theorem nthS_every {L : List ByteArray} {m : Nat} (h : ∀ k, (nthS L k).size ≤ m) : ∀ q ∈ L, q.size ≤ m := fun q hq => by
  obtain ⟨j, hj, rfl⟩ := List.mem_iff_getElem.1 hq
  rw [← nthS_get hj]; exact h j
theorem textsW_small {l : List Pc} (h : Short 60 l) : ∀ (ps : List ByteArray) (p : Int), ∀ t ∈ textsW l p ps, t.size ≤ 60
  | [], p, t, ht => by
    rw [textsW, List.mem_singleton] at ht
    rw [ht]; exact getT_size (short_nth h)
  | nm :: r, p, t, ht => by
    rw [textsW] at ht
    rcases List.mem_cons.1 ht with h1 | h1
    · rw [h1]; exact getT_size (short_nth h)
    · exact textsW_small h r _ t h1
theorem texts_60 {l : List Pc} {root : Int} {path : ByteArray} (h : Short 60 l) : ∀ t ∈ ppTexts l root path, t.size ≤ 60 := fun t ht => by
  unfold ppTexts at ht
  split at ht
  · exact textsW_small h _ _ t ht
  · cases ht
theorem gone_60 {l : List Pc} {root : Int} {path : ByteArray} (h : Short 60 l) : ∀ t ∈ ppGone l root path, t.size ≤ 60 := fun t ht => by
  unfold ppGone at ht
  split at ht
  · rcases gone_is (l := l) (root := root) (path := path) (ks := List.range (partsB path).length) with h5 | ⟨k, hk, h5, h6⟩
    · rw [h5] at ht; cases ht
    · rw [h5] at ht; exact texts_60 h t ht
  · cases ht
theorem texts_small {l : List Pc} {root : Int} {path : ByteArray} (h : Short 60 l) (k : Nat) : (nthS (ppTexts l root path) k).size ≤ 1048576 := nthS_all (fun q hq => Nat.le_trans (texts_60 h q hq) (by decide)) k
theorem gone_small {l : List Pc} {root : Int} {path : ByteArray} (h : Short 60 l) (k : Nat) : (nthS (ppGone l root path) k).size ≤ 1048576 := nthS_all (fun q hq => Nat.le_trans (gone_60 h q hq) (by decide)) k
theorem gone_len {l : List Pc} {root : Int} {path : ByteArray} : (ppGone l root path).length ≤ 4 := by
  have key : ∀ p, (ppTexts l root p).length ≤ 4 := fun p => by
    rw [texts_len]
    have := (parts_small (s := p)).1
    split <;> omega
  unfold ppGone
  split
  · rcases gone_is (l := l) (root := root) (path := path) (ks := List.range (partsB path).length) with h5 | ⟨k, hk, h5, h6⟩
    · rw [h5]; simp
    · rw [h5]; exact key _
  · simp
theorem texts_few {l : List Pc} {root : Int} {path : ByteArray} : (ppTexts l root path).length ≤ 4 := by
  rw [texts_len]
  have := (parts_small (s := path)).1
  split <;> omega
theorem cont_small {root : Int} {path : ByteArray} {L : List ByteArray} (hz : ∀ k, (nthS L k).size ≤ 61) : (ppCont root path L).1.size ≤ 1048576 := by
  unfold ppCont
  split
  · show (fileT _).size ≤ 1048576
    have := hz (L.length - 1)
    unfold fileT
    split
    · rw [ByteArray.size_extract]; omega
    · simp
  · simp
end Go.Proofs.YtojebghaegimbaaGreatDoor
