/-
  Chapter 10, plain: the roots that writes and drops lead to; two writes in either order; what was dropped, written again.
-/
import Derived.Test.YtglajbmopiolhaaGreatDoorDrop
import Derived.Test.YtglajbmopiolhaaGreatDoorFold3
import Derived.Test.YtglajbmopiolhaaGreatDoorFoldMath
import Derived.Test.YtglajbmopiolhaaGreatDoorWalks9
namespace Go.Proofs.YtglajbmopiolhaaGreatDoor
open Go.RowKit
set_option linter.unusedVariables false
/-! ### entries whose names ascend -/
def AscN (l : List Ent) : Prop := l.Pairwise (fun a b => ltN a.1 b.1 = true)
theorem ascN_of {l : List Ent} (h : entsB l = true) : AscN l := by
  unfold AscN; rw [List.pairwise_iff_getElem]; intro i j hi hj hij
  have := ents_asc h i j hij hj
  rwa [nthE_get hi, nthE_get hj] at this
theorem ascN_ext : ∀ {a b : List Ent}, AscN a → AscN b → (∀ q, q ∈ a ↔ q ∈ b) → a = b
  | [], [], _, _, _ => rfl
  | [], q :: b, _, _, h => absurd ((h q).2 (List.mem_cons_self ..)) (List.not_mem_nil)
  | p :: a, [], _, _, h => absurd ((h p).1 (List.mem_cons_self ..)) (List.not_mem_nil)
  | p :: a, q :: b, ha, hb, h => by
    obtain ⟨ha1, ha2⟩ := List.pairwise_cons.1 ha
    obtain ⟨hb1, hb2⟩ := List.pairwise_cons.1 hb
    have e : p = q := by
      rcases List.mem_cons.1 ((h p).1 (List.mem_cons_self ..)) with h1 | h1
      · exact h1
      rcases List.mem_cons.1 ((h q).2 (List.mem_cons_self ..)) with h2 | h2
      · exact h2.symm
      have h3 := ltN_asymm (ha1 _ h2); rw [hb1 _ h1] at h3; cases h3
    subst e
    rw [ascN_ext ha2 hb2 (fun x => ?_)]
    constructor
    · intro hx
      rcases List.mem_cons.1 ((h x).1 (List.mem_cons_of_mem _ hx)) with h1 | h1
      · subst h1; have := ha1 _ hx; rw [ltN_irrefl] at this; cases this
      · exact h1
    · intro hx
      rcases List.mem_cons.1 ((h x).2 (List.mem_cons_of_mem _ hx)) with h1 | h1
      · subst h1; have := hb1 _ hx; rw [ltN_irrefl] at this; cases this
      · exact h1
theorem ascN_one : ∀ {l : List Ent}, AscN l → ∀ {p q : Ent}, p ∈ l → q ∈ l → p.1 = q.1 → p = q
  | x :: l, h, p, q, hp, hq, e => by
    obtain ⟨h1, h2⟩ := List.pairwise_cons.1 h
    rcases List.mem_cons.1 hp with rfl | hp2
    · rcases List.mem_cons.1 hq with rfl | hq2
      · rfl
      · have := h1 _ hq2; rw [e, ltN_irrefl] at this; cases this
    · rcases List.mem_cons.1 hq with rfl | hq2
      · have := h1 _ hp2; rw [← e, ltN_irrefl] at this; cases this
      · exact ascN_one h2 hp2 hq2 e
theorem lastE_none : ∀ {l : List Ent} {nm : ByteArray} {d : Int}, (∀ q ∈ l, q.1 ≠ nm) → lastE nm d l = d
  | [], _, _, _ => rfl
  | q :: l, nm, d, h => by
    rw [lastE, if_neg (by rw [str_beq, decide_eq_false (h q (List.mem_cons_self ..))]; simp)]
    exact lastE_none fun x hx => h x (List.mem_cons_of_mem _ hx)
theorem lastE_in : ∀ {l : List Ent} {nm : ByteArray} {c d : Int}, AscN l → (nm, c) ∈ l → lastE nm d l = c
  | q :: l, nm, c, d, h, hm => by
    obtain ⟨h1, h2⟩ := List.pairwise_cons.1 h
    rw [lastE]
    rcases List.mem_cons.1 hm with e | hm
    · subst e
      rw [if_pos (by simp)]
      exact lastE_none fun x hx e => by have := h1 _ hx; rw [e, ltN_irrefl] at this; cases this
    · exact lastE_in h2 hm
theorem lastE_or : ∀ (l : List Ent) (nm : ByteArray) (d : Int), lastE nm d l = d ∨ (nm, lastE nm d l) ∈ l
  | [], _, _ => .inl rfl
  | q :: l, nm, d => by
    rw [lastE]
    rcases lastE_or l nm (if (q.1.toList == nm.toList) = true then q.2 else d) with h | h
    · rw [h]
      by_cases hq : q.1 = nm
      · right
        rw [if_pos (by rw [hq]; simp), ← hq]
        exact List.mem_cons_self ..
      · exact .inl (if_neg (by rw [str_beq, decide_eq_false hq]; simp))
    · exact .inr (List.mem_cons_of_mem _ h)
theorem mem_less {l : List Ent} {nm : ByteArray} {q : Ent} : q ∈ lessE l nm ↔ q ∈ l ∧ q.1 ≠ nm := by
  unfold lessE otherE
  rw [List.mem_filter, str_beq]
  simp
theorem ascN_less {l : List Ent} (nm : ByteArray) (h : AscN l) : AscN (lessE l nm) := h.sublist List.filter_sublist
theorem mem_putIn {l : List Ent} {e q : Ent} (h : AscN (putInE l e)) : q ∈ putInE l e ↔ q = e ∨ (q ∈ l ∧ q.1 ≠ e.1) := by
  have hm : e ∈ putInE l e := by unfold putInE; simp
  have hs : l = l.take (atE e.1 l) ++ l.drop (atE e.1 l) := (List.take_append_drop _ _).symm
  constructor
  · intro hq
    by_cases hn : q.1 = e.1
    · exact .inl (ascN_one h hq hm hn)
    refine .inr ⟨?_, hn⟩
    unfold putInE at hq
    rcases List.mem_append.1 hq with h1 | h1
    · exact List.mem_of_mem_take h1
    rcases List.mem_cons.1 h1 with h1 | h1
    · exact absurd (congrArg Prod.fst h1) hn
    · exact List.mem_of_mem_drop h1
  · rintro (rfl | ⟨hq, hn⟩)
    · exact hm
    unfold putInE
    rw [hs] at hq
    rcases List.mem_append.1 hq with h1 | h1
    · exact List.mem_append_left _ h1
    refine List.mem_append_right _ (List.mem_cons_of_mem _ ?_)
    cases hc : decide (atE e.1 l < l.length) && decide ((nthE l (atE e.1 l)).1 = e.1)
    · exact h1
    · rw [Bool.and_eq_true, decide_eq_true_eq, decide_eq_true_eq] at hc
      rw [List.drop_eq_getElem_cons hc.1, ← nthE_get hc.1] at h1
      rcases List.mem_cons.1 h1 with h2 | h2
      · rw [h2] at hn; exact absurd hc.2 hn
      · exact h2
theorem ents_of10 {l : List Ent} (h3 : l.length ≤ 3) (h1 : ∀ q ∈ l, okP q) (h2 : AscE l) : entsB l = true := by
  rw [entsB_end (fun j hj => ?_)]
  · exact decide_eq_true h3
  · have hq := h1 _ (List.getElem_mem hj)
    rw [← nthE_get hj] at hq
    refine okE_yes hq.1 hq.2 ?_
    rcases Nat.eq_zero_or_pos j with h0 | h0
    · exact .inl h0
    · exact .inr (leB_of (h2 (j - 1) j (by omega) hj))
theorem ascE_of {l : List Ent} (h : AscN l) : AscE l := by
  intro i j hij hj
  rw [nthE_get (by omega), nthE_get hj]
  exact List.pairwise_iff_getElem.1 h i j (by omega) hj hij
theorem ents_less {l : List Ent} (nm : ByteArray) (h : entsB l = true) : entsB (lessE l nm) = true :=
  ents_of10 (Nat.le_trans (List.length_filter_le _ _) (entsB_at h).1) (fun q hq => ents_ok h q (mem_less.1 hq).1) (ascE_of (ascN_less nm (ascN_of h)))
/-- A name that is there may be given another print. -/
theorem put_over {l : List Ent} {nm : ByteArray} {c d : Int} (h : entsB l = true) (hm : (nm, c) ∈ l) (hd : isPr d = true) : entsB (putInE l (nm, d)) = true := by
  obtain ⟨j, hj, hjq⟩ := List.mem_iff_getElem.1 hm
  have hk : atE nm l < l.length ∧ (nthE l (atE nm l)).1 = nm := by
    have hjn : (nthE l j).1 = nm := by rw [nthE_get hj, hjq]
    rcases Nat.lt_trichotomy j (atE nm l) with h1 | h1 | h1
    · exact absurd hjn (lt_ne (atE_before h1))
    · rw [← h1]; exact ⟨hj, hjn⟩
    · have h2 := atE_there (p := nm) (show atE nm l < l.length by omega)
      have h3 := ents_asc h _ _ h1 hj
      rw [hjn, h2] at h3; cases h3
  rw [putInE_at rfl hk.1 hk.2]
  obtain ⟨k, hke⟩ : ∃ k, atE nm l = k := ⟨_, rfl⟩
  simp only [hke] at hk ⊢
  have e : l.take k ++ (nm, d) :: l.drop (k + 1) = l.set k (nm, d) := by rw [List.set_eq_take_append_cons_drop, if_pos hk.1]
  rw [e]
  have hw := ents_ok h _ hm
  refine ents_of10 (by rw [List.length_set]; exact (entsB_at h).1) (fun q hq => ?_) ?_
  · rcases List.mem_or_eq_of_mem_set hq with h1 | h1
    · exact ents_ok h q h1
    · rw [h1]; exact ⟨hw.1, hd⟩
  · have hn : ∀ i, i < l.length → (nthE (l.set k (nm, d)) i).1 = (nthE l i).1 := fun i hi => by
      rw [nthE_get (by rw [List.length_set]; exact hi), List.getElem_set]
      split
      · rename_i h1; subst h1; exact hk.2.symm
      · rw [nthE_get hi]
    intro i j' hij hj'
    rw [List.length_set] at hj'
    rw [hn i (by omega), hn j' hj']
    exact ents_asc h i j' hij hj'
/-! ### stores that grow -/
def Grows (l l' : List Pc) : Prop := storeB l' = true ∧ ∀ q ∈ l, q ∈ l'
theorem Grows.refl {l : List Pc} (h : storeB l = true) : Grows l l := ⟨h, fun _ h => h⟩
theorem Grows.trans {a b c : List Pc} (h : Grows a b) (h' : Grows b c) : Grows a c := ⟨h'.1, fun q hq => h'.2 q (h.2 q hq)⟩
theorem in_get {l : List Pc} {p : Int} {t : ByteArray} (hs : storeB l = true) (h : (p, t) ∈ l) : getB l p = some t := by
  unfold getB
  have hp := (storeB_iff.1 hs).2.2
  have : l.find? (fun q => decide (q.1 = p)) = some (p, t) := by
    clear hs
    induction l with
    | nil => cases h
    | cons x l ih =>
      obtain ⟨h1, h2⟩ := List.pairwise_cons.1 hp
      rcases List.mem_cons.1 h with h3 | h3
      · subst h3; rw [List.find?_cons_of_pos]; simp
      · have := h1 _ h3
        rw [List.find?_cons_of_neg]
        · exact ih h3 h2
        · simp; simp at this; omega
  rw [this]; rfl
theorem get_in {l : List Pc} {p : Int} {t : ByteArray} (h : getB l p = some t) : (p, t) ∈ l := by
  unfold getB at h
  cases hf : l.find? fun q => decide (q.1 = p) with
  | none => rw [hf] at h; cases h
  | some q =>
    rw [hf] at h
    have h1 := List.mem_of_find?_eq_some hf
    have h2 := List.find?_some hf
    simp at h2
    obtain rfl : q.2 = t := by simpa using h
    rw [← h2]; exact h1
theorem get_right {l : List Pc} {p : Int} {t : ByteArray} (hs : storeB l = true) (h : getB l p = some t) : textB t = true ∧ printB t = p ∧ 0 ≤ p := by
  have h1 := okPc_iff.1 ((storeB_iff.1 hs).2.1 _ (get_in h))
  exact ⟨h1.1, h1.2, by have := printB_ge h1.1; rw [h1.2] at this; exact this⟩
theorem Grows.get {l l' : List Pc} {p : Int} {t : ByteArray} (h : Grows l l') (hg : getB l p = some t) : getB l' p = some t := in_get h.1 (h.2 _ (get_in hg))
theorem getT_some {l : List Pc} {p : Int} {t : ByteArray} (h : getB l p = some t) : getT l p = t := by unfold getT; rw [h]; rfl
theorem fold_get {l : List Pc} {p : Int} (h : isFold (getT l p) = true) : getB l p = some (getT l p) := by
  unfold getT at h ⊢
  cases hg : getB l p with
  | none => rw [hg] at h; cases h
  | some t => rfl
theorem put_grown {l : List Pc} {t : ByteArray} (h : (putB l t).2.2 = true) : Grows l (putB l t).1 ∧ (putB l t).2.1 = printB t ∧ getB (putB l t).1 (printB t) = some t ∧ 0 ≤ printB t := by
  obtain ⟨_, h1, h2, h3, h4, h5, _, _⟩ := put_yes h
  exact ⟨⟨h3, h5⟩, h2, in_get h3 h4, printB_ge h1⟩
theorem ents_got {l : List Pc} {p : Int} {e : List Ent} (h : getB l p = some (folderB e)) (he : entsB e = true) (hp : 0 ≤ p) : entsAt l p = e := by
  unfold entsAt
  rw [if_pos hp, getT_some h, folderB_yes he, (fold_text he).1]
/-! ### what a write makes -/
/-- The print that a write makes of a folder. -/
def setP (leaf : Int) (l : List Pc) : Int → List ByteArray → Int
  | _, [] => leaf
  | p, nm :: r => printB (folderB (putInE (entsAt l p) (nm, setP leaf l (lastE nm (-1) (entsAt l p)) r)))
/-- The folders on the way can be read, and the new ones are in the second store. -/
def Made (leaf : Int) (l a : List Pc) : Int → List ByteArray → Prop
  | _, [] => True
  | p, nm :: r => (p < 0 ∨ isFold (getT l p) = true) ∧ entsB (putInE (entsAt l p) (nm, setP leaf l (lastE nm (-1) (entsAt l p)) r)) = true
    ∧ entsAt a (setP leaf l p (nm :: r)) = putInE (entsAt l p) (nm, setP leaf l (lastE nm (-1) (entsAt l p)) r) ∧ 0 ≤ setP leaf l p (nm :: r)
    ∧ getB a (setP leaf l p (nm :: r)) = some (folderB (putInE (entsAt l p) (nm, setP leaf l (lastE nm (-1) (entsAt l p)) r)))
    ∧ Made leaf l a (lastE nm (-1) (entsAt l p)) r
theorem set_made {leaf : Int} : ∀ {ps : List ByteArray} {l : List Pc} {p : Int}, storeB l = true → (setB leaf l p ps).2.2 = true →
    (setB leaf l p ps).2.1 = setP leaf l p ps ∧ Grows l (setB leaf l p ps).1 ∧ ∀ a, Grows (setB leaf l p ps).1 a → Made leaf l a p ps
  | [], l, p, hs, h => ⟨rfl, Grows.refl hs, fun _ _ => trivial⟩
  | nm :: r, l, p, hs, h => by
    rw [setB] at h ⊢
    split at h
    · cases h
    rename_i h1
    rw [if_neg h1]
    split at h
    · cases h
    rename_i h2
    rw [if_neg h2]
    split at h
    · cases h
    rename_i h3
    rw [if_neg h3]
    split at h
    · cases h
    rename_i h4
    rw [if_neg h4]
    rw [Bool.not_eq_false] at h3 h4
    obtain ⟨i1, i2, i3⟩ := set_made (p := lastE nm (-1) (entsAt l p)) hs h3
    rw [i1] at h h4 ⊢
    have h5 : entsB (putInE (entsAt l p) (nm, setP leaf l (lastE nm (-1) (entsAt l p)) r)) = true := by
      cases he : entsB (putInE (entsAt l p) (nm, setP leaf l (lastE nm (-1) (entsAt l p)) r))
      · rw [putE_no (entsAt_ok l p) he] at h4; cases h4
      · rfl
    rw [putE_yes (entsAt_ok l p) h5] at h ⊢
    obtain ⟨g1, g2, g3, g4⟩ := put_grown h
    refine ⟨by rw [g2]; rfl, i2.trans g1, fun a ga => ⟨?_, h5, ?_, ?_, ?_, i3 a (g1.trans ga)⟩⟩
    · by_cases hp : 0 ≤ p
      · right
        cases hf : isFold (getT l p)
        · rw [decide_eq_true hp, hf] at h1; exact absurd rfl h1
        · rfl
      · exact .inl (by omega)
    · exact ents_got (ga.get g3) h5 g4
    · exact g4
    · exact ga.get g3
/-! ### a drop, and a write back -/
theorem end_ok {l : List Pc} {r : List Ent} (hs : storeB l = true) (hr : entsB r = true) (h : (endB l r).2.2 = true) : Grows l (endB l r).1 ∧ ((endB l r).2.1 = -1 ∧ r = [] ∨ isPr (endB l r).2.1 = true) ∧ ∀ x, Grows (endB l r).1 x → entsAt x (endB l r).2.1 = r := by
  unfold endB at h ⊢
  by_cases h0 : r = []
  · rw [if_pos h0]
    exact ⟨Grows.refl hs, .inl ⟨rfl, h0⟩, fun x _ => by rw [h0]; rfl⟩
  · rw [if_neg h0] at h ⊢
    obtain ⟨g1, g2, g3, g4⟩ := put_grown h
    rw [g2]
    refine ⟨g1, .inr ?_, fun x hx => ents_got (hx.get g3) hr g4⟩
    unfold isPr
    have := printB_bd (folderB r)
    exact decide_eq_true ⟨g4, this.2⟩
theorem findE_in : ∀ {l : List Ent} {nm : ByteArray} {c : Int}, AscN l → (nm, c) ∈ l → findE l nm = some c
  | q :: l, nm, c, h, hm => by
    obtain ⟨h1, h2⟩ := List.pairwise_cons.1 h
    rw [findE]
    rcases List.mem_cons.1 hm with e | hm
    · subst e; rw [if_pos (by simp)]
    · rw [if_neg]
      · exact findE_in h2 hm
      · have := h1 _ hm
        rw [str_beq, decide_eq_true_eq]
        intro e
        rw [e, ltN_irrefl] at this; cases this
theorem drop_ok {l : List Pc} (hs : storeB l = true) : ∀ {ps : List ByteArray} {p : Int}, (dropB l p ps).2.2 = true → Grows l (dropB l p ps).1 ∧ ((dropB l p ps).2.1 = -1 ∨ isPr (dropB l p ps).2.1 = true)
  | [], p, h => by cases h
  | nm :: r, p, h => by
    have hE : entsB (foldL (getT l p)) = true := fold_ents
    rw [dropB] at h ⊢
    split at h
    · cases h
    rename_i h1
    rw [if_neg h1]
    split at h
    · rename_i h2
      rw [if_pos h2]
      have hr : entsB (leftE (foldL (getT l p)) nm (-1)) = true := by
        unfold leftE; rw [if_neg (by omega), dropE_ok hE]; exact ents_less nm hE
      obtain ⟨g1, g2, _⟩ := end_ok hs hr h
      exact ⟨g1, g2.imp (fun x => x.1) id⟩
    rename_i h2
    rw [if_neg h2]
    split at h
    · cases h
    rename_i h3
    rw [if_neg h3]
    rw [Bool.not_eq_false] at h3
    obtain ⟨i1, i2⟩ := drop_ok hs (p := lastE nm (-1) (foldL (getT l p))) h3
    have hm : (nm, lastE nm (-1) (foldL (getT l p))) ∈ foldL (getT l p) := by
      rcases lastE_or (foldL (getT l p)) nm (-1) with h4 | h4
      · omega
      · exact h4
    have hr : entsB (leftE (foldL (getT l p)) nm (dropB l (lastE nm (-1) (foldL (getT l p))) r).2.1) = true := by
      unfold leftE
      split
      · rename_i h5
        have h6 := put_over hE hm (i2.resolve_left (by omega))
        rw [putE_yes hE h6]; exact h6
      · rw [dropE_ok hE]; exact ents_less nm hE
    obtain ⟨g1, g2, _⟩ := end_ok i1.1 hr h
    exact ⟨i1.trans g1, g2.imp (fun x => x.1) id⟩
end Go.Proofs.YtglajbmopiolhaaGreatDoor
