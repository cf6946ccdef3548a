/-
  Chapter 13, plain: a write or a drop keeps a root good, and changes what is read at its path alone.
-/
import Derived.Test.YtglajbmopiolhaaMath13
namespace Go.Proofs.Ytglajbmopiolhaa
open Go.RowKit
set_option linter.unusedVariables false
/-- Names behind which others stand. -/
def preW : List ByteArray → List ByteArray → Bool
  | [], _ => true
  | _ :: _, [] => false
  | a :: r, b :: s => decide (a = b) && preW r s
/-- The last name of a write is that of no entry, or of a file. -/
def LeafOk (l : List Pc) : Int → List ByteArray → Prop
  | _, [] => True
  | p, nm :: r => (r = [] → lastE nm (-1) (entsAt l p) < 0 ∨ isFile (getT l (lastE nm (-1) (entsAt l p))) = true) ∧ LeafOk l (lastE nm (-1) (entsAt l p)) r
theorem set_leaf {leaf : Int} {l : List Pc} : ∀ {ps : List ByteArray} {p : Int}, (setB leaf l p ps).2.2 = true → LeafOk l p ps
  | [], p, h => trivial
  | nm :: r, p, h => by
    rw [setB] at h
    split at h
    · cases h
    split at h
    · cases h
    rename_i h2
    split at h
    · cases h
    rename_i h3
    rw [Bool.not_eq_false] at h3
    refine ⟨fun hr => ?_, set_leaf h3⟩
    by_cases hc : lastE nm (-1) (entsAt l p) < 0
    · exact .inl hc
    · right
      have hx : setTest l r (lastE nm (-1) (entsAt l p)) = false := by
        cases hx : setTest l r (lastE nm (-1) (entsAt l p))
        · rfl
        · exact absurd hx h2
      rw [setTest_not, decide_eq_true hr, Bool.true_and, decide_eq_false hc, Bool.false_or, Bool.not_eq_false'] at hx
      exact hx
theorem get_neg {l : List Pc} (hs : storeB l = true) {p : Int} (h : p < 0) : getT l p = ByteArray.empty := by
  refine get_none ?_
  unfold getO
  cases hg : getB l p with
  | none => rfl
  | some t => have := (get_right hs hg).2.2; omega
theorem ents_neg {l : List Pc} (hs : storeB l = true) (p : Int) : entsAt l p = foldL (getT l p) := by
  by_cases h : 0 ≤ p
  · exact foldL_at h
  · unfold entsAt; rw [if_neg h, get_neg hs (by omega), foldL_no empty_fold]
theorem fileO_neg {l : List Pc} (hs : storeB l = true) {p : Int} (h : p < 0) (ps : List ByteArray) : fileO l p ps = none := by
  cases ps with
  | nil => exact fileO_fold (by rw [get_neg hs h]; decide +kernel)
  | cons nm r => exact fileO_no (by rw [get_neg hs h, foldL_no empty_fold]; rfl)
/-- What names lead to, by the entry of the first one. -/
theorem fileO_last {l : List Pc} (hs : storeB l = true) (p : Int) (nm : ByteArray) (r : List ByteArray) : fileO l p (nm :: r) = fileO l (lastE nm (-1) (foldL (getT l p))) r := by
  cases hf : findE (foldL (getT l p)) nm with
  | none =>
    rw [fileO_no hf]
    rcases lastE_or (foldL (getT l p)) nm (-1) with h | h
    · rw [h, fileO_neg hs (by decide)]
    · rw [findE_in (ascN_of fold_ents) h] at hf; cases hf
  | some c => rw [fileO_go hf, lastE_in (ascN_of fold_ents) (findE_mem hf)]
theorem find_other {a b : List Ent} {nm : ByteArray} (ha : AscN a) (hb : AscN b) (h : ∀ c, (nm, c) ∈ a ↔ (nm, c) ∈ b) : findE a nm = findE b nm := by
  cases h1 : findE a nm with
  | none =>
    cases h2 : findE b nm with
    | none => rfl
    | some c => rw [findE_in ha ((h c).2 (findE_mem h2))] at h1; cases h1
  | some c => rw [findE_in hb ((h c).1 (findE_mem h1))]
/-- What an entry of a good folder is. -/
def Okay (l : List Pc) (d : Nat) (c : Int) : Prop := isFile (getT l c) = true ∨ (foldL (getT l c) ≠ [] ∧ Good l d c)
theorem okay_grows {l x : List Pc} (g : Grows l x) {d : Nat} {c : Int} (h : Okay l d c) : Okay x d c := by
  rcases h with h | ⟨h0, h1⟩
  · left; rw [has_same g (.inl h)]; exact h
  · right; rw [has_same g (.inr h1.fold)]; exact ⟨h0, good_grows g h1⟩
theorem okay_read {l x : List Pc} (g : Grows l x) {d : Nat} {c : Int} (h : Okay l d c) (ps : List ByteArray) : fileO x c ps = fileO l c ps := by
  rcases h with h | ⟨_, h⟩
  · rw [fileO_file h, fileO_file (by rw [has_same g (.inl h)]; exact h), has_same g (.inl h)]
  · exact fileO_grows g h
theorem good_of {l : List Pc} {d : Nat} {p : Int} (h : isFold (getT l p) = true) (h1 : ∀ q ∈ foldL (getT l p), Okay l d q.2) : Good l (d + 1) p := ⟨h, h1⟩
/-- A folder with an entry put anew. -/
theorem put_good {l a : List Pc} (hs : storeB l = true) (g : Grows l a) {d : Nat} {p P C : Int} {nm : ByteArray} (hp : p < 0 ∨ Good l (d + 1) p) (h0 : 0 ≤ P) (hE : entsB (putInE (foldL (getT l p)) (nm, C)) = true) (he : entsAt a P = putInE (foldL (getT l p)) (nm, C)) (hC : Okay a d C) :
    Good a (d + 1) P ∧ foldL (getT a P) ≠ [] ∧ (∀ r, fileO a P (nm :: r) = fileO a C r) ∧ ∀ q r, q ≠ nm → fileO a P (q :: r) = fileO l p (q :: r) := by
  rw [foldL_at h0] at he
  have hm := fun q => mem_putIn (ascN_of hE) (q := q)
  have hin : (nm, C) ∈ foldL (getT a P) := by rw [he]; exact (hm _).2 (.inl rfl)
  have hne : foldL (getT a P) ≠ [] := fun e => by rw [e] at hin; cases hin
  have hf : isFold (getT a P) = true := by
    cases hx : isFold (getT a P)
    · exact absurd (foldL_no hx) hne
    · rfl
  have old : ∀ q ∈ foldL (getT l p), Okay l d q.2 := fun q hq => by
    rcases hp with hp | hp
    · rw [get_neg hs hp, foldL_no empty_fold] at hq; cases hq
    · exact hp.2 q hq
  refine ⟨good_of hf fun q hq => ?_, hne, fun r => fileO_go (findE_in (ascN_of fold_ents) hin), fun q r hq => ?_⟩
  · rw [he] at hq
    rcases (hm q).1 hq with rfl | ⟨h1, _⟩
    · exact hC
    · exact okay_grows g (old q h1)
  · have e : findE (foldL (getT a P)) q = findE (foldL (getT l p)) q := find_other (ascN_of fold_ents) (ascN_of fold_ents) fun c => by
      rw [he, hm]
      constructor
      · rintro (h | ⟨h, _⟩)
        · exact absurd (congrArg Prod.fst h) hq
        · exact h
      · exact fun h => .inr ⟨h, hq⟩
    cases hf2 : findE (foldL (getT l p)) q with
    | none => rw [fileO_no hf2, fileO_no (by rw [e]; exact hf2)]
    | some c => rw [fileO_go hf2, fileO_go (c := c) (by rw [e]; exact hf2), okay_read g (old _ (findE_mem hf2))]
theorem made_good {leaf : Int} {l a : List Pc} (hs : storeB l = true) (g : Grows l a) (hl : isFile (getT a leaf) = true) : ∀ {ps : List ByteArray} {p : Int} {d : Nat}, ps ≠ [] → ps.length ≤ d → Made leaf l a p ps → LeafOk l p ps → (p < 0 ∨ Good l d p) →
    Good a d (setP leaf l p ps) ∧ foldL (getT a (setP leaf l p ps)) ≠ [] ∧ ∀ qs, fileO a (setP leaf l p ps) qs = if qs = ps then some (fileT (getT a leaf)) else fileO l p qs
  | [], p, d, h, _, _, _, _ => absurd rfl h
  | nm :: r, p, 0, _, h, _, _, _ => by simp at h
  | nm :: r, p, d + 1, _, hd, hM, hL, hp => by
    obtain ⟨m1, m2, m3, m4, m5, m6⟩ := hM
    obtain ⟨k1, k2⟩ := hL
    have hnil : fileO l p [] = none := by
      rcases hp with hp | hp
      · exact fileO_neg hs hp _
      · exact fileO_fold (fold_not hp.fold)
    have hlast := fileO_last hs p nm
    rw [ents_neg hs p] at m2 m3 m5 m6 k1 k2
    have hc : lastE nm (-1) (foldL (getT l p)) = -1 ∨ Okay l d (lastE nm (-1) (foldL (getT l p))) := by
      rcases lastE_or (foldL (getT l p)) nm (-1) with h1 | h1
      · exact .inl h1
      · right
        rcases hp with hp | hp
        · exact absurd (show _ ∈ ([] : List Ent) by rw [get_neg hs hp, foldL_no empty_fold] at h1; exact h1) List.not_mem_nil
        · have h2 : Okay l d (nm, lastE nm (-1) (foldL (getT l p))).2 := hp.2 (nm, lastE nm (-1) (foldL (getT l p))) h1
          exact h2
    have hP : setP leaf l p (nm :: r) = printB (folderB (putInE (foldL (getT l p)) (nm, setP leaf l (lastE nm (-1) (foldL (getT l p))) r))) := by rw [← ents_neg hs p]; rfl
    obtain ⟨P, hPP⟩ : ∃ P, setP leaf l p (nm :: r) = P := ⟨_, rfl⟩
    rw [hPP] at m3 m4 m5 hP ⊢
    obtain ⟨c, hcc⟩ : ∃ c, lastE nm (-1) (foldL (getT l p)) = c := ⟨_, rfl⟩
    rw [hcc] at m2 m3 m5 m6 k1 k2 hlast hc
    by_cases hr : r = []
    · subst hr
      have q := put_good hs g (d := d) hp m4 m2 m3 (.inl hl)
      refine ⟨q.1, q.2.1, fun qs => ?_⟩
      cases qs with
      | nil => rw [if_neg (by simp), hnil]; exact fileO_fold (fold_not q.1.fold)
      | cons nm' r' =>
        by_cases hn : nm' = nm
        · subst hn
          rw [q.2.2.1 r']
          show fileO a leaf r' = _
          rw [fileO_file hl, hlast]
          by_cases h0 : r' = []
          · subst h0; rw [if_pos rfl, if_pos rfl]
          · rw [if_neg h0, if_neg (by simpa using h0)]
            rcases k1 rfl with h1 | h1
            · rw [fileO_neg hs h1]
            · rw [fileO_file h1, if_neg h0]
        · rw [q.2.2.2 nm' r' hn, if_neg (by simp [hn])]
    · have hc2 : c < 0 ∨ Good l d c := by
        rcases hc with h1 | h1
        · left; omega
        · rcases h1 with h1 | h1
          · cases r with
            | nil => exact absurd rfl hr
            | cons n2 r2 =>
              rcases m6.1 with h2 | h2
              · exact .inl h2
              · rw [not_fold h1] at h2; cases h2
          · exact .inr h1.2
      obtain ⟨i1, i2, i3⟩ := made_good hs g hl hr (by rw [List.length_cons] at hd; omega) m6 k2 hc2
      have q := put_good hs g (d := d) hp m4 m2 m3 (.inr ⟨i2, i1⟩)
      refine ⟨q.1, q.2.1, fun qs => ?_⟩
      cases qs with
      | nil => rw [if_neg (by simp), hnil]; exact fileO_fold (fold_not q.1.fold)
      | cons nm' r' =>
        by_cases hn : nm' = nm
        · subst hn
          rw [q.2.2.1 r', i3, hlast]
          by_cases h0 : r' = r
          · subst h0; rw [if_pos rfl, if_pos rfl]
          · rw [if_neg h0, if_neg (by simpa using h0)]
        · rw [q.2.2.2 nm' r' hn, if_neg (by simp [hn])]
/-- A folder without one of its entries. -/
theorem less_good {l a : List Pc} (g : Grows l a) {d : Nat} {p P : Int} {nm : ByteArray} (hp : Good l (d + 1) p) (h0 : 0 ≤ P) (hf : isFold (getT a P) = true) (he : entsAt a P = lessE (foldL (getT l p)) nm) :
    Good a (d + 1) P ∧ (∀ r, fileO a P (nm :: r) = none) ∧ ∀ q r, q ≠ nm → fileO a P (q :: r) = fileO l p (q :: r) := by
  rw [foldL_at h0] at he
  refine ⟨good_of hf fun q hq => ?_, fun r => fileO_no (findE_not fun q hq => ?_), fun q r hq => ?_⟩
  · rw [he] at hq
    exact okay_grows g (hp.2 q (mem_less.1 hq).1)
  · rw [he] at hq; exact (mem_less.1 hq).2
  · have e : findE (foldL (getT a P)) q = findE (foldL (getT l p)) q := find_other (ascN_of fold_ents) (ascN_of fold_ents) fun c => by
      rw [he, mem_less]
      exact ⟨fun h => h.1, fun h => ⟨h, hq⟩⟩
    cases hf2 : findE (foldL (getT l p)) q with
    | none => rw [fileO_no hf2, fileO_no (by rw [e]; exact hf2)]
    | some c => rw [fileO_go hf2, fileO_go (c := c) (by rw [e]; exact hf2), okay_read g (hp.2 _ (findE_mem hf2))]
/-- A drop: nothing is left, or a good folder. The files behind the names are gone, the others are as before. -/
theorem drop_goodR {l : List Pc} (hs : storeB l = true) : ∀ {ps : List ByteArray} {p : Int} {d : Nat} {x : List Pc}, Good l d p → (dropB l p ps).2.2 = true → Grows (dropB l p ps).1 x →
    ((dropB l p ps).2.1 = -1 ∧ ∀ qs, fileO l p qs = none ∨ preW ps qs = true) ∨
    (0 ≤ (dropB l p ps).2.1 ∧ Good x d (dropB l p ps).2.1 ∧ foldL (getT x (dropB l p ps).2.1) ≠ [] ∧ ∀ qs, fileO x (dropB l p ps).2.1 qs = if preW ps qs = true then none else fileO l p qs)
  | [], p, d, x, _, h, _ => by cases h
  | nm :: r, p, 0, x, hg, _, _ => hg.elim
  | nm :: r, p, d + 1, x, hg, h, gx => by
    have hE : entsB (foldL (getT l p)) = true := fold_ents
    have hnil : fileO l p [] = none := fileO_fold (fold_not hg.fold)
    rw [dropB] at h gx ⊢
    split at h
    · cases h
    rename_i h1
    rw [if_neg h1] at gx ⊢
    have hm : (nm, lastE nm (-1) (foldL (getT l p))) ∈ foldL (getT l p) := by
      rcases lastE_or (foldL (getT l p)) nm (-1) with h4 | h4
      · omega
      · exact h4
    obtain ⟨c, hc⟩ : ∃ c, lastE nm (-1) (foldL (getT l p)) = c := ⟨_, rfl⟩
    rw [hc] at h gx hm h1 ⊢
    have hgo := fun r' => fileO_go (r := r') (find_asc hm)
    -- what is left when the entry goes
    have less : ∀ {y : List Pc} (i1 : Grows l y), (endB y (lessE (foldL (getT l p)) nm)).2.2 = true → Grows (endB y (lessE (foldL (getT l p)) nm)).1 x →
        ((endB y (lessE (foldL (getT l p)) nm)).2.1 = -1 ∧ ∀ q r', q ≠ nm → fileO l p (q :: r') = none) ∨
        (0 ≤ (endB y (lessE (foldL (getT l p)) nm)).2.1 ∧ Good x (d + 1) (endB y (lessE (foldL (getT l p)) nm)).2.1 ∧ foldL (getT x (endB y (lessE (foldL (getT l p)) nm)).2.1) ≠ [] ∧ (∀ r', fileO x (endB y (lessE (foldL (getT l p)) nm)).2.1 (nm :: r') = none) ∧ ∀ q r', q ≠ nm → fileO x (endB y (lessE (foldL (getT l p)) nm)).2.1 (q :: r') = fileO l p (q :: r')) := by
      intro y i1 he gy
      obtain ⟨e1, e2, e3⟩ := end_ok i1.1 (ents_less nm hE) he
      have g3 := e3 x gy
      rcases e2 with ⟨e4, e5⟩ | e4
      · left
        refine ⟨e4, fun q r' hq => ?_⟩
        cases hf : findE (foldL (getT l p)) q with
        | none => exact fileO_no hf
        | some c' =>
          have : (q, c') ∈ lessE (foldL (getT l p)) nm := mem_less.2 ⟨findE_mem hf, hq⟩
          rw [e5] at this; cases this
      · right
        have p0 : 0 ≤ (endB y (lessE (foldL (getT l p)) nm)).2.1 := by unfold isPr at e4; exact (of_decide_eq_true e4).1
        have hne : lessE (foldL (getT l p)) nm ≠ [] := fun e => by
          have e6 : (endB y (lessE (foldL (getT l p)) nm)).2.1 = -1 := by unfold endB; rw [if_pos e]
          omega
        have hfl : foldL (getT x (endB y (lessE (foldL (getT l p)) nm)).2.1) = lessE (foldL (getT l p)) nm := by rw [← foldL_at p0]; exact g3
        have hfx : isFold (getT x (endB y (lessE (foldL (getT l p)) nm)).2.1) = true := by
          cases hx : isFold (getT x (endB y (lessE (foldL (getT l p)) nm)).2.1)
          · rw [foldL_no hx] at hfl; exact absurd hfl.symm hne
          · rfl
        obtain ⟨q1, q2, q3⟩ := less_good (i1.trans (e1.trans gy)) hg p0 hfx g3
        exact ⟨p0, q1, by rw [hfl]; exact hne, q2, q3⟩
    split at h
    · rename_i h2
      rw [if_pos h2] at gx ⊢
      subst h2
      have hl : leftE (foldL (getT l p)) nm (-1) = lessE (foldL (getT l p)) nm := by unfold leftE; rw [if_neg (by omega), dropE_ok hE]
      rw [hl] at h gx ⊢
      rcases less (Grows.refl hs) h gx with ⟨a1, a2⟩ | ⟨a1, a2, a3, a4, a5⟩
      · left
        refine ⟨a1, fun qs => ?_⟩
        cases qs with
        | nil => exact .inl hnil
        | cons q r' =>
          by_cases hq : q = nm
          · subst hq; right; simp [preW]
          · exact .inl (a2 q r' hq)
      · right
        refine ⟨a1, a2, a3, fun qs => ?_⟩
        cases qs with
        | nil => rw [fileO_fold (fold_not a2.fold), hnil]; simp
        | cons q r' =>
          by_cases hq : q = nm
          · subst hq; rw [a4, if_pos (by simp [preW])]
          · rw [a5 q r' hq, if_neg (by simp [preW]; exact fun e => hq e.symm)]
    rename_i h2
    rw [if_neg h2] at gx ⊢
    split at h
    · cases h
    rename_i h3
    rw [if_neg h3] at gx ⊢
    rw [Bool.not_eq_false] at h3
    obtain ⟨i1, i2⟩ := drop_ok hs h3
    have hgc : Good l d c := by
      rcases hg.2 _ hm with h4 | h4
      · exfalso
        cases r with
        | nil => exact h2 rfl
        | cons n2 r2 =>
          rw [dropB, foldL_no (not_fold h4)] at h3
          rw [if_pos (show lastE n2 (-1) [] < 0 by show (-1 : Int) < 0; decide)] at h3
          cases h3
      · exact h4.2
    by_cases hl : 0 ≤ (dropB l c r).2.1
    · have h6 := put_over hE hm (i2.resolve_left (by omega))
      have e : leftE (foldL (getT l p)) nm (dropB l c r).2.1 = putInE (foldL (getT l p)) (nm, (dropB l c r).2.1) := by unfold leftE; rw [if_pos hl, putE_yes hE h6]
      rw [e] at h gx ⊢
      obtain ⟨e1, e2, e3⟩ := end_ok i1.1 h6 h
      have g3 := e3 x gx
      right
      have hin : (nm, (dropB l c r).2.1) ∈ putInE (foldL (getT l p)) (nm, (dropB l c r).2.1) := (mem_putIn (ascN_of h6)).2 (.inl rfl)
      have p0 : 0 ≤ (endB (dropB l c r).1 (putInE (foldL (getT l p)) (nm, (dropB l c r).2.1))).2.1 := by
        rcases e2 with ⟨_, e5⟩ | e4
        · rw [e5] at hin; cases hin
        · unfold isPr at e4; exact (of_decide_eq_true e4).1
      rcases drop_goodR hs hgc h3 (e1.trans gx) with ⟨b1, _⟩ | ⟨b1, b2, b3, b4⟩
      · omega
      obtain ⟨q1, q2, q3, q4⟩ := put_good hs (i1.trans (e1.trans gx)) (.inr hg) p0 h6 g3 (.inr ⟨b3, b2⟩)
      refine ⟨p0, q1, q2, fun qs => ?_⟩
      cases qs with
      | nil => rw [fileO_fold (fold_not q1.fold), hnil]; simp
      | cons q r' =>
        by_cases hq : q = nm
        · subst hq
          rw [q3, b4, hgo]
          simp [preW]
        · rw [q4 q r' hq, if_neg (by simp [preW]; exact fun e => absurd e.symm hq)]
    · have e : leftE (foldL (getT l p)) nm (dropB l c r).2.1 = lessE (foldL (getT l p)) nm := by unfold leftE; rw [if_neg hl, dropE_ok hE]
      rw [e] at h gx ⊢
      obtain ⟨e1, _, _⟩ := end_ok i1.1 (ents_less nm hE) h
      have hb : ∀ r', fileO l c r' = none ∨ preW r r' = true := by
        rcases drop_goodR hs hgc h3 (e1.trans gx) with ⟨_, b2⟩ | ⟨b1, _⟩
        · exact b2
        · exact absurd b1 hl
      rcases less i1 h gx with ⟨a1, a2⟩ | ⟨a1, a2, a3, a4, a5⟩
      · left
        refine ⟨a1, fun qs => ?_⟩
        cases qs with
        | nil => exact .inl hnil
        | cons q r' =>
          by_cases hq : q = nm
          · subst hq
            rcases hb r' with h7 | h7
            · left; rw [hgo]; exact h7
            · right; simpa [preW] using h7
          · exact .inl (a2 q r' hq)
      · right
        refine ⟨a1, a2, a3, fun qs => ?_⟩
        cases qs with
        | nil => rw [fileO_fold (fold_not a2.fold), hnil]; simp
        | cons q r' =>
          by_cases hq : q = nm
          · subst hq
            rw [a4]
            rcases hb r' with h7 | h7
            · rw [hgo, h7]; simp
            · rw [if_pos (by simpa [preW] using h7)]
          · rw [a5 q r' hq, if_neg (by simp [preW]; exact fun e => absurd e.symm hq)]
end Go.Proofs.Ytglajbmopiolhaa
