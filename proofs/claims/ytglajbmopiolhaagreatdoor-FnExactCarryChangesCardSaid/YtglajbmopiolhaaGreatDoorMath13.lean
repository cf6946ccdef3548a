/-
  Chapter 13, plain: roots that writes and drops made.
-/
import Derived.Test.YtglajbmopiolhaaGreatDoorMath11
import Derived.Test.YtglajbmopiolhaaGreatDoorMath10c
import Derived.Test.YtglajbmopiolhaaGreatDoorModel11
import Derived.Test.YtglajbmopiolhaaGreatDoorMath11b
import Derived.Test.YtglajbmopiolhaaGreatDoorFold
namespace Go.Proofs.YtglajbmopiolhaaGreatDoor
open Go.RowKit
set_option linter.unusedVariables false
/-- A folder whose entries all are files in the store, or such folders that are not empty; at most d names deep. -/
def Good (l : List Pc) : Nat → Int → Prop
  | 0, _ => False
  | d + 1, p => isFold (getT l p) = true ∧ ∀ q ∈ foldL (getT l p), isFile (getT l q.2) = true ∨ (foldL (getT l q.2) ≠ [] ∧ Good l d q.2)
theorem Good.fold {l : List Pc} : ∀ {d : Nat} {p : Int}, Good l d p → isFold (getT l p) = true
  | 0, _, h => h.elim
  | _ + 1, _, h => h.1
/-- The content of the file to which names lead. -/
def fileO (l : List Pc) : Int → List ByteArray → Option ByteArray
  | p, [] => if isFile (getT l p) = true then some (fileT (getT l p)) else none
  | p, nm :: r => match findE (foldL (getT l p)) nm with
    | none => none
    | some c => fileO l c r
theorem fileO_no {l : List Pc} {p : Int} {nm : ByteArray} {r : List ByteArray} (h : findE (foldL (getT l p)) nm = none) : fileO l p (nm :: r) = none := by rw [fileO, h]
theorem fileO_go {l : List Pc} {p c : Int} {nm : ByteArray} {r : List ByteArray} (h : findE (foldL (getT l p)) nm = some c) : fileO l p (nm :: r) = fileO l c r := by rw [fileO, h]
theorem fileO_nil {l : List Pc} {p : Int} (h : isFile (getT l p) = true) : fileO l p [] = some (fileT (getT l p)) := by rw [fileO, if_pos h]
theorem fileO_fold {l : List Pc} {p : Int} (h : isFile (getT l p) = false) : fileO l p [] = none := by rw [fileO, if_neg (by rw [h]; simp)]
theorem fold_not {s : ByteArray} (h : isFold s = true) : isFile s = false := by
  cases hf : isFile s
  · rfl
  · rw [not_fold hf] at h; cases h
theorem fileO_file {l : List Pc} {p : Int} {r : List ByteArray} (h : isFile (getT l p) = true) : fileO l p r = if r = [] then some (fileT (getT l p)) else none := by
  cases r with
  | nil => rw [fileO_nil h, if_pos rfl]
  | cons nm r => rw [fileO_no (by rw [foldL_no (not_fold h)]; rfl), if_neg (by simp)]
theorem file_get {l : List Pc} {p : Int} (h : isFile (getT l p) = true) : getB l p = some (getT l p) := by
  have := file_has h
  unfold getO at this
  cases hg : getB l p with
  | none => rw [hg] at this; cases this
  | some t => rw [getT_some hg]
theorem has_same {l x : List Pc} {p : Int} (g : Grows l x) (h : isFile (getT l p) = true ∨ isFold (getT l p) = true) : getT x p = getT l p := by
  rcases h with h | h
  · exact getT_some (g.get (file_get h))
  · exact getT_some (g.get (fold_get h))
theorem fileO_grows {l x : List Pc} (g : Grows l x) : ∀ {ps : List ByteArray} {d : Nat} {p : Int}, Good l d p → fileO x p ps = fileO l p ps
  | _, 0, _, h => h.elim
  | [], d + 1, p, h => by rw [fileO, fileO, has_same g (.inr h.1)]
  | nm :: r, d + 1, p, h => by
    have e := has_same g (.inr h.1)
    cases hf : findE (foldL (getT l p)) nm with
    | none => rw [fileO_no hf, fileO_no (by rw [e]; exact hf)]
    | some c =>
      rw [fileO_go hf, fileO_go (c := c) (by rw [e]; exact hf)]
      rcases h.2 _ (findE_mem hf) with h1 | ⟨_, h1⟩
      · rw [fileO_file h1, fileO_file (by rw [has_same g (.inl h1)]; exact h1), has_same g (.inl h1)]
      · exact fileO_grows g h1
theorem good_grows {l x : List Pc} (g : Grows l x) : ∀ {d : Nat} {p : Int}, Good l d p → Good x d p
  | 0, _, h => h
  | d + 1, p, h => by
    have e := has_same g (.inr h.1)
    refine ⟨by rw [e]; exact h.1, fun q hq => ?_⟩
    rw [e] at hq
    rcases h.2 q hq with h1 | ⟨h0, h1⟩
    · left; rw [has_same g (.inl h1)]; exact h1
    · right; rw [has_same g (.inr h1.fold)]; exact ⟨h0, good_grows g h1⟩
theorem find_asc {l : List Pc} {p : Int} {q : Ent} (h : q ∈ foldL (getT l p)) : findE (foldL (getT l p)) q.1 = some q.2 := findE_in (ascN_of fold_ents) h
/-- A good folder that is not empty has a file. -/
theorem good_has {l : List Pc} : ∀ {d : Nat} {p : Int}, Good l d p → foldL (getT l p) ≠ [] → ∃ ps, ps ≠ [] ∧ (fileO l p ps).isSome = true
  | 0, _, h, _ => h.elim
  | d + 1, p, h, h0 => by
    obtain ⟨q, hq⟩ := List.exists_mem_of_ne_nil _ h0
    rcases h.2 q hq with h1 | ⟨h2, h1⟩
    · exact ⟨[q.1], by simp, by rw [fileO_go (find_asc hq), fileO_nil h1]; rfl⟩
    · obtain ⟨ps, _, hs⟩ := good_has h1 h2
      exact ⟨q.1 :: ps, by simp, by rw [fileO_go (find_asc hq)]; exact hs⟩
/-- Files of a good folder are reached by few words. -/
theorem good_words {l : List Pc} : ∀ {ps : List ByteArray} {d : Nat} {p : Int}, Good l d p → (fileO l p ps).isSome = true → ps ≠ [] ∧ ps.length ≤ d ∧ ∀ s ∈ ps, wordB s = true
  | _, 0, _, h, _ => h.elim
  | [], d + 1, p, h, hs => by rw [fileO_fold (fold_not h.1)] at hs; cases hs
  | nm :: r, d + 1, p, h, hs => by
    cases hf : findE (foldL (getT l p)) nm with
    | none => rw [fileO_no hf] at hs; cases hs
    | some c =>
      rw [fileO_go hf] at hs
      have hm := findE_mem hf
      have hw := (ents_ok (fold_ents (s := getT l p)) _ hm).1
      rcases h.2 _ hm with h1 | ⟨_, h1⟩
      · rw [fileO_file h1] at hs
        by_cases hr : r = []
        · subst hr
          exact ⟨by simp, by simp, fun s hs => by rw [List.mem_singleton.1 hs]; exact hw⟩
        · rw [if_neg hr] at hs; cases hs
      · obtain ⟨_, h3, h4⟩ := good_words h1 hs
        exact ⟨by simp, by rw [List.length_cons]; omega, fun s hs => by
          rcases List.mem_cons.1 hs with rfl | hs
          · exact hw
          · exact h4 s hs⟩
theorem same_print {l : List Pc} (hs : storeB l = true) {p q : Int} (hp : getB l p = some (getT l p)) (hq : getB l q = some (getT l q)) (h : getT l p = getT l q) : p = q := by
  rw [← (get_right hs hp).2.1, ← (get_right hs hq).2.1, h]
/-- Two good folders in a valid store with the same files have the same print. -/
theorem good_same {l : List Pc} (hs : storeB l = true) : ∀ {d : Nat} {p p' : Int}, Good l d p → Good l d p' → (∀ ps, fileO l p ps = fileO l p' ps) → p = p'
  | 0, _, _, h, _, _ => h.elim
  | d + 1, p, p', h, h', he => by
    have one : ∀ {p p' : Int}, Good l (d + 1) p → Good l (d + 1) p' → (∀ ps, fileO l p ps = fileO l p' ps) → ∀ q ∈ foldL (getT l p), q ∈ foldL (getT l p') := by
      intro p p' h h' he q hq
      have hf := find_asc hq
      rcases h.2 q hq with h1 | ⟨h2, h1⟩
      · have e := he [q.1]
        rw [fileO_go hf, fileO_nil h1] at e
        cases hf' : findE (foldL (getT l p')) q.1 with
        | none => rw [fileO_no hf'] at e; cases e
        | some c' =>
          rw [fileO_go hf'] at e
          have hm := findE_mem hf'
          cases h3 : isFile (getT l c')
          · rw [fileO_fold h3] at e; cases e
          · rw [fileO_nil h3] at e
            have e2 : q.2 = c' := same_print hs (file_get h1) (file_get h3) (by rw [← file_back h1, ← file_back h3, Option.some.inj e])
            rw [← e2] at hm; exact hm
      · obtain ⟨r, hr, hsome⟩ := good_has h1 h2
        have e := he (q.1 :: r)
        cases hf' : findE (foldL (getT l p')) q.1 with
        | none => rw [fileO_go hf, fileO_no hf'] at e; rw [e] at hsome; cases hsome
        | some c' =>
          rw [fileO_go hf, fileO_go hf'] at e
          have hm := findE_mem hf'
          rcases h'.2 _ hm with h3 | ⟨_, h3⟩
          · rw [fileO_file h3, if_neg hr] at e; rw [e] at hsome; cases hsome
          · have e2 : q.2 = c' := good_same hs h1 h3 fun r' => by
              have := he (q.1 :: r')
              rwa [fileO_go hf, fileO_go hf'] at this
            rw [← e2] at hm; exact hm
    have eE : foldL (getT l p) = foldL (getT l p') := ascN_ext (ascN_of fold_ents) (ascN_of fold_ents) fun q => ⟨one h h' he q, one h' h (fun ps => (he ps).symm) q⟩
    refine same_print hs (fold_get h.1) (fold_get h'.1) ?_
    rw [← (fold_is h.1).2, ← (fold_is h'.1).2, eE]
/-! ### what is read -/
theorem walk_file {l : List Pc} : ∀ {ps : List ByteArray} {p : Int}, fileO l p ps = if (walkB l p ps).2 = true then (if isFile (getT l (walkB l p ps).1) = true then some (fileT (getT l (walkB l p ps).1)) else none) else none
  | [], p => by
    rw [fileO, walkB]
    cases hg : getO l p
    · rw [if_neg (show ¬ isFile (getT l p) = true by rw [(empty_none hg).1]; simp)]; rfl
    · rw [if_pos rfl]; rfl
  | nm :: r, p => by
    rw [walkB, childB]
    cases hf : findE (foldL (getT l p)) nm with
    | none => rw [fileO_no hf]; rfl
    | some c => rw [fileO_go hf]; exact walk_file
theorem rd_file {l : List Pc} {root : Int} {path : ByteArray} (hs : storeB l = true) (hp : isPath path = true) : rdB l root path = ((fileO l root (partsB path)).getD ByteArray.empty, (fileO l root (partsB path)).isSome) := by
  unfold rdB
  rw [wtB_yes hp hs, walk_file, (got_yes _ hs).1]
  cases hw : (walkB l root (partsB path)).2
  · rfl
  · cases hf : isFile (getT l (walkB l root (partsB path)).1)
    · rw [if_pos rfl, if_pos rfl, if_neg (by simp), fileT_no hf]; rfl
    · rfl
theorem rd_none {l : List Pc} {root : Int} {path : ByteArray} (hp : isPath path = false) : rdB l root path = (ByteArray.empty, false) := by
  unfold rdB; rw [wtB_no (.inl hp)]; rfl
theorem rd_grows {l x : List Pc} (hs : storeB l = true) (g : Grows l x) {d : Nat} {root : Int} (h : Good l d root) (path : ByteArray) : rdB x root path = rdB l root path := by
  cases hp : isPath path
  · rw [rd_none hp, rd_none hp]
  · rw [rd_file g.1 hp, rd_file hs hp, fileO_grows g h]
/-- Two good roots in a valid store at which the same is read are one. -/
theorem good_read {l : List Pc} (hs : storeB l = true) {p p' : Int} (h : Good l 3 p) (h' : Good l 3 p') (he : ∀ path, rdB l p path = rdB l p' path) : p = p' := by
  refine good_same hs h h' fun ps => ?_
  have key : ∀ {p p' : Int}, Good l 3 p → (∀ path, rdB l p path = rdB l p' path) → (fileO l p ps).isSome = true → fileO l p ps = fileO l p' ps := by
    intro p p' h he hsome
    obtain ⟨h0, h3, hw⟩ := good_words h hsome
    obtain ⟨e1, e2⟩ := path_words hw h3
    have e := he (pathB ps)
    rw [rd_file hs e2, rd_file hs e2, e1] at e
    obtain ⟨t, ht⟩ := Option.isSome_iff_exists.1 hsome
    rw [ht] at e ⊢
    simp only [Option.getD_some, Option.isSome_some, Prod.mk.injEq] at e
    obtain ⟨t', ht'⟩ := Option.isSome_iff_exists.1 e.2.symm
    rw [ht'] at e ⊢
    rw [e.1]; rfl
  cases h1 : (fileO l p ps).isSome
  · cases h2 : (fileO l p' ps).isSome
    · rw [Option.isSome_eq_false_iff, Option.isNone_iff_eq_none] at h1 h2
      rw [h1, h2]
    · exact (key h' (fun path => (he path).symm) h2).symm
  · exact key h he h1
end Go.Proofs.YtglajbmopiolhaaGreatDoor
/-
  Chapter 13, plain: a write or a drop keeps a root good, and changes what is read at its path alone.
-/
namespace Go.Proofs.YtglajbmopiolhaaGreatDoor
open Go.RowKit
set_option linter.unusedVariables false
/-- Names behind which others stand. -/
def preW : List ByteArray → List ByteArray → Bool
  | [], _ => true
  | _ :: _, [] => false
  | a :: r, b :: s => decide (a = b) && preW r s
theorem preW_self : ∀ (ps : List ByteArray), preW ps ps = true
  | [] => rfl
  | a :: r => by rw [preW, decide_eq_true rfl, preW_self r]; rfl
theorem preW_is : ∀ {ps qs : List ByteArray}, preW ps qs = true → ∃ s, ps ++ s = qs
  | [], qs, _ => ⟨qs, rfl⟩
  | _ :: _, [], h => by cases h
  | a :: r, b :: s, h => by
    rw [preW, Bool.and_eq_true, decide_eq_true_eq] at h
    obtain ⟨t, ht⟩ := preW_is h.2
    exact ⟨t, by rw [h.1, List.cons_append, ht]⟩
/-- The last name of a write is that of no entry, or of a file. -/
def LeafOk (l : List Pc) : Int → List ByteArray → Prop
  | _, [] => True
  | p, nm :: r => (r = [] → lastE nm (-1) (entsAt l p) < 0 ∨ isFile (getT l (lastE nm (-1) (entsAt l p))) = true) ∧ LeafOk l (lastE nm (-1) (entsAt l p)) r
theorem set_leaf {leaf : Int} {l : List Pc} : ∀ {ps : List ByteArray} {p : Int}, (setB leaf l p ps).2.2 = true → LeafOk l p ps
  | [], p, h => trivial
  | nm :: r, p, h => by
    rw [setB] at h
    split at h
    · cases h
    split at h
    · cases h
    rename_i h2
    split at h
    · cases h
    rename_i h3
    rw [Bool.not_eq_false] at h3
    refine ⟨fun hr => ?_, set_leaf h3⟩
    by_cases hc : lastE nm (-1) (entsAt l p) < 0
    · exact .inl hc
    · right
      have hx : setTest l r (lastE nm (-1) (entsAt l p)) = false := by
        cases hx : setTest l r (lastE nm (-1) (entsAt l p))
        · rfl
        · exact absurd hx h2
      rw [setTest_not, decide_eq_true hr, Bool.true_and, decide_eq_false hc, Bool.false_or, Bool.not_eq_false'] at hx
      exact hx
theorem get_neg {l : List Pc} (hs : storeB l = true) {p : Int} (h : p < 0) : getT l p = ByteArray.empty := by
  refine get_none ?_
  unfold getO
  cases hg : getB l p with
  | none => rfl
  | some t => have := (get_right hs hg).2.2; omega
theorem ents_neg {l : List Pc} (hs : storeB l = true) (p : Int) : entsAt l p = foldL (getT l p) := by
  by_cases h : 0 ≤ p
  · exact foldL_at h
  · unfold entsAt; rw [if_neg h, get_neg hs (by omega), foldL_no empty_fold]
theorem fileO_neg {l : List Pc} (hs : storeB l = true) {p : Int} (h : p < 0) (ps : List ByteArray) : fileO l p ps = none := by
  cases ps with
  | nil => exact fileO_fold (by rw [get_neg hs h]; decide +kernel)
  | cons nm r => exact fileO_no (by rw [get_neg hs h, foldL_no empty_fold]; rfl)
/-- What names lead to, by the entry of the first one. -/
theorem fileO_last {l : List Pc} (hs : storeB l = true) (p : Int) (nm : ByteArray) (r : List ByteArray) : fileO l p (nm :: r) = fileO l (lastE nm (-1) (foldL (getT l p))) r := by
  cases hf : findE (foldL (getT l p)) nm with
  | none =>
    rw [fileO_no hf]
    rcases lastE_or (foldL (getT l p)) nm (-1) with h | h
    · rw [h, fileO_neg hs (by decide)]
    · rw [findE_in (ascN_of fold_ents) h] at hf; cases hf
  | some c => rw [fileO_go hf, lastE_in (ascN_of fold_ents) (findE_mem hf)]
theorem find_other {a b : List Ent} {nm : ByteArray} (ha : AscN a) (hb : AscN b) (h : ∀ c, (nm, c) ∈ a ↔ (nm, c) ∈ b) : findE a nm = findE b nm := by
  cases h1 : findE a nm with
  | none =>
    cases h2 : findE b nm with
    | none => rfl
    | some c => rw [findE_in ha ((h c).2 (findE_mem h2))] at h1; cases h1
  | some c => rw [findE_in hb ((h c).1 (findE_mem h1))]
/-- What an entry of a good folder is. -/
def Okay (l : List Pc) (d : Nat) (c : Int) : Prop := isFile (getT l c) = true ∨ (foldL (getT l c) ≠ [] ∧ Good l d c)
theorem okay_grows {l x : List Pc} (g : Grows l x) {d : Nat} {c : Int} (h : Okay l d c) : Okay x d c := by
  rcases h with h | ⟨h0, h1⟩
  · left; rw [has_same g (.inl h)]; exact h
  · right; rw [has_same g (.inr h1.fold)]; exact ⟨h0, good_grows g h1⟩
theorem okay_read {l x : List Pc} (g : Grows l x) {d : Nat} {c : Int} (h : Okay l d c) (ps : List ByteArray) : fileO x c ps = fileO l c ps := by
  rcases h with h | ⟨_, h⟩
  · rw [fileO_file h, fileO_file (by rw [has_same g (.inl h)]; exact h), has_same g (.inl h)]
  · exact fileO_grows g h
theorem good_of {l : List Pc} {d : Nat} {p : Int} (h : isFold (getT l p) = true) (h1 : ∀ q ∈ foldL (getT l p), Okay l d q.2) : Good l (d + 1) p := ⟨h, h1⟩
/-- A folder with an entry put anew. -/
theorem put_good {l a : List Pc} (hs : storeB l = true) (g : Grows l a) {d : Nat} {p P C : Int} {nm : ByteArray} (hp : p < 0 ∨ Good l (d + 1) p) (h0 : 0 ≤ P) (hE : entsB (putInE (foldL (getT l p)) (nm, C)) = true) (he : entsAt a P = putInE (foldL (getT l p)) (nm, C)) (hC : Okay a d C) :
    Good a (d + 1) P ∧ foldL (getT a P) ≠ [] ∧ (∀ r, fileO a P (nm :: r) = fileO a C r) ∧ ∀ q r, q ≠ nm → fileO a P (q :: r) = fileO l p (q :: r) := by
  rw [foldL_at h0] at he
  have hm := fun q => mem_putIn (ascN_of hE) (q := q)
  have hin : (nm, C) ∈ foldL (getT a P) := by rw [he]; exact (hm _).2 (.inl rfl)
  have hne : foldL (getT a P) ≠ [] := fun e => by rw [e] at hin; cases hin
  have hf : isFold (getT a P) = true := by
    cases hx : isFold (getT a P)
    · exact absurd (foldL_no hx) hne
    · rfl
  have old : ∀ q ∈ foldL (getT l p), Okay l d q.2 := fun q hq => by
    rcases hp with hp | hp
    · rw [get_neg hs hp, foldL_no empty_fold] at hq; cases hq
    · exact hp.2 q hq
  refine ⟨good_of hf fun q hq => ?_, hne, fun r => fileO_go (findE_in (ascN_of fold_ents) hin), fun q r hq => ?_⟩
  · rw [he] at hq
    rcases (hm q).1 hq with rfl | ⟨h1, _⟩
    · exact hC
    · exact okay_grows g (old q h1)
  · have e : findE (foldL (getT a P)) q = findE (foldL (getT l p)) q := find_other (ascN_of fold_ents) (ascN_of fold_ents) fun c => by
      rw [he, hm]
      constructor
      · rintro (h | ⟨h, _⟩)
        · exact absurd (congrArg Prod.fst h) hq
        · exact h
      · exact fun h => .inr ⟨h, hq⟩
    cases hf2 : findE (foldL (getT l p)) q with
    | none => rw [fileO_no hf2, fileO_no (by rw [e]; exact hf2)]
    | some c => rw [fileO_go hf2, fileO_go (c := c) (by rw [e]; exact hf2), okay_read g (old _ (findE_mem hf2))]
theorem made_good {leaf : Int} {l a : List Pc} (hs : storeB l = true) (g : Grows l a) (hl : isFile (getT a leaf) = true) : ∀ {ps : List ByteArray} {p : Int} {d : Nat}, ps ≠ [] → ps.length ≤ d → Made leaf l a p ps → LeafOk l p ps → (p < 0 ∨ Good l d p) →
    Good a d (setP leaf l p ps) ∧ foldL (getT a (setP leaf l p ps)) ≠ [] ∧ ∀ qs, fileO a (setP leaf l p ps) qs = if qs = ps then some (fileT (getT a leaf)) else fileO l p qs
  | [], p, d, h, _, _, _, _ => absurd rfl h
  | nm :: r, p, 0, _, h, _, _, _ => by simp at h
  | nm :: r, p, d + 1, _, hd, hM, hL, hp => by
    obtain ⟨m1, m2, m3, m4, m5, m6⟩ := hM
    obtain ⟨k1, k2⟩ := hL
    have hnil : fileO l p [] = none := by
      rcases hp with hp | hp
      · exact fileO_neg hs hp _
      · exact fileO_fold (fold_not hp.fold)
    have hlast := fileO_last hs p nm
    rw [ents_neg hs p] at m2 m3 m5 m6 k1 k2
    have hc : lastE nm (-1) (foldL (getT l p)) = -1 ∨ Okay l d (lastE nm (-1) (foldL (getT l p))) := by
      rcases lastE_or (foldL (getT l p)) nm (-1) with h1 | h1
      · exact .inl h1
      · right
        rcases hp with hp | hp
        · exact absurd (show _ ∈ ([] : List Ent) by rw [get_neg hs hp, foldL_no empty_fold] at h1; exact h1) List.not_mem_nil
        · have h2 : Okay l d (nm, lastE nm (-1) (foldL (getT l p))).2 := hp.2 (nm, lastE nm (-1) (foldL (getT l p))) h1
          exact h2
    have hP : setP leaf l p (nm :: r) = printB (folderB (putInE (foldL (getT l p)) (nm, setP leaf l (lastE nm (-1) (foldL (getT l p))) r))) := by rw [← ents_neg hs p]; rfl
    obtain ⟨P, hPP⟩ : ∃ P, setP leaf l p (nm :: r) = P := ⟨_, rfl⟩
    rw [hPP] at m3 m4 m5 hP ⊢
    obtain ⟨c, hcc⟩ : ∃ c, lastE nm (-1) (foldL (getT l p)) = c := ⟨_, rfl⟩
    rw [hcc] at m2 m3 m5 m6 k1 k2 hlast hc
    by_cases hr : r = []
    · subst hr
      have q := put_good hs g (d := d) hp m4 m2 m3 (.inl hl)
      refine ⟨q.1, q.2.1, fun qs => ?_⟩
      cases qs with
      | nil => rw [if_neg (by simp), hnil]; exact fileO_fold (fold_not q.1.fold)
      | cons nm' r' =>
        by_cases hn : nm' = nm
        · subst hn
          rw [q.2.2.1 r']
          show fileO a leaf r' = _
          rw [fileO_file hl, hlast]
          by_cases h0 : r' = []
          · subst h0; rw [if_pos rfl, if_pos rfl]
          · rw [if_neg h0, if_neg (by simpa using h0)]
            rcases k1 rfl with h1 | h1
            · rw [fileO_neg hs h1]
            · rw [fileO_file h1, if_neg h0]
        · rw [q.2.2.2 nm' r' hn, if_neg (by simp [hn])]
    · have hc2 : c < 0 ∨ Good l d c := by
        rcases hc with h1 | h1
        · left; omega
        · rcases h1 with h1 | h1
          · cases r with
            | nil => exact absurd rfl hr
            | cons n2 r2 =>
              rcases m6.1 with h2 | h2
              · exact .inl h2
              · rw [not_fold h1] at h2; cases h2
          · exact .inr h1.2
      obtain ⟨i1, i2, i3⟩ := made_good hs g hl hr (by rw [List.length_cons] at hd; omega) m6 k2 hc2
      have q := put_good hs g (d := d) hp m4 m2 m3 (.inr ⟨i2, i1⟩)
      refine ⟨q.1, q.2.1, fun qs => ?_⟩
      cases qs with
      | nil => rw [if_neg (by simp), hnil]; exact fileO_fold (fold_not q.1.fold)
      | cons nm' r' =>
        by_cases hn : nm' = nm
        · subst hn
          rw [q.2.2.1 r', i3, hlast]
          by_cases h0 : r' = r
          · subst h0; rw [if_pos rfl, if_pos rfl]
          · rw [if_neg h0, if_neg (by simpa using h0)]
        · rw [q.2.2.2 nm' r' hn, if_neg (by simp [hn])]
/-- A folder without one of its entries. -/
theorem less_good {l a : List Pc} (g : Grows l a) {d : Nat} {p P : Int} {nm : ByteArray} (hp : Good l (d + 1) p) (h0 : 0 ≤ P) (hf : isFold (getT a P) = true) (he : entsAt a P = lessE (foldL (getT l p)) nm) :
    Good a (d + 1) P ∧ (∀ r, fileO a P (nm :: r) = none) ∧ ∀ q r, q ≠ nm → fileO a P (q :: r) = fileO l p (q :: r) := by
  rw [foldL_at h0] at he
  refine ⟨good_of hf fun q hq => ?_, fun r => fileO_no (findE_not fun q hq => ?_), fun q r hq => ?_⟩
  · rw [he] at hq
    exact okay_grows g (hp.2 q (mem_less.1 hq).1)
  · rw [he] at hq; exact (mem_less.1 hq).2
  · have e : findE (foldL (getT a P)) q = findE (foldL (getT l p)) q := find_other (ascN_of fold_ents) (ascN_of fold_ents) fun c => by
      rw [he, mem_less]
      exact ⟨fun h => h.1, fun h => ⟨h, hq⟩⟩
    cases hf2 : findE (foldL (getT l p)) q with
    | none => rw [fileO_no hf2, fileO_no (by rw [e]; exact hf2)]
    | some c => rw [fileO_go hf2, fileO_go (c := c) (by rw [e]; exact hf2), okay_read g (hp.2 _ (findE_mem hf2))]
/-- A drop: nothing is left, or a good folder. The files behind the names are gone, the others are as before. -/
theorem drop_goodR {l : List Pc} (hs : storeB l = true) : ∀ {ps : List ByteArray} {p : Int} {d : Nat} {x : List Pc}, Good l d p → (dropB l p ps).2.2 = true → Grows (dropB l p ps).1 x →
    ((dropB l p ps).2.1 = -1 ∧ ∀ qs, fileO l p qs = none ∨ preW ps qs = true) ∨
    (0 ≤ (dropB l p ps).2.1 ∧ Good x d (dropB l p ps).2.1 ∧ foldL (getT x (dropB l p ps).2.1) ≠ [] ∧ ∀ qs, fileO x (dropB l p ps).2.1 qs = if preW ps qs = true then none else fileO l p qs)
  | [], p, d, x, _, h, _ => by cases h
  | nm :: r, p, 0, x, hg, _, _ => hg.elim
  | nm :: r, p, d + 1, x, hg, h, gx => by
    have hE : entsB (foldL (getT l p)) = true := fold_ents
    have hnil : fileO l p [] = none := fileO_fold (fold_not hg.fold)
    rw [dropB] at h gx ⊢
    split at h
    · cases h
    rename_i h1
    rw [if_neg h1] at gx ⊢
    have hm : (nm, lastE nm (-1) (foldL (getT l p))) ∈ foldL (getT l p) := by
      rcases lastE_or (foldL (getT l p)) nm (-1) with h4 | h4
      · omega
      · exact h4
    obtain ⟨c, hc⟩ : ∃ c, lastE nm (-1) (foldL (getT l p)) = c := ⟨_, rfl⟩
    rw [hc] at h gx hm h1 ⊢
    have hgo := fun r' => fileO_go (r := r') (find_asc hm)
    -- what is left when the entry goes
    have less : ∀ {y : List Pc} (i1 : Grows l y), (endB y (lessE (foldL (getT l p)) nm)).2.2 = true → Grows (endB y (lessE (foldL (getT l p)) nm)).1 x →
        ((endB y (lessE (foldL (getT l p)) nm)).2.1 = -1 ∧ ∀ q r', q ≠ nm → fileO l p (q :: r') = none) ∨
        (0 ≤ (endB y (lessE (foldL (getT l p)) nm)).2.1 ∧ Good x (d + 1) (endB y (lessE (foldL (getT l p)) nm)).2.1 ∧ foldL (getT x (endB y (lessE (foldL (getT l p)) nm)).2.1) ≠ [] ∧ (∀ r', fileO x (endB y (lessE (foldL (getT l p)) nm)).2.1 (nm :: r') = none) ∧ ∀ q r', q ≠ nm → fileO x (endB y (lessE (foldL (getT l p)) nm)).2.1 (q :: r') = fileO l p (q :: r')) := by
      intro y i1 he gy
      obtain ⟨e1, e2, e3⟩ := end_ok i1.1 (ents_less nm hE) he
      have g3 := e3 x gy
      rcases e2 with ⟨e4, e5⟩ | e4
      · left
        refine ⟨e4, fun q r' hq => ?_⟩
        cases hf : findE (foldL (getT l p)) q with
        | none => exact fileO_no hf
        | some c' =>
          have : (q, c') ∈ lessE (foldL (getT l p)) nm := mem_less.2 ⟨findE_mem hf, hq⟩
          rw [e5] at this; cases this
      · right
        have p0 : 0 ≤ (endB y (lessE (foldL (getT l p)) nm)).2.1 := by unfold isPr at e4; exact (of_decide_eq_true e4).1
        have hne : lessE (foldL (getT l p)) nm ≠ [] := fun e => by
          have e6 : (endB y (lessE (foldL (getT l p)) nm)).2.1 = -1 := by unfold endB; rw [if_pos e]
          omega
        have hfl : foldL (getT x (endB y (lessE (foldL (getT l p)) nm)).2.1) = lessE (foldL (getT l p)) nm := by rw [← foldL_at p0]; exact g3
        have hfx : isFold (getT x (endB y (lessE (foldL (getT l p)) nm)).2.1) = true := by
          cases hx : isFold (getT x (endB y (lessE (foldL (getT l p)) nm)).2.1)
          · rw [foldL_no hx] at hfl; exact absurd hfl.symm hne
          · rfl
        obtain ⟨q1, q2, q3⟩ := less_good (i1.trans (e1.trans gy)) hg p0 hfx g3
        exact ⟨p0, q1, by rw [hfl]; exact hne, q2, q3⟩
    split at h
    · rename_i h2
      rw [if_pos h2] at gx ⊢
      subst h2
      have hl : leftE (foldL (getT l p)) nm (-1) = lessE (foldL (getT l p)) nm := by unfold leftE; rw [if_neg (by omega), dropE_ok hE]
      rw [hl] at h gx ⊢
      rcases less (Grows.refl hs) h gx with ⟨a1, a2⟩ | ⟨a1, a2, a3, a4, a5⟩
      · left
        refine ⟨a1, fun qs => ?_⟩
        cases qs with
        | nil => exact .inl hnil
        | cons q r' =>
          by_cases hq : q = nm
          · subst hq; right; simp [preW]
          · exact .inl (a2 q r' hq)
      · right
        refine ⟨a1, a2, a3, fun qs => ?_⟩
        cases qs with
        | nil => rw [fileO_fold (fold_not a2.fold), hnil]; simp
        | cons q r' =>
          by_cases hq : q = nm
          · subst hq; rw [a4, if_pos (by simp [preW])]
          · rw [a5 q r' hq, if_neg (by simp [preW]; exact fun e => hq e.symm)]
    rename_i h2
    rw [if_neg h2] at gx ⊢
    split at h
    · cases h
    rename_i h3
    rw [if_neg h3] at gx ⊢
    rw [Bool.not_eq_false] at h3
    obtain ⟨i1, i2⟩ := drop_ok hs h3
    have hgc : Good l d c := by
      rcases hg.2 _ hm with h4 | h4
      · exfalso
        cases r with
        | nil => exact h2 rfl
        | cons n2 r2 =>
          rw [dropB, foldL_no (not_fold h4)] at h3
          rw [if_pos (show lastE n2 (-1) [] < 0 by show (-1 : Int) < 0; decide)] at h3
          cases h3
      · exact h4.2
    by_cases hl : 0 ≤ (dropB l c r).2.1
    · have h6 := put_over hE hm (i2.resolve_left (by omega))
      have e : leftE (foldL (getT l p)) nm (dropB l c r).2.1 = putInE (foldL (getT l p)) (nm, (dropB l c r).2.1) := by unfold leftE; rw [if_pos hl, putE_yes hE h6]
      rw [e] at h gx ⊢
      obtain ⟨e1, e2, e3⟩ := end_ok i1.1 h6 h
      have g3 := e3 x gx
      right
      have hin : (nm, (dropB l c r).2.1) ∈ putInE (foldL (getT l p)) (nm, (dropB l c r).2.1) := (mem_putIn (ascN_of h6)).2 (.inl rfl)
      have p0 : 0 ≤ (endB (dropB l c r).1 (putInE (foldL (getT l p)) (nm, (dropB l c r).2.1))).2.1 := by
        rcases e2 with ⟨_, e5⟩ | e4
        · rw [e5] at hin; cases hin
        · unfold isPr at e4; exact (of_decide_eq_true e4).1
      rcases drop_goodR hs hgc h3 (e1.trans gx) with ⟨b1, _⟩ | ⟨b1, b2, b3, b4⟩
      · omega
      obtain ⟨q1, q2, q3, q4⟩ := put_good hs (i1.trans (e1.trans gx)) (.inr hg) p0 h6 g3 (.inr ⟨b3, b2⟩)
      refine ⟨p0, q1, q2, fun qs => ?_⟩
      cases qs with
      | nil => rw [fileO_fold (fold_not q1.fold), hnil]; simp
      | cons q r' =>
        by_cases hq : q = nm
        · subst hq
          rw [q3, b4, hgo]
          simp [preW]
        · rw [q4 q r' hq, if_neg (by simp [preW]; exact fun e => absurd e.symm hq)]
    · have e : leftE (foldL (getT l p)) nm (dropB l c r).2.1 = lessE (foldL (getT l p)) nm := by unfold leftE; rw [if_neg hl, dropE_ok hE]
      rw [e] at h gx ⊢
      obtain ⟨e1, _, _⟩ := end_ok i1.1 (ents_less nm hE) h
      have hb : ∀ r', fileO l c r' = none ∨ preW r r' = true := by
        rcases drop_goodR hs hgc h3 (e1.trans gx) with ⟨_, b2⟩ | ⟨b1, _⟩
        · exact b2
        · exact absurd b1 hl
      rcases less i1 h gx with ⟨a1, a2⟩ | ⟨a1, a2, a3, a4, a5⟩
      · left
        refine ⟨a1, fun qs => ?_⟩
        cases qs with
        | nil => exact .inl hnil
        | cons q r' =>
          by_cases hq : q = nm
          · subst hq
            rcases hb r' with h7 | h7
            · left; rw [hgo]; exact h7
            · right; simpa [preW] using h7
          · exact .inl (a2 q r' hq)
      · right
        refine ⟨a1, a2, a3, fun qs => ?_⟩
        cases qs with
        | nil => rw [fileO_fold (fold_not a2.fold), hnil]; simp
        | cons q r' =>
          by_cases hq : q = nm
          · subst hq
            rw [a4]
            rcases hb r' with h7 | h7
            · rw [hgo, h7]; simp
            · rw [if_pos (by simpa [preW] using h7)]
          · rw [a5 q r' hq, if_neg (by simp [preW]; exact fun e => absurd e.symm hq)]
end Go.Proofs.YtglajbmopiolhaaGreatDoor
/-
  Chapter 13, plain: what happened between two roots, and what carrying it leads to.
-/
namespace Go.Proofs.YtglajbmopiolhaaGreatDoor
open Go.RowKit
set_option linter.unusedVariables false
theorem path_eq {a b : ByteArray} (ha : isPath a = true) (hb : isPath b = true) (h : partsB a = partsB b) : a = b := by rw [← path_back ha, ← path_back hb, h]
theorem write_leaf {l : List Pc} {root : Int} {path content : ByteArray} (h : (writeB l root path content).2.2 = true) : LeafOk l root (partsB path) := by
  unfold writeB at h
  split at h
  · cases h
  split at h
  · cases h
  split at h
  · cases h
  rename_i h3
  rw [Bool.not_eq_false] at h3
  exact set_leaf h3
/-- A write to a good root: a good one, at which the same is read but at the path. -/
theorem write_goodR {l : List Pc} {root : Int} {path content : ByteArray} (h : (writeB l root path content).2.2 = true) (hg : Good l 3 root) :
    Good (writeB l root path content).1 3 (writeB l root path content).2.1 ∧ ∀ q, rdB (writeB l root path content).1 (writeB l root path content).2.1 q = if q = path then (content, true) else rdB l root q := by
  obtain ⟨hs, hp, hne, hc, _, hP, g, hM, hget, _⟩ := write_made h
  have hl : isFile (getT (writeB l root path content).1 (printB (fileB content))) = true := by rw [getT_some hget]; exact (file_folds hc).1
  have ht : fileT (getT (writeB l root path content).1 (printB (fileB content))) = content := by rw [getT_some hget]; exact (file_folds hc).2.2
  obtain ⟨g1, _, g3⟩ := made_good hs g hl hne parts_small.1 hM (write_leaf h) (.inr hg)
  rw [hP]
  refine ⟨g1, fun q => ?_⟩
  cases hq : isPath q
  · rw [rd_none hq, rd_none hq, if_neg (fun e => by rw [e, hp] at hq; cases hq)]
  · rw [rd_file g.1 hq, rd_file hs hq, g3]
    by_cases e : q = path
    · subst e; rw [if_pos rfl, if_pos rfl, ht]; rfl
    · rw [if_neg e, if_neg fun e2 => e (path_eq hq hp e2)]
theorem drop_root {l : List Pc} {root : Int} {path : ByteArray} (h : (dropAtB l root path).2.2 = true) :
    ((dropAtB l root path).2.1 = (dropB l root (partsB path)).2.1 ∧ 0 ≤ (dropB l root (partsB path)).2.1) ∨ ((dropB l root (partsB path)).2.1 < 0 ∧ getB (dropAtB l root path).1 (dropAtB l root path).2.1 = some (folderB [])) := by
  unfold dropAtB at h ⊢
  split at h
  · cases h
  rename_i h1
  rw [if_neg h1]
  split at h
  · cases h
  rename_i h2
  rw [if_neg h2]
  split at h
  · rename_i h3
    rw [if_pos h3]
    rw [Bool.and_eq_true, decide_eq_true_eq] at h3
    split at h
    · cases h
    rename_i h4
    rw [if_neg h4]
    rw [Bool.not_eq_false] at h4
    obtain ⟨_, g2, g3, _⟩ := put_grown h4
    refine .inr ⟨h3.2, ?_⟩
    show getB _ (putB (dropB l root (partsB path)).1 (folderB [])).2.1 = _
    rw [g2]; exact g3
  · rename_i h3
    rw [if_neg h3]
    split at h
    · cases h
    rename_i h4
    rw [if_neg h4]
    rw [Bool.not_eq_false] at h4
    rw [h4, Bool.true_and, decide_eq_true_eq] at h3
    exact .inl ⟨rfl, by omega⟩
theorem dropAt_goodR {l : List Pc} {root : Int} {path : ByteArray} (h : (dropAtB l root path).2.2 = true) (hg : Good l 3 root) :
    Good (dropAtB l root path).1 3 (dropAtB l root path).2.1 ∧ ∀ q, isPath q = true → rdB (dropAtB l root path).1 (dropAtB l root path).2.1 q = if preW (partsB path) (partsB q) = true then (ByteArray.empty, false) else rdB l root q := by
  obtain ⟨hs, hp, hne, hw, h3, g, _, _⟩ := drop_made h
  have hst := g.1
  rcases drop_goodR hs hg h3 g with ⟨a1, a2⟩ | ⟨a1, a2, a3, a4⟩
  · rcases drop_root h with ⟨b1, b2⟩ | ⟨b1, b2⟩
    · omega
    · have ht := getT_some b2
      have hf := fold_text (l := []) rfl
      rw [← folderB_yes (l := []) rfl] at hf
      have hfold : isFold (getT (dropAtB l root path).1 (dropAtB l root path).2.1) = true := by rw [ht]; exact hf.2
      have hE : foldL (getT (dropAtB l root path).1 (dropAtB l root path).2.1) = [] := by rw [ht]; exact hf.1
      have hno : ∀ qs, fileO (dropAtB l root path).1 (dropAtB l root path).2.1 qs = none := fun qs => by
        cases qs with
        | nil => exact fileO_fold (fold_not hfold)
        | cons nm r => exact fileO_no (by rw [hE]; rfl)
      refine ⟨good_of hfold (fun q hq => by rw [hE] at hq; cases hq), fun q hq => ?_⟩
      rw [rd_file hst hq, rd_file hs hq, hno]
      split
      · rfl
      · rename_i h5
        rcases a2 (partsB q) with h4 | h4
        · rw [h4]
        · exact absurd h4 h5
  · rcases drop_root h with ⟨b1, _⟩ | ⟨b1, _⟩
    · rw [b1]
      refine ⟨a2, fun q hq => ?_⟩
      rw [rd_file hst hq, rd_file hs hq, a4]
      split
      · rfl
      · rfl
    · omega
theorem fileO_beyond {l : List Pc} : ∀ {ps s : List ByteArray} {p : Int}, (fileO l p ps).isSome = true → s ≠ [] → fileO l p (ps ++ s) = none
  | [], s, p, h, hs => by
    cases hf : isFile (getT l p)
    · rw [fileO_fold hf] at h; cases h
    · rw [List.nil_append, fileO_file hf, if_neg hs]
  | nm :: r, s, p, h, hs => by
    cases hf : findE (foldL (getT l p)) nm with
    | none => rw [fileO_no hf] at h; cases h
    | some c =>
      rw [fileO_go hf] at h
      rw [List.cons_append, fileO_go hf]; exact fileO_beyond h hs
/-- A drop of a file of a good root: a good one, at which the same is read but at the path. -/
theorem drop_file {l : List Pc} {root : Int} {path : ByteArray} (h : (dropAtB l root path).2.2 = true) (hg : Good l 3 root) (hr : (rdB l root path).2 = true) :
    Good (dropAtB l root path).1 3 (dropAtB l root path).2.1 ∧ ∀ q, rdB (dropAtB l root path).1 (dropAtB l root path).2.1 q = if q = path then (ByteArray.empty, false) else rdB l root q := by
  obtain ⟨g1, g2⟩ := dropAt_goodR h hg
  obtain ⟨hs, hp, _⟩ := drop_made h
  refine ⟨g1, fun q => ?_⟩
  cases hq : isPath q
  · rw [rd_none hq, rd_none hq]; simp
  rw [g2 q hq]
  by_cases e : q = path
  · subst e; rw [if_pos rfl, if_pos (preW_self _)]
  rw [if_neg e]
  split
  · rename_i h4
    obtain ⟨s, h5⟩ := preW_is h4
    have h6 : s ≠ [] := fun e2 => by
      rw [e2, List.append_nil] at h5
      exact e (path_eq hq hp h5.symm)
    rw [rd_file hs hp] at hr
    rw [rd_file hs hq, ← h5, fileO_beyond hr h6]; rfl
  · rfl
theorem write_grows {l : List Pc} {root : Int} {path content : ByteArray} (h : (writeB l root path content).2.2 = true) : Grows l (writeB l root path content).1 := (write_made h).2.2.2.2.2.2.1
theorem dropAt_grows {l : List Pc} {root : Int} {path : ByteArray} (h : (dropAtB l root path).2.2 = true) : Grows l (dropAtB l root path).1 := by
  obtain ⟨hs, _, _, _, h3, g, _⟩ := drop_made h
  exact (drop_ok hs h3).1.trans g
/-- The folder without entries is good. -/
theorem empty_goodR {l : List Pc} (h : (putB l (folderB [])).2.2 = true) : Good (putB l (folderB [])).1 3 (putB l (folderB [])).2.1 := by
  obtain ⟨_, g2, g3, _⟩ := put_grown h
  have hf := fold_text (l := []) rfl
  rw [← folderB_yes (l := []) rfl] at hf
  have ht := getT_some g3
  rw [g2]
  exact good_of (by rw [ht]; exact hf.2) (fun q hq => by rw [ht, hf.1] at hq; cases hq)
/-! ### changes -/
def goneC (l : List Pc) (a b : Int) : List Ent := ((allB l a).filter fun s => !(rdB l b s).2).map fun s => (s, 2)
def newT (l : List Pc) (a b : Int) (s : ByteArray) : Bool := !(rdB l a s).2 || !decide ((rdB l a s).1 = (rdB l b s).1)
def newK (l : List Pc) (a : Int) (s : ByteArray) : Int := if (rdB l a s).2 = true then 1 else 0
def newC (l : List Pc) (a b : Int) : List Ent := ((allB l b).filter (newT l a b)).map fun s => (s, newK l a s)
def chgB (l : List Pc) (a b : Int) : List Ent := goneC l a b ++ newC l a b
/-- What one change leads to. -/
def stepC (l : List Pc) (p other : Int) (q : Ent) : List Pc × Int × Bool :=
  if q.2 = 2 then dropAtB l p q.1 else ((writeB l p q.1 (rdB l other q.1).1).1, (writeB l p q.1 (rdB l other q.1).1).2.1, (writeB l p q.1 (rdB l other q.1).1).2.2 && (rdB l other q.1).2)
def okC (l : List Pc) (p other : Int) (q : Ent) : Bool := (stepC l p other q).2.2 && in3 q.2 0 2
def carryG (other : Int) : List Pc → Int → List Ent → Option (List Pc × Int)
  | l, p, [] => some (l, p)
  | l, p, q :: r => if okC l p other q = true then carryG other (stepC l p other q).1 (stepC l p other q).2.1 r else none
theorem carry_reads {other : Int} : ∀ {cs : List Ent} {l x : List Pc} {p P : Int}, storeB l = true → Good l 3 p → Good l 3 other → (cs.map Prod.fst).Nodup → (∀ q ∈ cs, q.2 = 2 → (rdB l p q.1).2 = true ∧ rdB l other q.1 = (ByteArray.empty, false)) → carryG other l p cs = some (x, P) →
    Grows l x ∧ Good x 3 P ∧ ∀ path, (path ∈ cs.map Prod.fst → rdB x P path = rdB l other path) ∧ (path ∉ cs.map Prod.fst → rdB x P path = rdB l p path)
  | [], l, x, p, P, hs, hp, ho, _, _, h => by
    simp only [carryG, Option.some.injEq, Prod.mk.injEq] at h
    obtain ⟨rfl, rfl⟩ := h
    exact ⟨Grows.refl hs, hp, fun path => ⟨fun h => by simp at h, fun _ => rfl⟩⟩
  | q :: r, l, x, p, P, hs, hp, ho, hn, hk, h => by
    rw [carryG] at h
    split at h
    rotate_left
    · cases h
    rename_i hok
    unfold okC at hok
    rw [Bool.and_eq_true] at hok
    rw [List.map_cons, List.nodup_cons] at hn
    have one : Grows l (stepC l p other q).1 ∧ Good (stepC l p other q).1 3 (stepC l p other q).2.1 ∧ ∀ path, rdB (stepC l p other q).1 (stepC l p other q).2.1 path = if path = q.1 then rdB l other q.1 else rdB l p path := by
      have h1 := hok.1
      unfold stepC at h1 ⊢
      by_cases h2 : q.2 = 2
      · rw [if_pos h2] at h1 ⊢
        obtain ⟨k1, k2⟩ := hk q (List.mem_cons_self ..) h2
        obtain ⟨d1, d2⟩ := drop_file h1 hp k1
        exact ⟨dropAt_grows h1, d1, fun path => by rw [d2, k2]⟩
      · rw [if_neg h2] at h1 ⊢
        rw [Bool.and_eq_true] at h1
        obtain ⟨d1, d2⟩ := write_goodR h1.1 hp
        refine ⟨write_grows h1.1, d1, fun path => ?_⟩
        show rdB (writeB l p q.1 (rdB l other q.1).1).1 (writeB l p q.1 (rdB l other q.1).1).2.1 path = _
        rw [d2]
        have : ((rdB l other q.1).1, true) = rdB l other q.1 := by rw [← h1.2]
        rw [this]
    obtain ⟨o1, o2, o3⟩ := one
    have ho' : ∀ path, rdB (stepC l p other q).1 other path = rdB l other path := fun path => rd_grows hs o1 ho path
    obtain ⟨i1, i2, i3⟩ := carry_reads (cs := r) o1.1 o2 (good_grows o1 ho) hn.2 (fun s hs' h2 => by
      obtain ⟨k1, k2⟩ := hk s (List.mem_cons_of_mem _ hs') h2
      have hne : s.1 ≠ q.1 := fun e => hn.1 (by rw [← e]; exact List.mem_map_of_mem hs')
      exact ⟨by rw [o3, if_neg hne]; exact k1, by rw [ho']; exact k2⟩) h
    refine ⟨o1.trans i1, i2, fun path => ?_⟩
    obtain ⟨y1, y2⟩ := i3 path
    rw [List.map_cons]
    by_cases e1 : path ∈ r.map Prod.fst
    · have h1 := (y1 e1).trans (ho' path)
      exact ⟨fun _ => h1, fun h => absurd (List.mem_cons_of_mem _ e1) h⟩
    · have h1 := (y2 e1).trans (o3 path)
      by_cases e2 : path = q.1
      · rw [if_pos e2] at h1
        exact ⟨fun _ => by rw [h1, e2], fun h => absurd (by rw [e2]; exact List.mem_cons_self ..) h⟩
      · rw [if_neg e2] at h1
        exact ⟨fun h => by
          rcases List.mem_cons.1 h with e | e
          · exact absurd e e2
          · exact absurd e e1, fun _ => h1⟩
theorem gone_names (l : List Pc) (a b : Int) : (goneC l a b).map Prod.fst = (allB l a).filter fun s => !(rdB l b s).2 := by
  unfold goneC; rw [List.map_map]; exact List.map_id _
theorem new_names (l : List Pc) (a b : Int) : (newC l a b).map Prod.fst = (allB l b).filter (newT l a b) := by
  unfold newC; rw [List.map_map]; exact List.map_id _
theorem chg_names (l : List Pc) (a b : Int) : (chgB l a b).map Prod.fst = ((allB l a).filter fun s => !(rdB l b s).2) ++ (allB l b).filter (newT l a b) := by
  unfold chgB; rw [List.map_append, gone_names, new_names]
theorem chg_nodup (l : List Pc) (a b : Int) : ((chgB l a b).map Prod.fst).Nodup := by
  rw [chg_names, List.nodup_append]
  refine ⟨(all_nodup l a).filter _, (all_nodup l b).filter _, fun x hx y hy e => ?_⟩
  subst e
  rw [List.mem_filter] at hx hy
  rw [(all_iff.1 hy.1).1] at hx
  cases hx.2
theorem rd_false {l : List Pc} {p : Int} {path : ByteArray} (h : (rdB l p path).2 = false) : rdB l p path = (ByteArray.empty, false) := by
  have := (rd_facts l p path).2 h
  rw [← this, ← h]
/-- All changes from a good root to a good root, carried to the first one, lead to the second one. -/
theorem carry_goal {l x : List Pc} {a b P : Int} (hs : storeB l = true) (ha : Good l 3 a) (hb : Good l 3 b) (h : carryG b l a (chgB l a b) = some (x, P)) : storeB x = true ∧ P = b := by
  obtain ⟨g, h1, h2⟩ := carry_reads hs ha hb (chg_nodup l a b) (fun q hq h2 => by
    unfold chgB at hq
    rcases List.mem_append.1 hq with hq | hq
    · unfold goneC at hq
      obtain ⟨s, hs', rfl⟩ := List.mem_map.1 hq
      rw [List.mem_filter] at hs'
      exact ⟨(all_iff.1 hs'.1).1, rd_false (by simpa using hs'.2)⟩
    · unfold newC at hq
      obtain ⟨s, _, rfl⟩ := List.mem_map.1 hq
      have : newK l a s = 2 := h2
      unfold newK at this; split at this <;> cases this) h
  refine ⟨g.1, good_read g.1 h1 (good_grows g hb) fun path => ?_⟩
  rw [rd_grows hs g hb]
  by_cases hm : path ∈ (chgB l a b).map Prod.fst
  · exact (h2 path).1 hm
  · rw [(h2 path).2 hm]
    rw [chg_names, List.mem_append, List.mem_filter, List.mem_filter] at hm
    cases hx : (rdB l a path).2
    · rw [rd_false hx]
      cases hy : (rdB l b path).2
      · rw [rd_false hy]
      · exfalso
        by_cases hp : partsB path = []
        · have : (fileO l b []).isSome = true := by
            cases hq : isPath path
            · rw [rd_none hq] at hy; cases hy
            · rw [rd_file hs hq, hp] at hy; exact hy
          rw [fileO_fold (fold_not hb.fold)] at this; cases this
        · exact hm (.inr ⟨all_iff.2 ⟨hy, hp⟩, by unfold newT; rw [hx]; rfl⟩)
    · have hp : partsB path ≠ [] := fun hp => by
        have : (fileO l a []).isSome = true := by
          cases hq : isPath path
          · rw [rd_none hq] at hx; cases hx
          · rw [rd_file hs hq, hp] at hx; exact hx
        rw [fileO_fold (fold_not ha.fold)] at this; cases this
      have hy : (rdB l b path).2 = true := by
        cases hy : (rdB l b path).2
        · exact absurd (.inl ⟨all_iff.2 ⟨hx, hp⟩, by rw [hy]; rfl⟩) hm
        · rfl
      have he : (rdB l a path).1 = (rdB l b path).1 := by
        by_cases he : (rdB l a path).1 = (rdB l b path).1
        · exact he
        · exact absurd (.inr ⟨all_iff.2 ⟨hy, hp⟩, by unfold newT; rw [decide_eq_false he, Bool.not_false, Bool.or_true]⟩) hm
      exact Prod.ext he (by rw [hx, hy])
end Go.Proofs.YtglajbmopiolhaaGreatDoor
/-
  Chapter 13, plain: the order of files, when two roots have the same, and how many changes there are.
-/
namespace Go.Proofs.YtglajbmopiolhaaGreatDoor
open Go.RowKit
set_option linter.unusedVariables false
/-! ### the order of files -/
def ltW : List ByteArray → List ByteArray → Bool
  | a :: r, b :: s => ltN a b || (decide (a = b) && ltW r s)
  | [], _ :: _ => true
  | _, [] => false
theorem ltW_asymm : ∀ {a b : List ByteArray}, ltW a b = true → ltW b a = false
  | [], [], h => by cases h
  | [], _ :: _, _ => rfl
  | _ :: _, [], h => by cases h
  | a :: r, b :: s, h => by
    rw [ltW, Bool.or_eq_true, Bool.and_eq_true, decide_eq_true_eq] at h
    rw [ltW, Bool.or_eq_false_iff, Bool.and_eq_false_iff]
    rcases h with h | ⟨rfl, h⟩
    · refine ⟨ltN_asymm h, .inl (decide_eq_false fun e => ?_)⟩
      rw [e, ltN_irrefl] at h; cases h
    · exact ⟨ltN_irrefl _, .inr (ltW_asymm h)⟩
theorem ltW_same : ∀ (ps : List ByteArray) {u v : List ByteArray}, ltW u v = true → ltW (ps ++ u) (ps ++ v) = true
  | [], _, _, h => h
  | a :: ps, u, v, h => by
    rw [List.cons_append, List.cons_append, ltW, decide_eq_true rfl, Bool.true_and, ltW_same ps h, Bool.or_true]
theorem asc_ext {R : ByteArray → ByteArray → Bool} (hR : ∀ x y, R x y = true → R y x = false) : ∀ {a b : List ByteArray}, a.Pairwise (fun x y => R x y = true) → b.Pairwise (fun x y => R x y = true) → (∀ q, q ∈ a ↔ q ∈ b) → a = b
  | [], [], _, _, _ => rfl
  | [], q :: b, _, _, h => absurd ((h q).2 (List.mem_cons_self ..)) (List.not_mem_nil)
  | p :: a, [], _, _, h => absurd ((h p).1 (List.mem_cons_self ..)) (List.not_mem_nil)
  | p :: a, q :: b, ha, hb, h => by
    have irr : ∀ x, R x x = true → False := fun x hx => by have := hR x x hx; rw [hx] at this; cases this
    obtain ⟨ha1, ha2⟩ := List.pairwise_cons.1 ha
    obtain ⟨hb1, hb2⟩ := List.pairwise_cons.1 hb
    have e : p = q := by
      rcases List.mem_cons.1 ((h p).1 (List.mem_cons_self ..)) with h1 | h1
      · exact h1
      rcases List.mem_cons.1 ((h q).2 (List.mem_cons_self ..)) with h2 | h2
      · exact h2.symm
      have h3 := hR _ _ (ha1 _ h2); rw [hb1 _ h1] at h3; cases h3
    subst e
    rw [asc_ext hR ha2 hb2 (fun x => ?_)]
    constructor
    · intro hx
      rcases List.mem_cons.1 ((h x).1 (List.mem_cons_of_mem _ hx)) with h1 | h1
      · subst h1; exact (irr _ (ha1 _ hx)).elim
      · exact h1
    · intro hx
      rcases List.mem_cons.1 ((h x).2 (List.mem_cons_of_mem _ hx)) with h1 | h1
      · subst h1; exact (irr _ (hb1 _ hx)).elim
      · exact h1
theorem files_asc {l : List Pc} : ∀ (d : Nat) (p : Int) (ps : List ByteArray), (∀ s ∈ ps, wordB s = true) → ps.length + d ≤ 3 → (filesB l d p ps).Pairwise fun x y => ltW (partsB x) (partsB y) = true
  | 0, p, ps, hw, h3 => by
    rw [filesB]
    split
    · simp
    · simp
  | d + 1, p, ps, hw, h3 => by
    rw [filesB]
    split
    · simp
    rw [List.pairwise_flatMap]
    have hE := fold_ents (s := getT l p)
    refine ⟨fun e he => files_asc d e.2 (ps ++ [e.1]) (fun s hs => ?_) (by rw [List.length_append, List.length_singleton]; omega), ?_⟩
    · rcases List.mem_append.1 hs with h | h
      · exact hw s h
      · rw [List.mem_singleton.1 h]; exact (ents_ok hE e he).1
    · have hpw : (foldL (getT l p)).Pairwise fun a b => a ∈ foldL (getT l p) ∧ b ∈ foldL (getT l p) ∧ ltN a.1 b.1 = true := by
        rw [List.pairwise_iff_getElem]
        intro i j hi hj hij
        exact ⟨List.getElem_mem _, List.getElem_mem _, List.pairwise_iff_getElem.1 (ascN_of hE) i j hi hj hij⟩
      refine hpw.imp fun {a b} hab x hx y hy => ?_
      obtain ⟨r1, a1, _, a3, a4, _⟩ := (files_iff d a.2 (ps ++ [a.1]) x).1 hx
      obtain ⟨r2, b1, _, b3, b4, _⟩ := (files_iff d b.2 (ps ++ [b.1]) y).1 hy
      have wa : ∀ s ∈ ps ++ [a.1] ++ r1, wordB s = true := fun s hs => by
        rcases List.mem_append.1 hs with h | h
        · rcases List.mem_append.1 h with h | h
          · exact hw s h
          · rw [List.mem_singleton.1 h]; exact (ents_ok hE a hab.1).1
        · exact walk_words a4 s h
      have wb : ∀ s ∈ ps ++ [b.1] ++ r2, wordB s = true := fun s hs => by
        rcases List.mem_append.1 hs with h | h
        · rcases List.mem_append.1 h with h | h
          · exact hw s h
          · rw [List.mem_singleton.1 h]; exact (ents_ok hE b hab.2.1).1
        · exact walk_words b4 s h
      rw [a3, b3, (path_words wa (by simp only [List.length_append, List.length_singleton]; omega)).1, (path_words wb (by simp only [List.length_append, List.length_singleton]; omega)).1, List.append_assoc, List.append_assoc]
      refine ltW_same ps ?_
      rw [List.singleton_append, List.singleton_append, ltW, hab.2.2, Bool.true_or]
theorem all_asc (l : List Pc) (root : Int) : (allB l root).Pairwise fun x y => ltW (partsB x) (partsB y) = true := by
  unfold allB
  split
  · exact files_asc 3 root [] (fun s hs => by cases hs) (by simp)
  · simp
/-- Two roots with the same paths have them in the same order. -/
theorem all_ext {l x : List Pc} {a b : Int} (h : ∀ s, s ∈ allB l a ↔ s ∈ allB x b) : allB l a = allB x b := asc_ext (R := fun x y => ltW (partsB x) (partsB y)) (fun _ _ h => ltW_asymm h) (all_asc l a) (all_asc x b) h
/-! ### the same files -/
theorem same_flip (l : List Pc) (a b : Int) : sameF l a b = sameF l b a := by
  unfold sameF; congr 1; exact decide_eq_decide.2 eq_comm
theorem same_self {l : List Pc} (h : storeB l = true) (a : Int) : sameF l a a = true := by unfold sameF; rw [h, decide_eq_true rfl]; rfl
theorem in_all {l : List Pc} {a b : Int} {s : ByteArray} (h : s ∈ allB l a) : s ∈ allB l b ↔ (rdB l b s).2 = true := by
  rw [all_iff]
  exact ⟨fun h => h.1, fun h' => ⟨h', (all_iff.1 h).2⟩⟩
/-- Two roots in a valid store have the same files where nothing changed. -/
theorem same_chg {l : List Pc} (h : storeB l = true) (a b : Int) : sameF l a b = decide ((chgB l a b).length = 0) := by
  have key : sameF l a b = true ↔ (chgB l a b).length = 0 := by
    unfold sameF
    rw [h, Bool.true_and, decide_eq_true_eq, List.length_eq_zero_iff]
    constructor
    · intro e
      have hin : ∀ {a b : Int}, pairsB l a = pairsB l b → ∀ s ∈ allB l a, (rdB l b s).2 = true ∧ (rdB l b s).1 = (rdB l a s).1 := by
        intro a b e s hs
        have h1 : (s, (rdB l a s).1) ∈ pairsB l a := List.mem_map_of_mem (f := fun s => (s, (rdB l a s).1)) hs
        rw [e] at h1
        obtain ⟨s', h2, h3⟩ := List.mem_map.1 h1
        simp only [Prod.mk.injEq] at h3
        obtain ⟨rfl, h4⟩ := h3
        exact ⟨(all_iff.1 h2).1, h4⟩
      have h1 : goneC l a b = [] := by
        unfold goneC
        rw [List.map_eq_nil_iff, List.filter_eq_nil_iff]
        intro s hs
        rw [(hin e s hs).1]; simp
      have h2 : newC l a b = [] := by
        unfold newC
        rw [List.map_eq_nil_iff, List.filter_eq_nil_iff]
        intro s hs
        have := hin e.symm s hs
        unfold newT
        rw [this.1, decide_eq_true this.2]; simp
      unfold chgB
      rw [h1, h2]; rfl
    · intro e
      unfold chgB at e
      rw [List.append_eq_nil_iff] at e
      have h1 : ∀ s ∈ allB l a, (rdB l b s).2 = true := fun s hs => by
        have := e.1
        unfold goneC at this
        rw [List.map_eq_nil_iff, List.filter_eq_nil_iff] at this
        simpa using this s hs
      have h2 : ∀ s ∈ allB l b, (rdB l a s).2 = true ∧ (rdB l a s).1 = (rdB l b s).1 := fun s hs => by
        have := e.2
        unfold newC at this
        rw [List.map_eq_nil_iff, List.filter_eq_nil_iff] at this
        have := this s hs
        unfold newT at this
        simpa using this
      have h3 : allB l a = allB l b := all_ext fun s => ⟨fun hs => (in_all hs).2 (h1 s hs), fun hs => (in_all hs).2 (h2 s hs).1⟩
      unfold pairsB
      rw [h3]
      exact List.map_congr_left fun s hs => by rw [(h2 s hs).2]
  cases hx : sameF l a b
  · rw [decide_eq_false fun e => by rw [key.2 e] at hx; cases hx]
  · rw [decide_eq_true (key.1 hx)]
/-! ### how many -/
def countK (cs : List Ent) (k : Int) : Nat := (cs.filter fun q => decide (q.2 = k)).length
def goneN (l : List Pc) (a b : Int) : List ByteArray := (allB l a).filter fun s => !(rdB l b s).2
def otherN (l : List Pc) (a b : Int) : List ByteArray := (allB l b).filter fun s => (rdB l a s).2 && !decide ((rdB l a s).1 = (rdB l b s).1)
theorem count_map (xs : List ByteArray) (f : ByteArray → Int) (k : Int) : countK (xs.map fun s => (s, f s)) k = (xs.filter fun s => decide (f s = k)).length := by
  unfold countK
  rw [List.filter_map, List.length_map]; rfl
theorem count_add (a b : List Ent) (k : Int) : countK (a ++ b) k = countK a k + countK b k := by unfold countK; rw [List.filter_append, List.length_append]
theorem gone_count (l : List Pc) (a b : Int) (k : Int) : countK (goneC l a b) k = if k = 2 then (goneN l a b).length else 0 := by
  unfold goneC
  rw [count_map]
  by_cases h : k = 2
  · subst h
    rw [if_pos rfl, List.filter_eq_self.2 (fun _ _ => by rfl)]; rfl
  · rw [if_neg h, List.filter_eq_nil_iff.2 (fun _ _ => by rw [decide_eq_true_eq]; exact fun e => h e.symm)]; rfl
theorem new_count (l : List Pc) (a b : Int) (k : Int) : countK (newC l a b) k = if k = 0 then (goneN l b a).length else if k = 1 then (otherN l a b).length else 0 := by
  unfold newC
  rw [count_map, List.filter_filter]
  by_cases h0 : k = 0
  · subst h0
    rw [if_pos rfl]
    unfold goneN
    congr 1
    refine List.filter_congr fun s _ => ?_
    unfold newK newT
    cases (rdB l a s).2 <;> simp
  rw [if_neg h0]
  by_cases h1 : k = 1
  · subst h1
    rw [if_pos rfl]
    unfold otherN
    congr 1
    refine List.filter_congr fun s _ => ?_
    unfold newK newT
    cases (rdB l a s).2 <;> simp
  · rw [if_neg h1, List.filter_eq_nil_iff.2 fun s _ => ?_]; rfl
    unfold newK newT
    cases (rdB l a s).2 <;> simp
    · exact fun e => h0 e.symm
    · exact fun e => absurd e.symm h1
theorem chg_count (l : List Pc) (a b : Int) : countK (chgB l a b) 0 = (goneN l b a).length ∧ countK (chgB l a b) 1 = (otherN l a b).length ∧ countK (chgB l a b) 2 = (goneN l a b).length := by
  unfold chgB
  refine ⟨?_, ?_, ?_⟩
  · rw [count_add, gone_count, new_count, if_neg (by decide), if_pos rfl, Nat.zero_add]
  · rw [count_add, gone_count, new_count, if_neg (by decide), if_neg (by decide), if_pos rfl, Nat.zero_add]
  · rw [count_add, gone_count, new_count, if_pos rfl, if_neg (by decide), if_neg (by decide), Nat.add_zero]
theorem count_all : ∀ {cs : List Ent}, (∀ q ∈ cs, q.2 = 0 ∨ q.2 = 1 ∨ q.2 = 2) → countK cs 0 + countK cs 1 + countK cs 2 = cs.length
  | [], _ => rfl
  | q :: cs, h => by
    have ih := count_all fun r hr => h r (List.mem_cons_of_mem _ hr)
    have e : ∀ k, countK (q :: cs) k = (if q.2 = k then 1 else 0) + countK cs k := fun k => by
      unfold countK
      rw [List.filter_cons]
      by_cases hk : q.2 = k
      · rw [if_pos (by simpa using hk), if_pos hk, List.length_cons]; omega
      · rw [if_neg (by simpa using hk), if_neg hk]; omega
    rw [e, e, e, List.length_cons]
    rcases h q (List.mem_cons_self ..) with h1 | h1 | h1 <;> rw [h1] <;> simp <;> omega
theorem chg_kinds (l : List Pc) (a b : Int) : ∀ q ∈ chgB l a b, q.2 = 0 ∨ q.2 = 1 ∨ q.2 = 2 := fun q hq => by
  unfold chgB at hq
  rcases List.mem_append.1 hq with hq | hq
  · unfold goneC at hq
    obtain ⟨s, _, rfl⟩ := List.mem_map.1 hq
    exact .inr (.inr rfl)
  · unfold newC at hq
    obtain ⟨s, _, rfl⟩ := List.mem_map.1 hq
    unfold newK
    dsimp only
    split
    · exact .inr (.inl rfl)
    · exact .inl rfl
theorem nodupT_len : ∀ {l x : List ByteArray}, l.Nodup → (∀ q ∈ l, q ∈ x) → l.length ≤ x.length
  | [], _, _, _ => Nat.zero_le _
  | q :: l, x, hn, h => by
    obtain ⟨h1, h2⟩ := List.nodup_cons.1 hn
    obtain ⟨a, b, rfl⟩ := List.append_of_mem (h q (List.mem_cons_self ..))
    have ih := nodupT_len (x := a ++ b) h2 fun y hy => by
      have := h y (List.mem_cons_of_mem _ hy)
      rcases List.mem_append.1 this with h3 | h3
      · exact List.mem_append_left _ h3
      · rcases List.mem_cons.1 h3 with rfl | h3
        · exact absurd hy h1
        · exact List.mem_append_right _ h3
    simp only [List.length_append, List.length_cons] at ih ⊢
    omega
theorem other_len (l : List Pc) (a b : Int) : (otherN l a b).length = (otherN l b a).length := by
  have one : ∀ a b : Int, (otherN l a b).length ≤ (otherN l b a).length := fun a b => by
    refine nodupT_len (show (otherN l a b).Nodup by unfold otherN; exact (all_nodup l b).filter _) fun s hs => ?_
    unfold otherN at hs ⊢
    rw [List.mem_filter, Bool.and_eq_true] at hs ⊢
    refine ⟨(in_all hs.1).2 hs.2.1, (all_iff.1 hs.1).1, ?_⟩
    have := hs.2.2
    rw [Bool.not_eq_true', decide_eq_false_iff_not] at this ⊢
    exact fun e => this e.symm
  exact Nat.le_antisymm (one a b) (one b a)
/-- In the other direction there are as many changes. -/
theorem chg_turn (l : List Pc) (a b : Int) : (chgB l a b).length = (chgB l b a).length ∧ countK (chgB l a b) 0 = countK (chgB l b a) 2 ∧ countK (chgB l a b) 1 = countK (chgB l b a) 1 := by
  have x := chg_count l a b
  have y := chg_count l b a
  have hx := count_all (chg_kinds l a b)
  have hy := count_all (chg_kinds l b a)
  have ho := other_len l a b
  omega
theorem chg_self (l : List Pc) (a : Int) : chgB l a a = [] := by
  have h1 : goneC l a a = [] := by
    unfold goneC
    rw [List.map_eq_nil_iff, List.filter_eq_nil_iff]
    intro s hs
    rw [(all_iff.1 hs).1]; simp
  have h2 : newC l a a = [] := by
    unfold newC
    rw [List.map_eq_nil_iff, List.filter_eq_nil_iff]
    intro s hs
    unfold newT
    rw [(all_iff.1 hs).1, decide_eq_true rfl]; simp
  unfold chgB; rw [h1, h2]; rfl
theorem countK_le (cs : List Ent) (k : Int) : countK cs k ≤ cs.length := List.length_filter_le _ _
end Go.Proofs.YtglajbmopiolhaaGreatDoor
/-
  Chapter 13, plain: what CarryChanges answers.
-/
namespace Go.Proofs.YtglajbmopiolhaaGreatDoor
open Go.RowKit
set_option linter.unusedVariables false
/-- CarryChanges: a store, a root and whether it was possible. -/
def carryB (l : List Pc) (root : Int) (cs : List Ent) (other : Int) : List Pc × Int × Bool :=
  if storeB l = false ∨ 30 < cs.length then ([], -1, false) else match carryG other l root cs with
    | some x => (x.1, x.2, true)
    | none => (l, root, false)
theorem carryB_bad {l : List Pc} {root : Int} {cs : List Ent} {other : Int} (h : storeB l = false ∨ 30 < cs.length) : carryB l root cs other = ([], -1, false) := by unfold carryB; rw [if_pos h]
theorem carryB_none {l : List Pc} {root : Int} {cs : List Ent} {other : Int} (hs : storeB l = true) (hn : ¬ 30 < cs.length) (h : carryG other l root cs = none) : carryB l root cs other = (l, root, false) := by
  unfold carryB; rw [if_neg (by rintro (e | e); rw [hs] at e; cases e; exact hn e), h]
theorem carryB_some {l x : List Pc} {root P : Int} {cs : List Ent} {other : Int} (hs : storeB l = true) (hn : ¬ 30 < cs.length) (h : carryG other l root cs = some (x, P)) : carryB l root cs other = (x, P, true) := by
  unfold carryB; rw [if_neg (by rintro (e | e); rw [hs] at e; cases e; exact hn e), h]
theorem carryB_yes {l x : List Pc} {root P : Int} {cs : List Ent} {other : Int} (h : carryB l root cs other = (x, P, true)) : storeB l = true ∧ carryG other l root cs = some (x, P) := by
  unfold carryB at h
  split at h
  · cases h
  · rename_i h1
    have hs : storeB l = true := by
      cases hs : storeB l
      · exact absurd (.inl hs) h1
      · rfl
    split at h
    · rename_i y hy
      obtain ⟨y1, y2⟩ := y
      simp only [Prod.mk.injEq, and_true] at h
      exact ⟨hs, by rw [hy, h.1, h.2]⟩
    · cases h
theorem carryB_not {l x : List Pc} {root P : Int} {cs : List Ent} {other : Int} (h : carryB l root cs other = (x, P, false)) : (x = l ∧ P = root) ∨ (x = [] ∧ P = -1) := by
  unfold carryB at h
  split at h
  · simp only [Prod.mk.injEq, and_true] at h
    exact .inr ⟨h.1.symm, h.2.symm⟩
  · split at h
    · cases h
    · simp only [Prod.mk.injEq, and_true] at h
      exact .inl ⟨h.1.symm, h.2.symm⟩
theorem step_grows {l : List Pc} {p other : Int} {q : Ent} (h : okC l p other q = true) : Grows l (stepC l p other q).1 := by
  unfold okC at h
  rw [Bool.and_eq_true] at h
  have h1 := h.1
  unfold stepC at h1 ⊢
  by_cases h2 : q.2 = 2
  · rw [if_pos h2] at h1 ⊢; exact dropAt_grows h1
  · rw [if_neg h2] at h1 ⊢
    rw [Bool.and_eq_true] at h1
    exact write_grows h1.1
theorem carryG_go {l : List Pc} {p other : Int} {q : Ent} {r : List Ent} (h : okC l p other q = true) : carryG other l p (q :: r) = carryG other (stepC l p other q).1 (stepC l p other q).2.1 r := by rw [carryG, if_pos h]
theorem carryG_stop {l : List Pc} {p other : Int} {q : Ent} {r : List Ent} (h : okC l p other q = false) : carryG other l p (q :: r) = none := by rw [carryG, if_neg (by rw [h]; simp)]
theorem carry_grows {other : Int} : ∀ {cs : List Ent} {l x : List Pc} {p P : Int}, storeB l = true → carryG other l p cs = some (x, P) → Grows l x
  | [], l, x, p, P, hs, h => by
    simp only [carryG, Option.some.injEq, Prod.mk.injEq] at h
    obtain ⟨rfl, rfl⟩ := h
    exact Grows.refl hs
  | q :: r, l, x, p, P, hs, h => by
    cases hok : okC l p other q
    · rw [carryG_stop hok] at h; cases h
    · rw [carryG_go hok] at h
      have g := step_grows hok
      exact g.trans (carry_grows g.1 h)
theorem carry_snoc {other : Int} {q : Ent} : ∀ {cs : List Ent} {l x : List Pc} {p P : Int}, carryG other l p (cs ++ [q]) = some (x, P) → ∃ y py, carryG other l p cs = some (y, py) ∧ okC y py other q = true ∧ x = (stepC y py other q).1 ∧ P = (stepC y py other q).2.1
  | [], l, x, p, P, h => by
    rw [List.nil_append] at h
    cases hok : okC l p other q
    · rw [carryG_stop hok] at h; cases h
    · rw [carryG_go hok] at h
      simp only [carryG, Option.some.injEq, Prod.mk.injEq] at h
      exact ⟨l, p, rfl, hok, h.1.symm, h.2.symm⟩
  | c :: cs, l, x, p, P, h => by
    rw [List.cons_append] at h
    cases hok : okC l p other c
    · rw [carryG_stop hok] at h; cases h
    · rw [carryG_go hok] at h ⊢
      exact carry_snoc h
/-- The last change is there. -/
theorem carry_last {l x : List Pc} {root other P : Int} {cs : List Ent} {q : Ent} (hs : storeB l = true) (hb : Good l 3 other) (h : carryG other l root (cs ++ [q]) = some (x, P)) :
    storeB x = true ∧ (q.2 = 2 → (rdB x P q.1).2 = false) ∧ (q.2 ≠ 2 → rdB x P q.1 = ((rdB l other q.1).1, true)) := by
  obtain ⟨y, py, h1, h2, rfl, rfl⟩ := carry_snoc h
  have g := carry_grows hs h1
  have g2 := step_grows h2
  unfold okC at h2
  rw [Bool.and_eq_true] at h2
  have h3 := h2.1
  refine ⟨g2.1, fun hk => ?_, fun hk => ?_⟩
  · unfold stepC at h3 ⊢
    rw [if_pos hk] at h3 ⊢
    have h4 := (drop_nowhere h3).2.2.1
    cases hr : (rdB (dropAtB y py q.1).1 (dropAtB y py q.1).2.1 q.1).2
    · rfl
    · have := ((rd_facts _ _ _).1 hr).1
      rw [h4] at this; cases this
  · unfold stepC at h3 ⊢
    rw [if_neg hk] at h3 ⊢
    rw [Bool.and_eq_true] at h3
    have h4 := write_read h3.1
    show rdB (writeB y py q.1 (rdB y other q.1).1).1 (writeB y py q.1 (rdB y other q.1).1).2.1 q.1 = _
    rw [h4, rd_grows hs g hb]
theorem chg_few (l : List Pc) (a b : Int) : (chgB l a b).length ≤ 54 := by
  unfold chgB goneC newC
  rw [List.length_append, List.length_map, List.length_map]
  have h1 := List.length_filter_le (fun s => !(rdB l b s).2) (allB l a)
  have h2 := List.length_filter_le (newT l a b) (allB l b)
  have h3 := all_many (l := l) (root := a)
  have h4 := all_many (l := l) (root := b)
  omega
theorem chg_len (l : List Pc) (a b : Int) : (chgB l a b).length ≤ 1000000 := Nat.le_trans (chg_few l a b) (by decide)
theorem chg_sizes (l : List Pc) (a b : Int) : ∀ k, (nthE (chgB l a b) k).1.size ≤ 1000 := by
  have key : ∀ q ∈ chgB l a b, q.1.size ≤ 1000 := fun q hq => by
    have h : q.1 ∈ (chgB l a b).map Prod.fst := List.mem_map_of_mem hq
    rw [chg_names, List.mem_append, List.mem_filter, List.mem_filter] at h
    rcases h with h | h
    · exact all_small _ h.1
    · exact all_small _ h.1
  intro k
  by_cases hk : k < (chgB l a b).length
  · rw [nthE_get hk]; exact key _ (List.getElem_mem _)
  · unfold nthE
    rw [List.getD_eq_getElem?_getD, List.getElem?_eq_none (by omega)]
    decide
theorem carryB_len (l : List Pc) (root : Int) (cs : List Ent) (other : Int) : (carryB l root cs other).1.length ≤ 1000000 := by
  obtain ⟨⟨x, P, g⟩, hR⟩ : ∃ R, carryB l root cs other = R := ⟨_, rfl⟩
  rw [hR]
  show x.length ≤ 1000000
  cases hs : storeB l
  · rw [carryB_bad (.inl hs)] at hR
    rw [← (Prod.mk.inj hR).1]; simp
  · have h40 := (storeB_at hs).1
    cases g
    · rcases carryB_not hR with h | h
      · rw [h.1]; omega
      · rw [h.1]; simp
    · have h1 := (storeB_at (carry_grows hs (carryB_yes hR).2).1).1
      omega
end Go.Proofs.YtglajbmopiolhaaGreatDoor
/-
  Chapter 13's program, plain: the paths of all files ascend byte by byte, so that halving finds them.
-/
namespace Go.Proofs.YtglajbmopiolhaaGreatDoor
open Go.RowKit
set_option linter.unusedVariables false
theorem wtail_big {c : UInt8} (h : wtail c = true) : (47 : UInt8) < c := by
  unfold wtail low dgt at h
  rw [UInt8.lt_iff_toNat_lt]
  have h47 : (47 : UInt8).toNat = 47 := rfl
  rw [h47]
  simp only [Bool.or_eq_true, decide_eq_true_eq] at h
  omega
theorem less_pre : ∀ (p a b : List UInt8), Op.bytesLess (p ++ a) (p ++ b) = Op.bytesLess a b
  | [], _, _ => rfl
  | x :: p, a, b => by
    rw [List.cons_append, List.cons_append, Op.bytesLess, less_pre p a b]
    have : ¬ x < x := by rw [UInt8.lt_iff_toNat_lt]; omega
    simp [this]
/-- Two names one before the other stay so, whatever paths stand behind them. -/
theorem less_behind : ∀ {a b : List UInt8} {r s : List UInt8}, (∀ c ∈ a, (47 : UInt8) < c) → (∀ c ∈ b, (47 : UInt8) < c) → (r = [] ∨ ∃ t, r = 47 :: t) → Op.bytesLess a b = true → Op.bytesLess (a ++ r) (b ++ s) = true
  | _, [], _, _, _, _, _, h => by simp [Op.bytesLess] at h
  | [], y :: b, r, s, _, hb, hr, _ => by
    rcases hr with rfl | ⟨t, rfl⟩
    · simp [Op.bytesLess]
    · have := hb y (List.mem_cons_self ..)
      simp [Op.bytesLess, this]
  | x :: a, y :: b, r, s, ha, hb, hr, h => by
    simp only [List.cons_append, Op.bytesLess, Bool.or_eq_true, decide_eq_true_eq, Bool.and_eq_true, beq_iff_eq] at h ⊢
    rcases h with h | ⟨rfl, h⟩
    · exact .inl h
    · exact .inr ⟨rfl, less_behind (fun c hc => ha c (List.mem_cons_of_mem _ hc)) (fun c hc => hb c (List.mem_cons_of_mem _ hc)) hr h⟩
theorem slashed_head (r : List ByteArray) : (slashed r).data.toList = [] ∨ ∃ t, (slashed r).data.toList = 47 :: t := by
  cases r with
  | nil => left; rfl
  | cons a r => right; exact ⟨_, slashed_cons a r⟩
theorem ltN_data (a b : ByteArray) : ltN a b = Op.bytesLess a.data.toList b.data.toList := by unfold ltN; rw [Lib.toList_data, Lib.toList_data]
theorem slashed_less {ps r s : List ByteArray} {a b : ByteArray} (ha : wordB a = true) (hb : wordB b = true) (h : ltN a b = true) : ltN (slashed (ps ++ [a] ++ r)) (slashed (ps ++ [b] ++ s)) = true := by
  rw [ltN_data] at h ⊢
  rw [List.append_assoc ps [a] r, List.append_assoc ps [b] s, slashed_add ps, slashed_add ps, less_pre, List.singleton_append, List.singleton_append, slashed_cons, slashed_cons]
  have e : ∀ u v : List UInt8, Op.bytesLess (47 :: u) (47 :: v) = Op.bytesLess u v := fun u v => less_pre [47] u v
  rw [e]
  exact less_behind (fun c hc => wtail_big (word_all ha hc)) (fun c hc => wtail_big (word_all hb hc)) (slashed_head r) h
theorem files_ascB {l : List Pc} : ∀ (d : Nat) (p : Int) (ps : List ByteArray), (∀ s ∈ ps, wordB s = true) → ps.length + d ≤ 3 → (filesB l d p ps).Pairwise (fun x y => ltN x y = true)
  | 0, p, ps, hw, h3 => by
    rw [filesB]
    split
    · simp
    · simp
  | d + 1, p, ps, hw, h3 => by
    rw [filesB]
    split
    · simp
    rw [List.pairwise_flatMap]
    have hE := fold_ents (s := getT l p)
    refine ⟨fun e he => files_ascB d e.2 (ps ++ [e.1]) (fun s hs => ?_) (by rw [List.length_append, List.length_singleton]; omega), ?_⟩
    · rcases List.mem_append.1 hs with h | h
      · exact hw s h
      · rw [List.mem_singleton.1 h]; exact (ents_ok hE e he).1
    · have hpw : (foldL (getT l p)).Pairwise fun a b => a ∈ foldL (getT l p) ∧ b ∈ foldL (getT l p) ∧ ltN a.1 b.1 = true := by
        rw [List.pairwise_iff_getElem]
        intro i j hi hj hij
        exact ⟨List.getElem_mem _, List.getElem_mem _, List.pairwise_iff_getElem.1 (ascN_of hE) i j hi hj hij⟩
      refine hpw.imp fun {a b} hab x hx y hy => ?_
      obtain ⟨r1, a1, _, a3, a4, _⟩ := (files_iff d a.2 (ps ++ [a.1]) x).1 hx
      obtain ⟨r2, b1, _, b3, b4, _⟩ := (files_iff d b.2 (ps ++ [b.1]) y).1 hy
      have wa : ∀ s ∈ ps ++ [a.1] ++ r1, wordB s = true := fun s hs => by
        rcases List.mem_append.1 hs with h | h
        · rcases List.mem_append.1 h with h | h
          · exact hw s h
          · rw [List.mem_singleton.1 h]; exact (ents_ok hE a hab.1).1
        · exact walk_words a4 s h
      have wb : ∀ s ∈ ps ++ [b.1] ++ r2, wordB s = true := fun s hs => by
        rcases List.mem_append.1 hs with h | h
        · rcases List.mem_append.1 h with h | h
          · exact hw s h
          · rw [List.mem_singleton.1 h]; exact (ents_ok hE b hab.2.1).1
        · exact walk_words b4 s h
      rw [path_of_words (by simp) wa (by simp only [List.length_append, List.length_singleton]; omega)] at a3
      rw [path_of_words (by simp) wb (by simp only [List.length_append, List.length_singleton]; omega)] at b3
      rw [a3, b3]
      exact slashed_less (ents_ok hE a hab.1).1 (ents_ok hE b hab.2.1).1 hab.2.2
theorem all_ascB (l : List Pc) (root : Int) : ∀ i j, i < j → j < (allB l root).length → ltN (nthS (allB l root) i) (nthS (allB l root) j) = true := by
  have h : (allB l root).Pairwise (fun x y => ltN x y = true) := by
    unfold allB
    split
    · exact files_ascB 3 root [] (fun s hs => by cases hs) (by simp)
    · simp
  intro i j hij hj
  rw [nthS_get (by omega), nthS_get hj]
  exact List.pairwise_iff_getElem.1 h i j (by omega) hj hij
/-- A text is among texts. -/
def inS (l : List ByteArray) (t : ByteArray) : Bool := l.any fun s => decide (s = t)
theorem inS_iff {l : List ByteArray} {t : ByteArray} : inS l t = true ↔ t ∈ l := by
  unfold inS
  rw [List.any_eq_true]
  constructor
  · rintro ⟨s, hs, e⟩
    rw [← of_decide_eq_true e]; exact hs
  · intro h
    exact ⟨t, h, decide_eq_true rfl⟩
theorem inS_yes {l : List ByteArray} {t : ByteArray} (h : t ∈ l) : inS l t = true := inS_iff.2 h
theorem inS_no {l : List ByteArray} {t : ByteArray} (h : t ∉ l) : inS l t = false := by
  cases e : inS l t
  · rfl
  · exact absurd (inS_iff.1 e) h
/-- Where halving ends: the text is there, or nowhere. -/
theorem halved {xs : List ByteArray} {t : ByteArray} {a : Nat} (hs : ∀ i j, i < j → j < xs.length → ltN (nthS xs i) (nthS xs j) = true) (hlo : ∀ k, k < a → ltN (nthS xs k) t = true) (hhi : ∀ k, a ≤ k → k < xs.length → ltN (nthS xs k) t = false) : t ∈ xs ↔ a < xs.length ∧ nthS xs a = t := by
  constructor
  · intro h
    obtain ⟨i, hi, e⟩ := List.getElem_of_mem h
    rw [← nthS_get hi] at e
    rcases Nat.lt_trichotomy i a with h1 | h1 | h1
    · have := hlo i h1; rw [e, ltN_irrefl] at this; cases this
    · subst h1; exact ⟨hi, e⟩
    · have h2 := hs a i h1 hi
      rw [e, hhi a (Nat.le_refl _) (by omega)] at h2; cases h2
  · rintro ⟨h, e⟩
    rw [← e, nthS_get h]; exact List.getElem_mem h
/-- A file of one root is among all files of another one where it is read there. -/
theorem all_there {l : List Pc} {p q : Int} {s : ByteArray} (h : s ∈ allB l p) : inS (allB l q) s = (rdB l q s).2 := by
  have h1 := (all_iff.1 h).2
  cases hr : (rdB l q s).2
  · refine inS_no fun e => ?_
    rw [(all_iff.1 e).1] at hr; cases hr
  · exact inS_yes (all_iff.2 ⟨hr, h1⟩)
end Go.Proofs.YtglajbmopiolhaaGreatDoor
