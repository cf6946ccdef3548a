/-
  Chapter 10, plain: a text and the folders on the way to it, put from below; that this is what the model's writes and drops make.
-/
import Derived.Test.YtglajbmopiolhaaGreatDoorMath10
namespace Go.Proofs.YtglajbmopiolhaaGreatDoor
open Go.RowKit
set_option linter.unusedVariables false
/-! ### stores and their members -/
theorem store_ext : ∀ {a b : List Pc}, a.Pairwise (fun x y => x.1 < y.1) → b.Pairwise (fun x y => x.1 < y.1) → (∀ q, q ∈ a ↔ q ∈ b) → a = b
  | [], [], _, _, _ => rfl
  | [], q :: b, _, _, h => absurd ((h q).2 (List.mem_cons_self ..)) (List.not_mem_nil)
  | p :: a, [], _, _, h => absurd ((h p).1 (List.mem_cons_self ..)) (List.not_mem_nil)
  | p :: a, q :: b, ha, hb, h => by
    obtain ⟨ha1, ha2⟩ := List.pairwise_cons.1 ha
    obtain ⟨hb1, hb2⟩ := List.pairwise_cons.1 hb
    have e : p = q := by
      rcases List.mem_cons.1 ((h p).1 (List.mem_cons_self ..)) with h1 | h1
      · exact h1
      rcases List.mem_cons.1 ((h q).2 (List.mem_cons_self ..)) with h2 | h2
      · exact h2.symm
      have h3 := ha1 _ h2
      have h4 := hb1 _ h1
      omega
    subst e
    rw [store_ext ha2 hb2 (fun x => ?_)]
    constructor
    · intro hx
      rcases List.mem_cons.1 ((h x).1 (List.mem_cons_of_mem _ hx)) with h1 | h1
      · subst h1; have := ha1 _ hx; omega
      · exact h1
    · intro hx
      rcases List.mem_cons.1 ((h x).2 (List.mem_cons_of_mem _ hx)) with h1 | h1
      · subst h1; have := hb1 _ hx; omega
      · exact h1
theorem put_mem {l : List Pc} {t : ByteArray} (h : (putB l t).2.2 = true) (q : Pc) : q ∈ (putB l t).1 ↔ q ∈ l ∨ q = (printB t, t) := by
  obtain ⟨hs, ht, _, _, hm, hin, _, _⟩ := put_yes h
  constructor
  · intro hq
    rw [putB_of hs (printB_ge ht)] at hq
    replace hq : q ∈ (putP l (printB t, t)).1 := hq
    unfold putP at hq
    split at hq
    · exact .inl hq
    · split at hq
      · exact .inl hq
      · rcases List.mem_append.1 hq with h1 | h1
        · exact .inl (List.mem_of_mem_take h1)
        · rcases List.mem_cons.1 h1 with h2 | h2
          · exact .inr h2
          · exact .inl (List.mem_of_mem_drop h2)
  · rintro (h1 | h1)
    · exact hin q h1
    · rw [h1]; exact hm
theorem nodup_len0 : ∀ {l x : List Pc}, l.Nodup → (∀ q ∈ l, q ∈ x) → l.length ≤ x.length
  | [], _, _, _ => Nat.zero_le _
  | q :: l, x, hn, h => by
    obtain ⟨h1, h2⟩ := List.nodup_cons.1 hn
    obtain ⟨a, b, rfl⟩ := List.append_of_mem (h q (List.mem_cons_self ..))
    have ih := nodup_len0 (x := a ++ b) h2 fun y hy => by
      have := h y (List.mem_cons_of_mem _ hy)
      rcases List.mem_append.1 this with h3 | h3
      · exact List.mem_append_left _ h3
      · rcases List.mem_cons.1 h3 with rfl | h3
        · exact absurd hy h1
        · exact List.mem_append_right _ h3
    simp only [List.length_append, List.length_cons] at ih ⊢
    omega
/-- What is in a larger store can be put. -/
theorem put_can {l a : List Pc} {t : ByteArray} (hs : storeB l = true) (ha : storeB a = true) (hin : ∀ q ∈ l, q ∈ a) (hm : (printB t, t) ∈ a) : (putB l t).2.2 = true := by
  obtain ⟨ha1, ha2, ha3⟩ := storeB_iff.1 ha
  have ht : textB t = true := (okPc_iff.1 (ha2 _ hm)).1
  rw [putB_of hs (printB_ge ht)]
  show (putP l (printB t, t)).2 = true
  cases hh : hereP (printB t) l
  · by_cases h40 : l.length = 40
    · exfalso
      have hg := getB_gone (storeB_iff.1 hs).2.2 hh
      have hn : (printB t, t) ∉ l := fun hx => by rw [in_get hs hx] at hg; cases hg
      have hl : l.Nodup := (storeB_iff.1 hs).2.2.imp fun h e => by rw [e] at h; omega
      have := nodup_len0 (l := (printB t, t) :: l) (x := a) (List.nodup_cons.2 ⟨hn, hl⟩) (fun q hq => by
        rcases List.mem_cons.1 hq with h1 | h1
        · rw [h1]; exact hm
        · exact hin _ h1)
      simp only [List.length_cons] at this
      omega
    · rw [putP_new (p := (printB t, t)) hh h40]
  · rw [putP_here (p := (printB t, t)) hh]
    have h1 := hereP_iff.1 hh
    have h2 := hin _ (nthP_mem h1.1)
    have e1 := in_get ha (p := (nthP l (atP (printB t) l)).1) (t := (nthP l (atP (printB t) l)).2) h2
    rw [h1.2, in_get ha hm] at e1
    exact decide_eq_true (Option.some.inj e1).symm
/-! ### the way of a path -/
/-- The entries of the folders on the way, with the names that are looked up in them. -/
def wayZ (l : List Pc) : Int → List ByteArray → List (List Ent × ByteArray)
  | _, [] => []
  | p, nm :: r => (entsAt l p, nm) :: wayZ l (lastE nm (-1) (entsAt l p)) r
/-- Whether each print on the way is missing or that of a folder. -/
def waysB (l : List Pc) : Int → List ByteArray → Bool
  | _, [] => true
  | p, nm :: r => (decide (p < 0) || isFold (getT l p)) && waysB l (lastE nm (-1) (entsAt l p)) r
def fitE (l : List Pc) (E : List Ent) (nm : ByteArray) : Bool := decide (lastE nm (-1) E < 0) || isFile (getT l (lastE nm (-1) E))
/-- Whether the last name is missing or that of a file. -/
def fitsB (l : List Pc) : Int → List ByteArray → Bool
  | _, [] => true
  | p, nm :: r => if r = [] then fitE l (entsAt l p) nm else fitsB l (lastE nm (-1) (entsAt l p)) r
def nthZ (zs : List (List Ent × ByteArray)) (k : Nat) : List Ent × ByteArray := zs.getD k ([], ByteArray.empty)
theorem nthZ_get {zs : List (List Ent × ByteArray)} {k : Nat} (h : k < zs.length) : nthZ zs k = zs[k] := by unfold nthZ; rw [List.getD_eq_getElem?_getD, List.getElem?_eq_getElem h]; rfl
theorem wayZ_len (l : List Pc) : ∀ (ps : List ByteArray) (p : Int), (wayZ l p ps).length = ps.length
  | [], _ => rfl
  | nm :: r, p => by rw [wayZ, List.length_cons, wayZ_len l r, List.length_cons]
theorem wayZ_snd (l : List Pc) : ∀ (ps : List ByteArray) (p : Int) (k : Nat), k < ps.length → (nthZ (wayZ l p ps) k).2 = nthS ps k
  | [], _, _, h => absurd h (Nat.not_lt_zero _)
  | nm :: r, p, 0, _ => rfl
  | nm :: r, p, k + 1, h => wayZ_snd l r _ k (by rw [List.length_cons] at h; omega)
theorem wayZ_ents (l : List Pc) : ∀ (ps : List ByteArray) (p : Int) (k : Nat), entsB (nthZ (wayZ l p ps) k).1 = true
  | [], _, k => by cases k <;> rfl
  | nm :: r, p, 0 => entsAt_ok l p
  | nm :: r, p, k + 1 => wayZ_ents l r _ k
theorem setTest_not {l : List Pc} {r : List ByteArray} {c : Int} : setTest l r c = (decide (r = []) && !(decide (c < 0) || isFile (getT l c))) := by
  unfold setTest
  by_cases hr : r = []
  · rw [decide_eq_true hr, Bool.true_and, Bool.true_and]
    by_cases hc : c < 0
    · rw [decide_eq_false (show ¬ 0 ≤ c by omega), decide_eq_true hc]; rfl
    · rw [decide_eq_true (show 0 ≤ c by omega), decide_eq_false hc, Bool.true_and, Bool.false_or]
      cases hf : isFile (getT l c)
      · have : ¬ kindB (getT l c) = 1 := by
          unfold kindB; rw [if_neg (by rw [hf]; simp)]
          split <;> decide
        rw [decide_eq_false this]; simp
      · have h1 : kindB (getT l c) = 1 := by unfold kindB; rw [if_pos hf]
        have h2 : getO l c = true := by
          unfold getO
          unfold getT at hf
          cases hg : getB l c with
          | none => rw [hg] at hf; cases hf
          | some t => rfl
        rw [h2, decide_eq_true h1]; rfl
  · rw [decide_eq_false hr]; rfl
theorem fits_cons {l : List Pc} {p : Int} {nm : ByteArray} {r : List ByteArray} : fitsB l p (nm :: r) = (!setTest l r (lastE nm (-1) (entsAt l p)) && fitsB l (lastE nm (-1) (entsAt l p)) r) := by
  rw [fitsB, setTest_not]
  by_cases hr : r = []
  · subst hr
    rw [if_pos rfl]
    unfold fitE
    simp [fitsB]
  · rw [if_neg hr, decide_eq_false hr]; simp
theorem fits_last (l : List Pc) : ∀ (ps : List ByteArray) (p : Int), 0 < ps.length → fitsB l p ps = fitE l (nthZ (wayZ l p ps) (ps.length - 1)).1 (nthS ps (ps.length - 1))
  | [], _, h => absurd h (Nat.lt_irrefl _)
  | [nm], p, _ => rfl
  | nm :: n2 :: r, p, _ => by
    rw [fitsB, if_neg (by simp), fits_last l (n2 :: r) _ (by simp)]
    rfl
/-! ### a text, and the folders on the way to it -/
def putO (l : List Pc) (t : ByteArray) : Option (List Pc × Int) := if (putB l t).2.2 = true then some ((putB l t).1, (putB l t).2.1) else none
def stepU (o : Option (List Pc × Int)) (E : List Ent) (nm : ByteArray) : Option (List Pc × Int) :=
  match o with
  | none => none
  | some x => if (putE E (nm, x.2)).2 = true then putO x.1 (folderB (putE E (nm, x.2)).1) else none
def upO (l : List Pc) (t : ByteArray) : List (List Ent × ByteArray) → Option (List Pc × Int)
  | [] => putO l t
  | z :: zs => stepU (upO l t zs) z.1 z.2
theorem putO_some {l s : List Pc} {t : ByteArray} {q : Int} (h : putO l t = some (s, q)) : (putB l t).2.2 = true ∧ (putB l t).1 = s ∧ (putB l t).2.1 = q := by
  unfold putO at h
  split at h
  · rename_i h1
    simp only [Option.some.injEq, Prod.mk.injEq] at h
    exact ⟨h1, h.1, h.2⟩
  · cases h
theorem putO_yes {l : List Pc} {t : ByteArray} (h : (putB l t).2.2 = true) : putO l t = some ((putB l t).1, printB t) := by
  unfold putO; rw [if_pos h, (put_yes h).2.2.1]
theorem putO_no {l : List Pc} {t : ByteArray} (h : (putB l t).2.2 = false) : putO l t = none := by
  unfold putO; rw [if_neg (by rw [h]; simp)]
theorem stepU_go {x : List Pc × Int} {E : List Ent} {nm : ByteArray} (h : (putE E (nm, x.2)).2 = true) : stepU (some x) E nm = putO x.1 (folderB (putE E (nm, x.2)).1) := if_pos h
theorem stepU_stop {x : List Pc × Int} {E : List Ent} {nm : ByteArray} (h : (putE E (nm, x.2)).2 = false) : stepU (some x) E nm = none := if_neg (by rw [h]; simp)
theorem stepU_some {o : Option (List Pc × Int)} {E : List Ent} {nm : ByteArray} {s : List Pc} {q : Int} (h : stepU o E nm = some (s, q)) :
    ∃ s1 q1, o = some (s1, q1) ∧ (putE E (nm, q1)).2 = true ∧ (putB s1 (folderB (putE E (nm, q1)).1)).2.2 = true ∧ (putB s1 (folderB (putE E (nm, q1)).1)).1 = s ∧ (putB s1 (folderB (putE E (nm, q1)).1)).2.1 = q := by
  cases o with
  | none => cases h
  | some x =>
    cases hp : (putE E (nm, x.2)).2
    · rw [stepU_stop hp] at h; cases h
    · rw [stepU_go hp] at h
      exact ⟨x.1, x.2, rfl, hp, putO_some h⟩
/-- The program's way makes what the model's way makes, with the text. -/
theorem up_set {l : List Pc} {t : ByteArray} (hs : storeB l = true) : ∀ {ps : List ByteArray} {p : Int} {s : List Pc} {q : Int}, upO l t (wayZ l p ps) = some (s, q) → waysB l p ps = true → fitsB l p ps = true →
    storeB s = true ∧ (setB (printB t) l p ps).2.2 = true ∧ (setB (printB t) l p ps).2.1 = q ∧ storeB (setB (printB t) l p ps).1 = true ∧ ∀ x, x ∈ s ↔ x ∈ (setB (printB t) l p ps).1 ∨ x = (printB t, t)
  | [], p, s, q, h, _, _ => by
    have h' : putO l t = some (s, q) := h
    obtain ⟨h1, h2, h3⟩ := putO_some h'
    subst h2 h3
    exact ⟨(put_yes h1).2.2.2.1, rfl, (put_yes h1).2.2.1.symm, hs, put_mem h1⟩
  | nm :: r, p, s, q, h, hw, hf => by
    have h' : stepU (upO l t (wayZ l (lastE nm (-1) (entsAt l p)) r)) (entsAt l p) nm = some (s, q) := h
    obtain ⟨s1, q1, e1, e2, e3, e4, e5⟩ := stepU_some h'
    subst e4 e5
    rw [waysB, Bool.and_eq_true] at hw
    rw [fits_cons, Bool.and_eq_true] at hf
    obtain ⟨i1, i2, i3, i4, i5⟩ := up_set hs e1 hw.2 hf.2
    obtain ⟨F, hF⟩ : ∃ F, folderB (putE (entsAt l p) (nm, q1)).1 = F := ⟨_, rfl⟩
    rw [hF] at e3 ⊢
    have y := put_yes e3
    have hc : (putB (setB (printB t) l (lastE nm (-1) (entsAt l p)) r).1 F).2.2 = true := put_can i4 y.2.2.2.1 (fun x hx => y.2.2.2.2.2.1 x ((i5 x).2 (.inl hx))) y.2.2.2.2.1
    have hset : setB (printB t) l p (nm :: r) = putB (setB (printB t) l (lastE nm (-1) (entsAt l p)) r).1 F := by
      have hn1 : ¬ (decide (0 ≤ p) && !isFold (getT l p)) = true := by
        intro hx
        rw [Bool.and_eq_true, decide_eq_true_eq, Bool.not_eq_true'] at hx
        have := hw.1
        rw [hx.2, Bool.or_false, decide_eq_true_eq] at this
        omega
      have hn2 : ¬ setTest l r (lastE nm (-1) (entsAt l p)) = true := by
        intro hx; have := hf.1; rw [hx] at this; cases this
      unfold setTest at hn2
      rw [setB, if_neg hn1, if_neg hn2, if_neg (by rw [i2]; simp), i3, if_neg (by rw [e2]; simp), hF]
    rw [hset]
    refine ⟨y.2.2.2.1, hc, ?_, (put_yes hc).2.2.2.1, fun x => ?_⟩
    · rw [(put_yes hc).2.2.1, y.2.2.1]
    · rw [put_mem e3, put_mem hc, i5]
      exact or_right_comm
/-- What the model's way makes, the program's way makes, if the text is there in the end. -/
theorem set_up {l a : List Pc} {t : ByteArray} (hs : storeB l = true) (ha : storeB a = true) (ht : (printB t, t) ∈ a) : ∀ {ps : List ByteArray} {p : Int}, (setB (printB t) l p ps).2.2 = true → (∀ x ∈ (setB (printB t) l p ps).1, x ∈ a) →
    waysB l p ps = true ∧ fitsB l p ps = true ∧ ∃ s, upO l t (wayZ l p ps) = some (s, (setB (printB t) l p ps).2.1) ∧ storeB s = true ∧ ∀ x ∈ s, x ∈ a
  | [], p, h, hin => by
    have hc := put_can hs ha hin ht
    refine ⟨rfl, rfl, (putB l t).1, putO_yes hc, (put_yes hc).2.2.2.1, fun x hx => ?_⟩
    rcases (put_mem hc x).1 hx with h1 | h1
    · exact hin x h1
    · rw [h1]; exact ht
  | nm :: r, p, h, hin => by
    rw [setB] at h hin ⊢
    split at h
    · cases h
    rename_i h1
    rw [if_neg h1] at hin ⊢
    split at h
    · cases h
    rename_i h2
    rw [if_neg h2] at hin ⊢
    split at h
    · cases h
    rename_i h3
    rw [if_neg h3] at hin ⊢
    split at h
    · cases h
    rename_i h4
    rw [if_neg h4] at hin ⊢
    rw [Bool.not_eq_false] at h3 h4
    have y := put_yes h
    obtain ⟨w1, f1, s, u1, s1, s2⟩ := set_up hs ha ht h3 (fun x hx => hin x (y.2.2.2.2.2.1 x hx))
    have hF := hin _ y.2.2.2.2.1
    have hc := put_can s1 ha s2 hF
    refine ⟨?_, ?_, _, ?_, (put_yes hc).2.2.2.1, fun x hx => ?_⟩
    · rw [waysB, w1, Bool.and_true, Bool.or_eq_true, decide_eq_true_eq]
      by_cases hp : p < 0
      · exact .inl hp
      · right
        cases hf : isFold (getT l p)
        · exact absurd (by rw [decide_eq_true (show 0 ≤ p by omega), hf]; rfl) h1
        · rfl
    · rw [fits_cons, f1, Bool.and_true]
      cases hx : setTest l r (lastE nm (-1) (entsAt l p))
      · rfl
      · exact absurd hx h2
    · show stepU (upO l t (wayZ l (lastE nm (-1) (entsAt l p)) r)) (entsAt l p) nm = _
      rw [u1, stepU_go h4, putO_yes hc, y.2.2.1]
    · rcases (put_mem hc x).1 hx with h5 | h5
      · exact s2 x h5
      · rw [h5]; exact hF
def upR (l : List Pc) (root : Int) (o : Option (List Pc × Int)) : List Pc × Int × Bool :=
  match o with
  | none => (l, root, false)
  | some x => (x.1, x.2, true)
/-- A write is the program's way, where the folders and the last name allow it. -/
theorem writeB_up {l : List Pc} {root : Int} {path content : ByteArray} (h : (storeB l && isPath path && !decide (partsB path = []) && contentB content) = true) :
    writeB l root path content = if (isFold (getT l root) && waysB l root (partsB path) && fitsB l root (partsB path)) = true then upR l root (upO l (fileB content) (wayZ l root (partsB path))) else (l, root, false) := by
  have hx := h
  simp only [Bool.and_eq_true, Bool.not_eq_true', decide_eq_false_iff_not] at hx
  have hs := hx.1.1.1
  have hne := hx.1.2
  unfold writeB
  rw [if_neg (by rw [h]; simp)]
  obtain ⟨t, ht⟩ : ∃ t, fileB content = t := ⟨_, rfl⟩
  obtain ⟨ps, hps⟩ : ∃ ps, partsB path = ps := ⟨_, rfl⟩
  rw [ht, hps]
  rw [hps] at hne
  clear hx h ht hps
  cases hg : getO l root
  · rw [if_pos rfl]
    cases hf : isFold (getT l root)
    · rw [if_neg (by simp)]
    · have := fold_get hf
      unfold getO at hg
      rw [this] at hg; cases hg
  rw [if_neg (by simp)]
  have hroot : 0 ≤ root := by
    unfold getO at hg
    cases hb : getB l root with
    | none => rw [hb] at hg; cases hg
    | some t => exact (get_right hs hb).2.2
  cases hset : (setB (printB t) l root ps).2.2
  · rw [if_pos rfl]
    split
    · rename_i hc
      simp only [Bool.and_eq_true] at hc
      cases hu : upO l t (wayZ l root ps) with
      | none => rfl
      | some x =>
        have := (up_set hs hu hc.1.2 hc.2).2.1
        rw [hset] at this; cases this
    · rfl
  rw [if_neg (by simp)]
  cases hput : (putB (setB (printB t) l root ps).1 t).2.2
  · rw [if_pos rfl]
    split
    · rename_i hc
      simp only [Bool.and_eq_true] at hc
      cases hu : upO l t (wayZ l root ps) with
      | none => rfl
      | some x =>
        obtain ⟨j1, j2, j3, j4, j5⟩ := up_set hs hu hc.1.2 hc.2
        have := put_can j4 j1 (fun y hy => (j5 y).2 (.inl hy)) ((j5 _).2 (.inr rfl))
        rw [hput] at this; cases this
    · rfl
  rw [if_neg (by simp)]
  have y := put_yes hput
  obtain ⟨w1, f1, s, u1, s1, s2⟩ := set_up hs y.2.2.2.1 y.2.2.2.2.1 hset y.2.2.2.2.2.1
  have hfo : isFold (getT l root) = true := by
    cases ps with
    | nil => exact absurd rfl hne
    | cons nm r =>
      rw [waysB, Bool.and_eq_true, decide_eq_false (show ¬ root < 0 by omega)] at w1
      exact w1.1
  rw [hfo, w1, f1, u1]
  obtain ⟨j1, j2, j3, j4, j5⟩ := up_set hs u1 w1 f1
  show _ = (s, _, true)
  rw [store_ext (storeB_iff.1 y.2.2.2.1).2.2 (storeB_iff.1 j1).2.2 (fun q => by rw [put_mem hput, j5])]
/-! ### drops -/
theorem findE_mem : ∀ {l : List Ent} {nm : ByteArray} {c : Int}, findE l nm = some c → (nm, c) ∈ l
  | [], nm, c, h => by cases h
  | q :: l, nm, c, h => by
    rw [findE] at h
    split at h
    · rename_i h1
      rw [str_beq, decide_eq_true_eq] at h1
      simp only [Option.some.injEq] at h
      rw [← h1, ← h]
      exact List.mem_cons_self ..
    · exact List.mem_cons_of_mem _ (findE_mem h)
def leftZ (zs : List (List Ent × ByteArray)) (k : Nat) : List Ent := lessE (nthZ zs k).1 (nthZ zs k).2
/-- A step of a walk that goes on. -/
theorem walk_step {l : List Pc} (hs : storeB l = true) {p : Int} {nm : ByteArray} {r : List ByteArray} (h : (walkB l p (nm :: r)).2 = true) :
    isFold (getT l p) = true ∧ entsAt l p = foldL (getT l p) ∧ (nm, lastE nm (-1) (entsAt l p)) ∈ entsAt l p ∧ 0 ≤ lastE nm (-1) (entsAt l p) ∧ (walkB l (lastE nm (-1) (entsAt l p)) r).2 = true := by
  rw [walkB] at h
  cases hc : childB l p nm with
  | none => rw [hc] at h; cases h
  | some c =>
    rw [hc] at h
    have hf : isFold (getT l p) = true := by
      cases hf : isFold (getT l p)
      · unfold childB at hc; rw [foldL_no hf] at hc; cases hc
      · rfl
    have h0 := (get_right hs (fold_get hf)).2.2
    have e : entsAt l p = foldL (getT l p) := by unfold entsAt; rw [if_pos h0]
    have hE : entsB (foldL (getT l p)) = true := fold_ents
    have hm := findE_mem hc
    have hl : lastE nm (-1) (foldL (getT l p)) = c := lastE_in (ascN_of hE) hm
    have hp := (ents_ok hE _ hm).2
    unfold isPr at hp
    rw [decide_eq_true_eq] at hp
    rw [e, hl]
    exact ⟨hf, rfl, hm, hp.1, h⟩
theorem walk_ways {l : List Pc} (hs : storeB l = true) : ∀ {ps : List ByteArray} {p : Int}, (walkB l p ps).2 = true → waysB l p ps = true
  | [], _, _ => rfl
  | nm :: r, p, h => by
    obtain ⟨h1, _, _, _, h5⟩ := walk_step hs h
    rw [waysB, h1, walk_ways hs h5, Bool.or_true]; rfl
theorem drop_all {l : List Pc} (hs : storeB l = true) : ∀ {ps : List ByteArray} {p : Int}, (walkB l p ps).2 = true → ps ≠ [] → (∀ j, j < ps.length → leftZ (wayZ l p ps) j = []) → dropB l p ps = (l, -1, true)
  | [], _, _, h, _ => absurd rfl h
  | nm :: r, p, h, _, ha => by
    obtain ⟨h1, h2, h3, h4, h5⟩ := walk_step hs h
    have hE : entsB (entsAt l p) = true := entsAt_ok l p
    have h0 : lessE (entsAt l p) nm = [] := ha 0 (by simp)
    have hl : leftE (entsAt l p) nm (-1) = [] := by unfold leftE; rw [if_neg (by omega), dropE_ok hE]; exact h0
    rw [dropB, ← h2, if_neg (by omega), hl]
    have he : endB l [] = (l, -1, true) := rfl
    by_cases hr : r = []
    · rw [if_pos hr, he]
    · have ih := drop_all hs h5 hr fun j hj => ha (j + 1) (by rw [List.length_cons]; omega)
      rw [if_neg hr, ih, if_neg (by simp), hl, he]
theorem drop_at {l : List Pc} (hs : storeB l = true) : ∀ {ps : List ByteArray} {p : Int} {k : Nat}, (walkB l p ps).2 = true → k < ps.length → (∀ j, k < j → j < ps.length → leftZ (wayZ l p ps) j = []) → leftZ (wayZ l p ps) k ≠ [] →
    (∀ x, upO l (folderB (leftZ (wayZ l p ps) k)) ((wayZ l p ps).take k) = some x → dropB l p ps = (x.1, x.2, true) ∧ isPr x.2 = true) ∧ (upO l (folderB (leftZ (wayZ l p ps) k)) ((wayZ l p ps).take k) = none → (dropB l p ps).2.2 = false)
  | [], _, _, _, h, _, _ => absurd h (Nat.not_lt_zero _)
  | nm :: r, p, 0, h, hk, ha, hn => by
    obtain ⟨h1, h2, h3, h4, h5⟩ := walk_step hs h
    have hE : entsB (entsAt l p) = true := entsAt_ok l p
    have h0 : leftZ (wayZ l p (nm :: r)) 0 = lessE (entsAt l p) nm := rfl
    rw [h0] at hn ⊢
    have hl : leftE (entsAt l p) nm (-1) = lessE (entsAt l p) nm := by unfold leftE; rw [if_neg (by omega), dropE_ok hE]
    have he : dropB l p (nm :: r) = putB l (folderB (lessE (entsAt l p) nm)) := by
      rw [dropB, ← h2, if_neg (by omega), hl]
      have e2 : endB l (lessE (entsAt l p) nm) = putB l (folderB (lessE (entsAt l p) nm)) := by unfold endB; rw [if_neg hn]
      by_cases hr : r = []
      · rw [if_pos hr, e2]
      · have ih := drop_all hs h5 hr fun j hj => ha (j + 1) (by omega) (by rw [List.length_cons]; omega)
        rw [if_neg hr, ih, if_neg (by simp), hl, e2]
    rw [he]
    have hu : upO l (folderB (lessE (entsAt l p) nm)) ((wayZ l p (nm :: r)).take 0) = putO l (folderB (lessE (entsAt l p) nm)) := rfl
    rw [hu]
    cases ho : (putB l (folderB (lessE (entsAt l p) nm))).2.2
    · rw [putO_no ho]
      exact ⟨fun x hx => (by cases hx), fun _ => rfl⟩
    · rw [putO_yes ho]
      refine ⟨fun x hx => ?_, fun hx => (by cases hx)⟩
      have y := put_yes ho
      simp only [Option.some.injEq] at hx
      rw [← hx]
      refine ⟨?_, ?_⟩
      · show _ = ((putB l (folderB (lessE (entsAt l p) nm))).1, printB (folderB (lessE (entsAt l p) nm)), true)
        rw [← y.2.2.1, ← ho]
      · show isPr (printB _) = true
        unfold isPr
        have := printB_bd (folderB (lessE (entsAt l p) nm))
        exact decide_eq_true ⟨printB_ge y.2.1, this.2⟩
  | nm :: r, p, k + 1, h, hk, ha, hn => by
    obtain ⟨h1, h2, h3, h4, h5⟩ := walk_step hs h
    have hE : entsB (entsAt l p) = true := entsAt_ok l p
    rw [List.length_cons] at hk
    have hr : r ≠ [] := fun e => by rw [e] at hk; simp at hk
    have e1 : leftZ (wayZ l p (nm :: r)) (k + 1) = leftZ (wayZ l (lastE nm (-1) (entsAt l p)) r) k := rfl
    rw [e1] at hn ⊢
    obtain ⟨ih1, ih2⟩ := drop_at hs (k := k) h5 (by omega) (fun j hj hj' => ha (j + 1) (by omega) (by rw [List.length_cons]; omega)) hn
    obtain ⟨T, hT⟩ : ∃ T, folderB (leftZ (wayZ l (lastE nm (-1) (entsAt l p)) r) k) = T := ⟨_, rfl⟩
    have hu : upO l T ((wayZ l p (nm :: r)).take (k + 1)) = stepU (upO l T ((wayZ l (lastE nm (-1) (entsAt l p)) r).take k)) (entsAt l p) nm := rfl
    rw [hT] at ih1 ih2 ⊢
    rw [hu]
    have hd : dropB l p (nm :: r) = if (dropB l (lastE nm (-1) (entsAt l p)) r).2.2 = false then (l, -1, false) else endB (dropB l (lastE nm (-1) (entsAt l p)) r).1 (leftE (entsAt l p) nm (dropB l (lastE nm (-1) (entsAt l p)) r).2.1) := by
      rw [dropB, ← h2, if_neg (by omega), if_neg hr]
    cases hs2 : upO l T ((wayZ l (lastE nm (-1) (entsAt l p)) r).take k) with
    | none =>
      have hz := ih2 hs2
      rw [hd, if_pos hz]
      exact ⟨fun x hx => (by cases hx), fun _ => rfl⟩
    | some x =>
      obtain ⟨g1, g2⟩ := ih1 x hs2
      have h6 := put_over hE h3 g2
      have hx0 : 0 ≤ x.2 := by unfold isPr at g2; rw [decide_eq_true_eq] at g2; exact g2.1
      have hpe := putE_yes hE h6
      have hle : leftE (entsAt l p) nm x.2 = putInE (entsAt l p) (nm, x.2) := by unfold leftE; rw [if_pos hx0, hpe]
      have hne : putInE (entsAt l p) (nm, x.2) ≠ [] := by unfold putInE; simp
      have he : dropB l p (nm :: r) = putB x.1 (folderB (putInE (entsAt l p) (nm, x.2))) := by
        rw [hd, g1, if_neg (by simp), hle]
        unfold endB
        rw [if_neg hne]
      rw [he, stepU_go (by rw [hpe]), hpe]
      show (∀ z, putO x.1 (folderB (putInE (entsAt l p) (nm, x.2))) = some z → _) ∧ (putO x.1 (folderB (putInE (entsAt l p) (nm, x.2))) = none → _)
      cases ho : (putB x.1 (folderB (putInE (entsAt l p) (nm, x.2)))).2.2
      · rw [putO_no ho]
        exact ⟨fun x hx => (by cases hx), fun _ => rfl⟩
      · rw [putO_yes ho]
        refine ⟨fun z hz => ?_, fun hx => (by cases hx)⟩
        have y := put_yes ho
        simp only [Option.some.injEq] at hz
        rw [← hz]
        refine ⟨?_, ?_⟩
        · show _ = ((putB x.1 (folderB (putInE (entsAt l p) (nm, x.2)))).1, printB (folderB (putInE (entsAt l p) (nm, x.2))), true)
          rw [← y.2.2.1, ← ho]
        · show isPr (printB _) = true
          unfold isPr
          have := printB_bd (folderB (putInE (entsAt l p) (nm, x.2)))
          exact decide_eq_true ⟨printB_ge y.2.1, this.2⟩
/-- A drop is the program's way. -/
theorem dropAt_up {l : List Pc} {root : Int} {path : ByteArray} (h : (storeB l && isPath path && !decide (partsB path = [])) = true) (hw : (walkB l root (partsB path)).2 = true) {k : Nat} (hk : k < (partsB path).length)
    (h1 : ∀ j, k < j → j < (partsB path).length → leftZ (wayZ l root (partsB path)) j = []) (h2 : k = 0 ∨ leftZ (wayZ l root (partsB path)) k ≠ []) :
    dropAtB l root path = upR l root (upO l (folderB (leftZ (wayZ l root (partsB path)) k)) ((wayZ l root (partsB path)).take k)) := by
  have hx := h
  simp only [Bool.and_eq_true, Bool.not_eq_true', decide_eq_false_iff_not] at hx
  have hs := hx.1.1
  have hne := hx.2
  unfold dropAtB
  rw [if_neg (by rw [h]; simp), if_neg (by rw [hw]; simp)]
  obtain ⟨ps, hps⟩ : ∃ ps, partsB path = ps := ⟨_, rfl⟩
  rw [hps] at hw hk h1 h2 hne ⊢
  clear hx h hps
  by_cases h3 : leftZ (wayZ l root ps) k = []
  · have hk0 : k = 0 := h2.resolve_right (fun h => h h3)
    subst hk0
    have hd := drop_all hs hw hne fun j hj => by
      rcases Nat.eq_zero_or_pos j with h4 | h4
      · rw [h4]; exact h3
      · exact h1 j h4 hj
    rw [hd, h3]
    show (if (putB l (folderB [])).2.2 = false then _ else _) = upR l root (putO l (folderB []))
    cases ho : (putB l (folderB [])).2.2
    · rw [if_pos rfl, putO_no ho]; rfl
    · rw [if_neg (by simp), putO_yes ho, (put_yes ho).2.2.1]; rfl
  · obtain ⟨g1, g2⟩ := drop_at hs hw hk h1 h3
    cases hu : upO l (folderB (leftZ (wayZ l root ps) k)) ((wayZ l root ps).take k) with
    | none =>
      have := g2 hu
      rw [this]; rfl
    | some x =>
      obtain ⟨e, hp⟩ := g1 x hu
      have hx0 : 0 ≤ x.2 := by unfold isPr at hp; rw [decide_eq_true_eq] at hp; exact hp.1
      rw [e]
      show (if (true && decide (x.2 < 0)) = true then _ else _) = _
      rw [decide_eq_false (show ¬ x.2 < 0 by omega)]
      rfl
end Go.Proofs.YtglajbmopiolhaaGreatDoor
