/-
  Chapter 12, plain: the texts as far as folders lead, and when they prove something.
-/
import Derived.Test.YtojebghaegimbaaGreatDoorMath12
import Derived.Test.YtojebghaegimbaaGreatDoorImpl9
namespace Go.Proofs.YtojebghaegimbaaGreatDoor
open Go.RowKit
set_option linter.unusedVariables false
/-! ### the print that is wanted next -/
theorem name_last {t nm : ByteArray} (h : (nameW t nm).2 = true) : lastE nm (-2) (foldL t) = (nameW t nm).1 := by
  cases hf : findE (foldL t) nm with
  | none => rw [nameW_none hf] at h; cases h
  | some c => rw [nameW_some hf]; exact lastE_in (ascN_of fold_ents) (findE_mem hf)
theorem name_miss {t nm : ByteArray} (h : (nameW t nm).2 = false) : lastE nm (-2) (foldL t) = -2 ∧ (nameW t nm).1 = -1 := by
  cases hf : findE (foldL t) nm with
  | some c => rw [nameW_some hf] at h; cases h
  | none =>
    refine ⟨lastE_none fun q hq e => ?_, by rw [nameW_none hf]⟩
    have := findE_in (nm := nm) (c := q.2) (ascN_of (fold_ents (s := t))) (by rw [← e]; exact hq)
    rw [hf] at this; cases this
def wantP (p : Int) (ps L : List ByteArray) (j : Nat) : Int := if j = 0 then p else lastE (nthS ps (j - 1)) (-2) (foldL (nthS L (j - 1)))
theorem want_succ {p : Int} {ps r : List ByteArray} {t : ByteArray} : ∀ {j : Nat}, wantP p ps (t :: r) (j + 1) = wantP (lastE (nthS ps 0) (-2) (foldL t)) (ps.drop 1) r j
  | 0 => rfl
  | j + 1 => by
    unfold wantP
    rw [if_neg (by omega), if_neg (by omega), nthS_drop]
    show lastE (nthS ps (j + 1)) (-2) (foldL (nthS r j)) = lastE (nthS ps (1 + j)) (-2) (foldL (nthS r j))
    rw [Nat.add_comm]
theorem way_all : ∀ {L ps : List ByteArray} {p : Int}, 0 < L.length → (∀ j, j < L.length → printB (nthS L j) = wantP p ps L j) → wayPB p ps L = true
  | [], _, _, h, _ => absurd h (Nat.lt_irrefl _)
  | t :: r, ps, p, _, ha => by
    have h0 : printB t = p := ha 0 (by simp)
    rw [wayPB, decide_eq_true h0, Bool.true_and]
    by_cases hr : r = []
    · rw [decide_eq_true hr]; rfl
    · rw [way_all (List.length_pos_iff.2 hr) fun j hj => by
        have := ha (j + 1) (by rw [List.length_cons]; omega)
        rw [want_succ] at this
        exact this]
      simp
theorem way_bad : ∀ {L ps : List ByteArray} {p : Int} {j : Nat}, j < L.length → printB (nthS L j) ≠ wantP p ps L j → wayPB p ps L = false
  | [], _, _, _, h, _ => absurd h (Nat.not_lt_zero _)
  | t :: r, ps, p, 0, _, ha => by
    have h0 : printB t ≠ p := ha
    rw [wayPB, decide_eq_false h0]; rfl
  | t :: r, ps, p, j + 1, hj, ha => by
    rw [want_succ] at ha
    have hj' : j < r.length := by rw [List.length_cons] at hj; omega
    have := way_bad (ps := ps.drop 1) hj' ha
    rw [wayPB, this, show decide (r = []) = false from decide_eq_false (fun e => by rw [e] at hj'; exact Nat.not_lt_zero _ hj')]
    simp
theorem want_name {p : Int} {ps L : List ByteArray} {j : Nat} (h : (nameW (nthS L j) (nthS ps j)).2 = true) : wantP p ps L (j + 1) = (nameW (nthS L j) (nthS ps j)).1 := name_last h
theorem want_miss {p : Int} {ps L : List ByteArray} {j : Nat} (h : (nameW (nthS L j) (nthS ps j)).2 = false) : printB (nthS L (j + 1)) ≠ wantP p ps L (j + 1) := by
  have h1 : wantP p ps L (j + 1) = -2 := (name_miss h).1
  have := printB_bd (nthS L (j + 1))
  omega
/-! ### the texts as far as folders lead -/
def alongL (l : List Pc) : Int → List ByteArray → List ByteArray
  | p, [] => if gotO l p = true then [gotT l p] else []
  | p, nm :: r => if gotO l p = true then gotT l p :: alongL l (nameW (gotT l p) nm).1 r else []
def alongR (l : List Pc) (t : ByteArray) : List ByteArray → List ByteArray
  | [] => []
  | nm :: r => alongL l (nameW t nm).1 r
theorem along_out {l : List Pc} {p : Int} {ps : List ByteArray} (h : gotO l p = false) : alongL l p ps = [] := by
  cases ps <;> rw [alongL, if_neg (by rw [h]; simp)]
theorem along_in {l : List Pc} {p : Int} {ps : List ByteArray} (h : gotO l p = true) : alongL l p ps = gotT l p :: alongR l (gotT l p) ps := by
  cases ps <;> rw [alongL, if_pos h] <;> rfl
theorem alongR_step {l : List Pc} {t : ByteArray} {ps : List ByteArray} {k : Nat} (h : k < ps.length) : alongR l t (ps.drop k) = alongL l (nameW t (nthS ps k)).1 (ps.drop (k + 1)) := by
  rw [List.drop_eq_getElem_cons h, ← nthS_get h]; rfl
theorem alongR_end {l : List Pc} {t : ByteArray} {ps : List ByteArray} {k : Nat} (h : ps.length ≤ k) : alongR l t (ps.drop k) = [] := by
  rw [List.drop_of_length_le h]; rfl
def alongT (l : List Pc) (root : Int) (path : ByteArray) : List ByteArray := if isPath path = true then alongL l root (partsB path) else []
theorem got_neg (l : List Pc) : gotO l (-1) = false := by
  cases h : gotO l (-1)
  · rfl
  · unfold gotO at h
    rw [Bool.and_eq_true] at h
    obtain ⟨h1, h2⟩ := h
    unfold getO at h2
    cases hg : getB l (-1) with
    | none => rw [hg] at h2; cases h2
    | some t => exact absurd (get_right h1 hg).2.2 (by decide)
theorem along_walk {l : List Pc} (hs : storeB l = true) : ∀ {ps : List ByteArray} {p : Int} {k : Nat}, k ≤ ps.length → (walkB l p (ps.take k)).2 = true →
    ∃ rest, alongL l p ps = textsW l p (ps.take k) ++ rest ∧ (k = ps.length → rest = []) ∧ (k < ps.length → rest = alongL l (nameW (getT l (walkB l p (ps.take k)).1) (nthS ps k)).1 (ps.drop (k + 1)))
  | ps, p, 0, hk, hw => by
    rw [List.take_zero] at hw ⊢
    have ho := (walk_has hw).2
    have e : walkB l p [] = (p, true) := by rw [walkB, if_pos ho]
    have hg := got_yes p hs
    rw [along_in (hg.2.trans ho), hg.1, e]
    refine ⟨alongR l (getT l p) ps, rfl, fun h => ?_, fun h => ?_⟩
    · rw [List.eq_nil_of_length_eq_zero h.symm]; rfl
    · exact alongR_step (k := 0) h
  | [], p, k + 1, hk, hw => absurd hk (Nat.not_succ_le_zero _)
  | nm :: r, p, k + 1, hk, hw => by
    rw [List.take_succ_cons] at hw ⊢
    obtain ⟨g1, g2, g3, g4, g5⟩ := walk_step hs hw
    have ho := (walk_has hw).2
    have hg := got_yes p hs
    have hc : (nameW (gotT l p) nm).1 = lastE nm (-1) (entsAt l p) := by
      rw [hg.1, nameW_some (by rw [← g2]; exact findE_in (ascN_of (entsAt_ok l p)) g3)]
    obtain ⟨rest, h1, h2, h3⟩ := along_walk hs (ps := r) (by rw [List.length_cons] at hk; omega) g5
    refine ⟨rest, ?_, fun h => h2 (by rw [List.length_cons] at h; omega), fun h => ?_⟩
    · rw [alongL, if_pos (hg.2.trans ho), hc, h1, textsW, hg.1]; rfl
    · rw [h3 (by rw [List.length_cons] at h; omega), walk_cons hs hw]; rfl
theorem along_back {l : List Pc} (hs : storeB l = true) : ∀ {ps : List ByteArray} {p : Int} {k : Nat}, wayPB p ps (alongL l p ps) = true → (alongL l p ps).length = k + 1 → k ≤ ps.length ∧ (walkB l p (ps.take k)).2 = true
  | ps, p, k, hw, hk => by
    have ho : gotO l p = true := by
      cases ho : gotO l p
      · rw [along_out ho, wayPB] at hw; cases hw
      · rfl
    have hg := got_yes p hs
    have e0 : (walkB l p []).2 = true := by rw [walkB, if_pos (hg.2.symm.trans ho)]
    cases ps with
    | nil =>
      rw [along_in ho] at hk
      have : k = 0 := by simp [alongR] at hk; exact hk
      subst this
      exact ⟨Nat.le_refl _, e0⟩
    | cons nm r =>
      rw [along_in ho] at hk hw
      cases k with
      | zero => exact ⟨Nat.zero_le _, e0⟩
      | succ k =>
        have hk' : (alongL l (nameW (gotT l p) nm).1 r).length = k + 1 := by rw [List.length_cons] at hk; exact Nat.succ.inj hk
        have hne : alongR l (gotT l p) (nm :: r) ≠ [] := fun e => by
          have := congrArg List.length e
          rw [show (alongR l (gotT l p) (nm :: r)).length = k + 1 from hk'] at this
          cases this
        rw [wayPB, decide_eq_false hne, Bool.false_or, Bool.and_eq_true] at hw
        have hw2 : wayPB (lastE nm (-2) (foldL (gotT l p))) r (alongL l (nameW (gotT l p) nm).1 r) = true := hw.2
        cases hn : (nameW (gotT l p) nm).2
        · rw [(name_miss hn).1] at hw2
          have h1 := (wayP_head hw2).2
          have := printB_bd (nthS (alongL l (nameW (gotT l p) nm).1 r) 0)
          omega
        · rw [name_last hn] at hw2
          obtain ⟨h1, h2⟩ := along_back hs (ps := r) hw2 hk'
          refine ⟨by rw [List.length_cons]; omega, ?_⟩
          rw [List.take_succ_cons, walkB]
          have hc : childB l p nm = some (nameW (gotT l p) nm).1 := by
            cases hf : findE (foldL (gotT l p)) nm with
            | none => rw [nameW_none hf] at hn; cases hn
            | some c => rw [nameW_some hf]; rw [hg.1] at hf; exact hf
          rw [hc]
          exact h2
/-! ### what the program answers -/
theorem along_right (l : List Pc) (root : Int) (path : ByteArray) : (if ppRight root path (alongT l root path) = true then alongT l root path else []) = ppTexts l root path := by
  by_cases hw : (wtB l root path).2 = true
  · obtain ⟨h1, h2, h3, h4⟩ := wt_ok hw
    have e : alongT l root path = ppTexts l root path := by
      obtain ⟨rest, g1, g2, _⟩ := along_walk h2 (Nat.le_refl _) (by rw [List.take_length]; exact h3)
      unfold alongT ppTexts
      rw [if_pos h1, if_pos hw, g1, g2 rfl, List.take_length, List.append_nil]
    rw [e, if_pos (texts_right hw)]
  · have hn : ppTexts l root path = [] := by unfold ppTexts; rw [if_neg hw]
    rw [hn]
    by_cases hr : ppRight root path (alongT l root path) = true
    · exfalso
      unfold ppRight at hr
      simp only [Bool.and_eq_true, decide_eq_true_eq] at hr
      obtain ⟨⟨h1, h2⟩, h3⟩ := hr
      have e : alongT l root path = alongL l root (partsB path) := by unfold alongT; rw [if_pos h1]
      rw [e] at h2 h3
      cases hs : storeB l
      · rw [along_out (by unfold gotO; rw [hs]; rfl)] at h2; cases h2
      · have := (along_back hs h3 h2).2
        rw [List.take_length] at this
        exact hw (by rw [wtB_yes h1 hs]; exact this)
    · rw [if_neg hr]
theorem abs_empty {root : Int} {path : ByteArray} : ppAbs root path [] = false := by unfold ppAbs; simp
theorem goneF_nil {l : List Pc} {root : Int} {path : ByteArray} : ∀ {ks : List Nat}, goneF l root path ks = [] → ∀ k ∈ ks, ppAbs root path (goneAt l root path k) = false
  | [], _, k, hk => by cases hk
  | j :: r, h, k, hk => by
    rw [goneF] at h
    cases hj : ppAbs root path (goneAt l root path j)
    · rw [if_neg (by rw [hj]; simp)] at h
      rcases List.mem_cons.1 hk with rfl | hk
      · exact hj
      · exact goneF_nil h k hk
    · rw [if_pos hj] at h
      rw [h, abs_empty] at hj; cases hj
theorem gone_walk {l : List Pc} {root : Int} {path : ByteArray} (h1 : isPath path = true) (h2 : storeB l = true) (k : Nat) : goneAt l root path k = if (walkB l root ((partsB path).take k)).2 = true then textsW l root ((partsB path).take k) else [] := by
  have hj := join_parts ((path_good h1).2 k)
  unfold goneAt ppTexts
  rw [wtB_yes hj.2 h2, hj.1]
theorem along_gone (l : List Pc) (root : Int) (path : ByteArray) : (if ppAbs root path (alongT l root path) = true then alongT l root path else []) = ppGone l root path := by
  cases h1 : isPath path
  · have e : alongT l root path = [] := by unfold alongT; rw [if_neg (by rw [h1]; simp)]
    unfold ppGone
    rw [e, abs_empty, h1]; rfl
  have e : alongT l root path = alongL l root (partsB path) := by unfold alongT; rw [if_pos h1]
  cases h2 : storeB l
  · unfold ppGone
    rw [e, along_out (by unfold gotO; rw [h2]; rfl), abs_empty, h1, h2]; rfl
  have key1 : ∀ k, k < (partsB path).length → ppAbs root path (goneAt l root path k) = true → alongT l root path = goneAt l root path k := by
    intro k hk ha
    rw [gone_walk h1 h2] at ha ⊢
    by_cases hw : (walkB l root ((partsB path).take k)).2 = true
    · rw [if_pos hw] at ha ⊢
      obtain ⟨rest, g1, _, g3⟩ := along_walk h2 (Nat.le_of_lt hk) hw
      have hl : ((partsB path).take k).length = k := by rw [List.length_take]; omega
      have hlast := (textsW_nth (ps := (partsB path).take k) (k := k) h2 hw (by omega)).2
      rw [List.take_take, Nat.min_self] at hlast
      unfold ppAbs at ha
      simp only [Bool.and_eq_true, Bool.not_eq_true'] at ha
      have h6 := ha.2
      rw [textsW_len, hl, Nat.add_sub_cancel, hlast] at h6
      have hn : (nameW (getT l (walkB l root ((partsB path).take k)).1) (nthS (partsB path) k)).1 = -1 := by
        cases hf : findE (foldL (getT l (walkB l root ((partsB path).take k)).1)) (nthS (partsB path) k) with
        | none => rw [nameW_none hf]
        | some c =>
          exfalso
          have : hasN (foldL (getT l (walkB l root ((partsB path).take k)).1)) (nthS (partsB path) k) = true := List.any_eq_true.2 ⟨_, findE_mem hf, decide_eq_true rfl⟩
          rw [h6] at this; cases this
      rw [e, g1, g3 hk, hn, along_out (got_neg l), List.append_nil]
    · rw [if_neg hw, abs_empty] at ha; cases ha
  have key2 : ppAbs root path (alongT l root path) = true → ∃ k, k < (partsB path).length ∧ ppAbs root path (goneAt l root path k) = true := by
    intro ha
    have hx := ha
    unfold ppAbs at hx
    simp only [Bool.and_eq_true, decide_eq_true_eq] at hx
    obtain ⟨⟨⟨⟨_, g1, g2⟩, g3⟩, _⟩, _⟩ := hx
    obtain ⟨k, hk⟩ : ∃ k, (alongT l root path).length = k + 1 := ⟨(alongT l root path).length - 1, by omega⟩
    rw [e] at hk g3
    obtain ⟨b1, b2⟩ := along_back h2 g3 hk
    obtain ⟨rest, r1, _, _⟩ := along_walk h2 b1 b2
    have hr : rest = [] := by
      have := congrArg List.length r1
      rw [hk, List.length_append, textsW_len, List.length_take] at this
      exact List.eq_nil_of_length_eq_zero (by omega)
    refine ⟨k, by rw [e, hk] at g2; omega, ?_⟩
    rw [gone_walk h1 h2, if_pos b2]
    rw [e, r1, hr, List.append_nil] at ha
    exact ha
  unfold ppGone
  rw [h1, h2, Bool.true_and, if_pos rfl]
  rcases gone_is (l := l) (root := root) (path := path) (ks := List.range (partsB path).length) with h5 | ⟨k, hk, h5, h6⟩
  · rw [h5]
    by_cases ha : ppAbs root path (alongT l root path) = true
    · obtain ⟨k, k1, k2⟩ := key2 ha
      rw [goneF_nil h5 k (List.mem_range.2 k1)] at k2; cases k2
    · rw [if_neg ha]
  · rw [h5]
    have := key1 k (List.mem_range.1 hk) h6
    rw [this, if_pos h6]
/-! ### sizes -/
theorem alongL_max {l : List Pc} {m : Nat} (h : ∀ k, (nthP l k).2.size ≤ m) : ∀ (ps : List ByteArray) (p : Int), ∀ t ∈ alongL l p ps, t.size ≤ m
  | [], p, t, ht => by
    rw [alongL] at ht
    split at ht
    · rw [List.mem_singleton.1 ht]; exact gotT_size h
    · cases ht
  | nm :: r, p, t, ht => by
    rw [alongL] at ht
    split at ht
    · rcases List.mem_cons.1 ht with rfl | ht
      · exact gotT_size h
      · exact alongL_max h r _ t ht
    · cases ht
theorem alongT_max {l : List Pc} {m : Nat} (h : ∀ k, (nthP l k).2.size ≤ m) (root : Int) (path : ByteArray) (k : Nat) : (nthS (alongT l root path) k).size ≤ m := nthS_all (fun q hq => by
  unfold alongT at hq
  split at hq
  · exact alongL_max h _ _ q hq
  · cases hq) k
end Go.Proofs.YtojebghaegimbaaGreatDoor
