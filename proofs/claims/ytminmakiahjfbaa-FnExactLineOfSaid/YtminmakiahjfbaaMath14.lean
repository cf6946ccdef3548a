/-
  Chapter 14, plain: versions, their lines, the nearest one of both, tips.
-/
import Derived.Test.YtminmakiahjfbaaVers
namespace Go.Proofs.Ytminmakiahjfbaa
open Go.RowKit
set_option linter.unusedVariables false
/-- The version at a place is right there. -/
def okV (l : List Ver) (k : Nat) : Bool := in3 (nthV l k).1 0 16777212 && (in3 (nthV l k).2.1 (-1) ((k : Int) - 1) && wordB (nthV l k).2.2)
def versB (l : List Ver) : Bool := (List.range l.length).all (okV l) && decide (l.length ≤ 12)
theorem versB_bad {l : List Ver} {k : Nat} (hk : k < l.length) (h : okV l k = false) : versB l = false := by
  unfold versB
  rw [List.all_eq_false.2 ⟨k, List.mem_range.2 hk, by rw [h]; simp⟩, Bool.false_and]
theorem versB_end {l : List Ver} (h : ∀ k, k < l.length → okV l k = true) : versB l = decide (l.length ≤ 12) := by
  unfold versB
  rw [List.all_eq_true.2 fun k hk => h k (List.mem_range.1 hk), Bool.true_and]
theorem versB_at {l : List Ver} (h : versB l = true) : l.length ≤ 12 ∧ ∀ k, k < l.length → okV l k = true := by
  unfold versB at h
  rw [Bool.and_eq_true, List.all_eq_true, decide_eq_true_eq] at h
  exact ⟨h.2, fun k hk => h.1 k (List.mem_range.2 hk)⟩
theorem okV_at {l : List Ver} {k : Nat} (h : okV l k = true) : -1 ≤ (nthV l k).2.1 ∧ (nthV l k).2.1 < (k : Int) ∧ wordB (nthV l k).2.2 = true ∧ 0 ≤ (nthV l k).1 ∧ (nthV l k).1 ≤ 16777212 := by
  unfold okV in3 at h
  simp only [Bool.and_eq_true, decide_eq_true_eq] at h
  exact ⟨h.2.1.1, by omega, h.2.2, h.1.1, h.1.2⟩
theorem nthV_pre {l r : List Ver} {k : Nat} (h : k < l.length) : nthV (l ++ r) k = nthV l k := by
  rw [nthV_get h, nthV_get (by rw [List.length_append]; omega), List.getElem_append_left h]
theorem okV_pre {l r : List Ver} {k : Nat} (h : k < l.length) : okV (l ++ r) k = okV l k := by unfold okV; rw [nthV_pre h]
theorem versB_pre {l r : List Ver} (h : versB (l ++ r) = true) : versB l = true := by
  obtain ⟨h1, h2⟩ := versB_at h
  rw [List.length_append] at h1 h2
  rw [versB_end fun k hk => by rw [← okV_pre (r := r) hk]; exact h2 k (by omega)]
  exact decide_eq_true (by omega)
theorem versB_take {l : List Ver} (h : versB l = true) (k : Nat) : versB (l.take k) = true := by
  rw [← List.take_append_drop k l] at h; exact versB_pre h
theorem nthV_last (l : List Ver) (v : Ver) : nthV (l ++ [v]) l.length = v := by
  rw [nthV_get (by simp), List.getElem_append_right (Nat.le_refl _)]; simp
/-- With a version that is after itself versions are not valid. -/
theorem versB_self (l : List Ver) (root : Int) (note : ByteArray) : versB (l ++ [(root, (l.length : Int), note)]) = false := by
  refine versB_bad (k := l.length) (by simp) ?_
  unfold okV
  rw [nthV_last]
  have : in3 (l.length : Int) (-1) ((l.length : Int) - 1) = false := by unfold in3; rw [decide_eq_false (by omega)]
  simp only [this, Bool.false_and, Bool.and_false]
/-! ### adding -/
def addV (l : List Ver) (v : Ver) : List Ver × Bool := if versB l = false then ([], false) else if versB (l ++ [v]) = true then (l ++ [v], true) else (l, false)
theorem addV_bad {l : List Ver} {v : Ver} (h : versB l = false) : addV l v = ([], false) := by unfold addV; rw [if_pos h]
theorem addV_no {l : List Ver} {v : Ver} (h : versB l = true) (h' : versB (l ++ [v]) = false) : addV l v = (l, false) := by unfold addV; rw [if_neg (by rw [h]; simp), if_neg (by rw [h']; simp)]
theorem addV_yes {l : List Ver} {v : Ver} (h : versB l = true) (h' : versB (l ++ [v]) = true) : addV l v = (l ++ [v], true) := by unfold addV; rw [if_neg (by rw [h]; simp), if_pos h']
/-! ### lines -/
def lineF (l : List Ver) : Nat → Int → List Int
  | 0, _ => []
  | f + 1, n => if n < 0 then [] else n :: lineF l f (nthV l n.toNat).2.1
theorem lineF_neg {l : List Ver} : ∀ {f : Nat} {n : Int}, n < 0 → lineF l f n = []
  | 0, _, _ => rfl
  | f + 1, n, h => by rw [lineF, if_pos h]
theorem lineF_enough {l : List Ver} (h : versB l = true) : ∀ {f g : Nat} {n : Int}, n < (l.length : Int) → n < (f : Int) → n < (g : Int) → lineF l f n = lineF l g n
  | 0, g, n, _, h1, _ => by rw [lineF_neg (by omega), lineF_neg (by omega)]
  | f + 1, 0, n, _, _, h2 => by rw [lineF_neg (by omega), lineF_neg (by omega)]
  | f + 1, g + 1, n, hl, h1, h2 => by
    rw [lineF, lineF]
    split
    · rfl
    · rename_i hn
      have hk := (okV_at ((versB_at h).2 n.toNat (by omega))).2.1
      rw [lineF_enough h (f := f) (g := g) (by omega) (by omega) (by omega)]
/-- The line of a version. -/
def lineI (l : List Ver) (n : Int) : List Int := lineF l (n + 1).toNat n
theorem lineI_neg {l : List Ver} {n : Int} (h : n < 0) : lineI l n = [] := lineF_neg h
theorem lineI_step {l : List Ver} (h : versB l = true) {n : Nat} (hn : n < l.length) : lineI l n = (n : Int) :: lineI l (nthV l n).2.1 := by
  have hk := (okV_at ((versB_at h).2 n hn)).2.1
  unfold lineI
  have e : ((n : Int) + 1).toNat = n + 1 := by omega
  rw [e, lineF, if_neg (by omega)]
  congr 1
  have e2 : (n : Int).toNat = n := by omega
  rw [e2]
  exact lineF_enough h (by omega) (by omega) (by omega)
def lineB (l : List Ver) (n : Int) : List Int := if (versB l && in3 n 0 ((l.length : Int) - 1)) = true then lineI l n else []
theorem lineB_no {l : List Ver} {n : Int} (h : versB l = false ∨ in3 n 0 ((l.length : Int) - 1) = false) : lineB l n = [] := by
  unfold lineB; rw [if_neg (by rcases h with h | h <;> simp [h])]
theorem lineB_yes {l : List Ver} {n : Nat} (h : versB l = true) (hn : n < l.length) : lineB l n = lineI l n := by
  unfold lineB
  have : in3 (n : Int) 0 ((l.length : Int) - 1) = true := in3_yes (by omega) (by omega)
  rw [if_pos (by rw [h, this]; rfl)]
/-- What is in a line: the number itself, and what is in the line of the one before. -/
theorem lineI_mem {l : List Ver} (h : versB l = true) : ∀ (n : Nat), n < l.length → ∀ v ∈ lineI l n, 0 ≤ v ∧ v ≤ (n : Int) := by
  intro n
  induction n using Nat.strongRecOn with
  | _ n ih =>
    intro hn v hv
    rw [lineI_step h hn] at hv
    rcases List.mem_cons.1 hv with rfl | hv
    · omega
    · have hk := okV_at ((versB_at h).2 n hn)
      by_cases hb : (nthV l n).2.1 < 0
      · rw [lineI_neg hb] at hv; cases hv
      · obtain ⟨b, hb2⟩ : ∃ b : Nat, (nthV l n).2.1 = (b : Int) := ⟨(nthV l n).2.1.toNat, by omega⟩
        rw [hb2] at hv hk
        have := ih b (by omega) (by omega) v hv
        omega
/-- The line of a version in a line is its end. -/
theorem lineI_tail {l : List Ver} (h : versB l = true) : ∀ (n : Nat), n < l.length → ∀ (v : Nat), (v : Int) ∈ lineI l n → ∃ r, lineI l n = r ++ lineI l v := by
  intro n
  induction n using Nat.strongRecOn with
  | _ n ih =>
    intro hn v hv
    have hs := lineI_step h hn
    rw [hs] at hv
    rcases List.mem_cons.1 hv with e | hv
    · obtain rfl : v = n := by omega
      exact ⟨[], rfl⟩
    · have hk := okV_at ((versB_at h).2 n hn)
      by_cases hb : (nthV l n).2.1 < 0
      · rw [lineI_neg hb] at hv; cases hv
      · obtain ⟨b, hb2⟩ : ∃ b : Nat, (nthV l n).2.1 = (b : Int) := ⟨(nthV l n).2.1.toNat, by omega⟩
        rw [hb2] at hv hk hs
        obtain ⟨r, hr⟩ := ih b (by omega) (by omega) v hv
        exact ⟨(n : Int) :: r, by rw [hs, hr]; rfl⟩
theorem lineI_self {l : List Ver} (h : versB l = true) {n : Nat} (hn : n < l.length) : (n : Int) ∈ lineI l n := by rw [lineI_step h hn]; exact List.mem_cons_self ..
/-- Lines descend. -/
theorem lineI_desc {l : List Ver} (h : versB l = true) : ∀ (n : Nat), n < l.length → (lineI l n).Pairwise (fun a b => b < a) := by
  intro n
  induction n using Nat.strongRecOn with
  | _ n ih =>
    intro hn
    rw [lineI_step h hn, List.pairwise_cons]
    have hk := okV_at ((versB_at h).2 n hn)
    by_cases hb : (nthV l n).2.1 < 0
    · rw [lineI_neg hb]; exact ⟨(fun _ h => by cases h), List.Pairwise.nil⟩
    · obtain ⟨b, hb2⟩ : ∃ b : Nat, (nthV l n).2.1 = (b : Int) := ⟨(nthV l n).2.1.toNat, by omega⟩
      rw [hb2] at hk ⊢
      refine ⟨fun v hv => ?_, ih b (by omega) (by omega)⟩
      have := lineI_mem h b (by omega) v hv
      omega
/-- The line of a version does not turn when versions are added. -/
theorem lineI_pre {l r : List Ver} (h : versB (l ++ r) = true) : ∀ (n : Nat), n < l.length → lineI (l ++ r) n = lineI l n := by
  have hl := versB_pre h
  intro n
  induction n using Nat.strongRecOn with
  | _ n ih =>
    intro hn
    rw [lineI_step h (by rw [List.length_append]; omega), lineI_step hl hn, nthV_pre hn]
    have hk := okV_at ((versB_at hl).2 n hn)
    by_cases hb : (nthV l n).2.1 < 0
    · rw [lineI_neg hb, lineI_neg hb]
    · obtain ⟨b, hb2⟩ : ∃ b : Nat, (nthV l n).2.1 = (b : Int) := ⟨(nthV l n).2.1.toNat, by omega⟩
      rw [hb2] at hk ⊢
      rw [ih b (by omega) (by omega)]
/-- The line of an added version. -/
theorem line_added {l : List Ver} {v : Ver} (h : versB (l ++ [v]) = true) : lineB (l ++ [v]) l.length = (l.length : Int) :: lineB l v.2.1 := by
  have hl := versB_pre h
  have hlen : l.length < (l ++ [v]).length := by simp
  rw [lineB_yes h hlen, lineI_step h hlen, nthV_last]
  congr 1
  have hk := okV_at ((versB_at h).2 l.length hlen)
  rw [nthV_last] at hk
  by_cases hb : v.2.1 < 0
  · rw [lineI_neg hb, lineB_no (.inr (in3_lo (by omega)))]
  · obtain ⟨b, hb2⟩ : ∃ b : Nat, v.2.1 = (b : Int) := ⟨v.2.1.toNat, by omega⟩
    rw [hb2] at hk ⊢
    rw [lineI_pre h b (by omega), lineB_yes hl (by omega)]
theorem line_len {l : List Ver} (h : versB l = true) : ∀ (n : Nat), n < l.length → (lineI l n).length ≤ n + 1 := by
  intro n
  induction n using Nat.strongRecOn with
  | _ n ih =>
    intro hn
    rw [lineI_step h hn, List.length_cons]
    have hk := okV_at ((versB_at h).2 n hn)
    by_cases hb : (nthV l n).2.1 < 0
    · rw [lineI_neg hb]; simp
    · obtain ⟨b, hb2⟩ : ∃ b : Nat, (nthV l n).2.1 = (b : Int) := ⟨(nthV l n).2.1.toNat, by omega⟩
      rw [hb2] at hk ⊢
      have := ih b (by omega) (by omega)
      omega
theorem lineB_len (l : List Ver) (n : Int) : (lineB l n).length ≤ 12 := by
  unfold lineB
  split
  · rename_i h
    rw [Bool.and_eq_true] at h
    have h3 := h.2
    unfold in3 at h3
    rw [decide_eq_true_eq] at h3
    obtain ⟨k, rfl⟩ : ∃ k : Nat, n = (k : Int) := ⟨n.toNat, by omega⟩
    have := line_len h.1 k (by omega)
    have := (versB_at h.1).1
    omega
  · simp
/-! ### the nearest one of both -/
def nearB (l : List Ver) (a b : Int) : Int := ((lineB l a).find? fun v => decide (v ∈ lineB l b)).getD (-1)
theorem lineB_in {l : List Ver} {a : Int} {v : Int} (h : v ∈ lineB l a) : versB l = true ∧ ∃ n : Nat, a = (n : Int) ∧ n < l.length ∧ lineB l a = lineI l n := by
  unfold lineB at h
  split at h
  · rename_i h1
    rw [Bool.and_eq_true] at h1
    have h3 := h1.2
    unfold in3 at h3
    rw [decide_eq_true_eq] at h3
    obtain ⟨n, rfl⟩ : ∃ k : Nat, a = (k : Int) := ⟨a.toNat, by omega⟩
    exact ⟨h1.1, n, rfl, by omega, by rw [lineB_yes h1.1 (by omega)]⟩
  · cases h
theorem lineB_desc (l : List Ver) (a : Int) : (lineB l a).Pairwise (fun a b => b < a) := by
  unfold lineB
  split
  · rename_i h1
    rw [Bool.and_eq_true] at h1
    have h3 := h1.2
    unfold in3 at h3
    rw [decide_eq_true_eq] at h3
    obtain ⟨n, rfl⟩ : ∃ k : Nat, a = (k : Int) := ⟨a.toNat, by omega⟩
    exact lineI_desc h1.1 n (by omega)
  · exact List.Pairwise.nil
/-- The first one of a descending list with a property is the greatest one. -/
theorem find_desc {p : Int → Bool} : ∀ {xs : List Int}, xs.Pairwise (fun a b => b < a) → ∀ v, xs.find? p = some v ↔ (v ∈ xs ∧ p v = true ∧ ∀ u ∈ xs, p u = true → u ≤ v)
  | [], _, v => by simp
  | x :: xs, h, v => by
    obtain ⟨h1, h2⟩ := List.pairwise_cons.1 h
    cases hp : p x
    · rw [List.find?_cons_of_neg (by rw [hp]; simp), find_desc h2]
      constructor
      · rintro ⟨a, b, c⟩
        exact ⟨List.mem_cons_of_mem _ a, b, fun u hu hpu => by
          rcases List.mem_cons.1 hu with rfl | hu
          · rw [hp] at hpu; cases hpu
          · exact c u hu hpu⟩
      · rintro ⟨a, b, c⟩
        rcases List.mem_cons.1 a with rfl | a
        · rw [hp] at b; cases b
        · exact ⟨a, b, fun u hu hpu => c u (List.mem_cons_of_mem _ hu) hpu⟩
    · rw [List.find?_cons_of_pos hp]
      constructor
      · rintro e
        obtain rfl := Option.some.inj e
        exact ⟨List.mem_cons_self .., hp, fun u hu _ => by
          rcases List.mem_cons.1 hu with rfl | hu
          · exact Int.le_refl _
          · exact Int.le_of_lt (h1 u hu)⟩
      · rintro ⟨a, b, c⟩
        have h3 := c x (List.mem_cons_self ..) hp
        rcases List.mem_cons.1 a with rfl | a
        · rfl
        · have := h1 v a; omega
theorem near_some {l : List Ver} {a b v : Int} : ((lineB l a).find? fun v => decide (v ∈ lineB l b)) = some v ↔ (v ∈ lineB l a ∧ v ∈ lineB l b ∧ ∀ u, u ∈ lineB l a → u ∈ lineB l b → u ≤ v) := by
  rw [find_desc (lineB_desc l a)]
  simp only [decide_eq_true_eq]
/-- With both exchanged it is the same. -/
theorem near_flip (l : List Ver) (a b : Int) : nearB l a b = nearB l b a := by
  unfold nearB
  have one : ∀ a b v, ((lineB l a).find? fun v => decide (v ∈ lineB l b)) = some v → ((lineB l b).find? fun v => decide (v ∈ lineB l a)) = some v := fun a b v h => by
    rw [near_some] at h ⊢
    exact ⟨h.2.1, h.1, fun u h1 h2 => h.2.2 u h2 h1⟩
  cases h1 : (lineB l a).find? fun v => decide (v ∈ lineB l b) with
  | some v => rw [one a b v h1]
  | none =>
    cases h2 : (lineB l b).find? fun v => decide (v ∈ lineB l a) with
    | none => rfl
    | some v => rw [one b a v h2] at h1; cases h1
theorem near_facts {l : List Ver} {a b : Int} : (nearB l a b < 0 → nearB l a b = -1) ∧ (0 ≤ nearB l a b → nearB l a b ∈ lineB l a ∧ nearB l a b ∈ lineB l b ∧ nearB l a a = a ∧ nearB l a (nearB l a b) = nearB l a b) := by
  cases h1 : (lineB l a).find? fun v => decide (v ∈ lineB l b) with
  | none =>
    have e : nearB l a b = -1 := by unfold nearB; rw [h1]; rfl
    rw [e]; exact ⟨fun _ => rfl, fun h => by omega⟩
  | some v =>
    have e : nearB l a b = v := by unfold nearB; rw [h1]; rfl
    obtain ⟨h2, h3, h4⟩ := near_some.1 h1
    rw [e]
    obtain ⟨hv, n, rfl, hn, hl⟩ := lineB_in h2
    have h0 := lineI_mem hv n hn v (by rw [← hl]; exact h2)
    refine ⟨fun h => by omega, fun _ => ⟨h2, h3, ?_, ?_⟩⟩
    · have : ((lineB l n).find? fun v => decide (v ∈ lineB l n)) = some (n : Int) := near_some.2 ⟨by rw [hl]; exact lineI_self hv hn, by rw [hl]; exact lineI_self hv hn, fun u hu _ => (lineI_mem hv n hn u (by rw [← hl]; exact hu)).2⟩
      unfold nearB; rw [this]; rfl
    · obtain ⟨k, rfl⟩ : ∃ k : Nat, v = (k : Int) := ⟨v.toNat, by omega⟩
      have hk : k < l.length := by omega
      have hlk := lineB_yes hv hk
      have : ((lineB l n).find? fun u => decide (u ∈ lineB l k)) = some (k : Int) := near_some.2 ⟨h2, by rw [hlk]; exact lineI_self hv hk, fun u _ hu => (lineI_mem hv k hk u (by rw [← hlk]; exact hu)).2⟩
      unfold nearB; rw [this]; rfl
/-! ### tips -/
def namedV (l : List Ver) (k : Nat) : Bool := l.any fun v => decide (v.2.1 = (k : Int))
def tipsN (l : List Ver) : List Nat := (List.range l.length).filter fun k => !namedV l k
def tipsB (l : List Ver) : List Int := if versB l = true then (tipsN l).map Int.ofNat else []
theorem named_at {l : List Ver} {k : Nat} (h : namedV l k = true) : ∃ j, j < l.length ∧ (nthV l j).2.1 = (k : Int) := by
  unfold namedV at h
  rw [List.any_eq_true] at h
  obtain ⟨v, hv, he⟩ := h
  obtain ⟨j, hj, rfl⟩ := List.mem_iff_getElem.1 hv
  exact ⟨j, hj, by rw [nthV_get hj]; exact of_decide_eq_true he⟩
/-- Every version is in the line of a tip. -/
theorem tip_has {l : List Ver} (h : versB l = true) : ∀ (d n : Nat), n < l.length → l.length ≤ n + d → ∃ k, k < l.length ∧ namedV l k = false ∧ (n : Int) ∈ lineI l k
  | 0, n, hn, hd => by omega
  | d + 1, n, hn, hd => by
    cases hk : namedV l n
    · exact ⟨n, hn, hk, lineI_self h hn⟩
    · obtain ⟨j, hj, he⟩ := named_at hk
      have hb := (okV_at ((versB_at h).2 j hj)).2.1
      obtain ⟨k, h1, h2, h3⟩ := tip_has h d j hj (by omega)
      refine ⟨k, h1, h2, ?_⟩
      obtain ⟨r, hr⟩ := lineI_tail h k h1 j h3
      rw [hr, List.mem_append, lineI_step h hj, he]
      exact .inr (List.mem_cons_of_mem _ (lineI_self h hn))
theorem tips_in {l : List Ver} (h : versB l = true) {k : Nat} (hk : k < l.length) (hn : namedV l k = false) : (k : Int) ∈ tipsB l := by
  unfold tipsB tipsN
  rw [if_pos h]
  exact List.mem_map.2 ⟨k, List.mem_filter.2 ⟨List.mem_range.2 hk, by rw [hn]; rfl⟩, rfl⟩
theorem tips_pos {l : List Ver} (h : versB l = true) : (0 < (tipsB l).length) ↔ (0 < l.length) := by
  constructor
  · intro h1
    unfold tipsB tipsN at h1
    rw [if_pos h, List.length_map] at h1
    have := List.length_filter_le (fun k => !namedV l k) (List.range l.length)
    rw [List.length_range] at this
    omega
  · intro h1
    obtain ⟨k, h2, h3, _⟩ := tip_has h l.length 0 h1 (by omega)
    exact List.length_pos_of_mem (tips_in h h2 h3)
theorem tipsB_len (l : List Ver) : (tipsB l).length ≤ 12 := by
  unfold tipsB
  split
  · rename_i h
    unfold tipsN
    rw [List.length_map]
    have h1 := List.length_filter_le (fun k => !namedV l k) (List.range l.length)
    rw [List.length_range] at h1
    have := (versB_at h).1
    omega
  · simp
/-! ### along a line -/
theorem line_next {l : List Ver} (h : versB l = true) : ∀ (n : Nat), n < l.length → ∀ k, k + 1 < (lineI l n).length → ∃ a b : Nat, nthI (lineI l n) k = (a : Int) ∧ nthI (lineI l n) (k + 1) = (b : Int) ∧ b < a ∧ a < l.length ∧ (nthV l a).2.1 = (b : Int) := by
  intro n
  induction n using Nat.strongRecOn with
  | _ n ih =>
    intro hn k hk
    have hs := lineI_step h hn
    rw [hs] at hk ⊢
    have hok := okV_at ((versB_at h).2 n hn)
    by_cases hb : (nthV l n).2.1 < 0
    · rw [lineI_neg hb] at hk; simp at hk
    · obtain ⟨b, hb2⟩ : ∃ b : Nat, (nthV l n).2.1 = (b : Int) := ⟨(nthV l n).2.1.toNat, by omega⟩
      rw [hb2] at hk hok ⊢
      cases k with
      | zero =>
        refine ⟨n, b, rfl, ?_, by omega, hn, hb2⟩
        rw [lineI_step h (show b < l.length by omega)]; rfl
      | succ k =>
        rw [List.length_cons] at hk
        obtain ⟨a, c, h1, h2, h3, h4, h5⟩ := ih b (by omega) (by omega) k (by omega)
        exact ⟨a, c, h1, h2, h3, h4, h5⟩
theorem line_last {l : List Ver} (h : versB l = true) : ∀ (n : Nat), n < l.length → ∃ a : Nat, nthI (lineI l n) ((lineI l n).length - 1) = (a : Int) ∧ a < l.length ∧ (nthV l a).2.1 = -1 := by
  intro n
  induction n using Nat.strongRecOn with
  | _ n ih =>
    intro hn
    have hs := lineI_step h hn
    rw [hs]
    have hok := okV_at ((versB_at h).2 n hn)
    by_cases hb : (nthV l n).2.1 < 0
    · rw [lineI_neg hb]
      exact ⟨n, rfl, hn, by omega⟩
    · obtain ⟨b, hb2⟩ : ∃ b : Nat, (nthV l n).2.1 = (b : Int) := ⟨(nthV l n).2.1.toNat, by omega⟩
      rw [hb2] at hok ⊢
      obtain ⟨a, h1, h2, h3⟩ := ih b (by omega) (by omega)
      refine ⟨a, ?_, h2, h3⟩
      have h0 : 0 < (lineI l b).length := by rw [lineI_step h (show b < l.length by omega)]; simp
      rw [List.length_cons, Nat.add_sub_cancel]
      obtain ⟨i, hi⟩ : ∃ i, (lineI l b).length = i + 1 := ⟨(lineI l b).length - 1, by omega⟩
      rw [hi] at h1 ⊢
      exact h1
/-- What a line that is not empty is. -/
theorem line_facts {l : List Ver} {m : Int} (h : lineB l m ≠ []) : nthI (lineB l m) 0 = m ∧ (∀ k, k + 1 < (lineB l m).length → ∃ a b : Nat, nthI (lineB l m) k = (a : Int) ∧ nthI (lineB l m) (k + 1) = (b : Int) ∧ b < a ∧ a < l.length ∧ (nthV l a).2.1 = (b : Int)) ∧ ∃ a : Nat, nthI (lineB l m) ((lineB l m).length - 1) = (a : Int) ∧ a < l.length ∧ (nthV l a).2.1 = -1 := by
  obtain ⟨v, hv⟩ := List.exists_mem_of_ne_nil _ h
  obtain ⟨hs, n, rfl, hn, e⟩ := lineB_in hv
  rw [e]
  exact ⟨by rw [lineI_step hs hn]; rfl, line_next hs n hn, line_last hs n hn⟩
end Go.Proofs.Ytminmakiahjfbaa
