/-
  Chapter 5: trees of prints. Plain functions.
-/
import Derived.Test.YtlbebbkkpjgboaaPrints
namespace Go.Proofs.Ytlbebbkkpjgboaa
open Go.RowKit
set_option linter.unusedVariables false
/-- The next level of a tree. -/
def upB : List Int → List Int
  | [] => []
  | [a] => [a]
  | a :: b :: l => pairB a b :: upB l
theorem upB_len : ∀ l : List Int, (upB l).length = (l.length + 1) / 2
  | [] => rfl
  | [a] => by simp [upB]
  | a :: b :: l => by simp only [upB, List.length_cons, upB_len l]; omega
/-- The number of the other one of two. -/
def mateN (n : Nat) : Nat := if n % 2 = 0 then n + 1 else n - 1
def upAt (l : List Int) (j : Nat) : Int := if 2 * j + 1 < l.length then pairB (nthI l (2 * j)) (nthI l (2 * j + 1)) else nthI l (2 * j)
theorem upB_at : ∀ (l : List Int) (j : Nat), 2 * j < l.length → nthI (upB l) j = upAt l j
  | [], j, h => by simp at h
  | [a], j, h => by
    have : j = 0 := by simp at h; omega
    subst this; rfl
  | a :: b :: l, 0, h => by simp [upB, nthI, upAt]
  | a :: b :: l, j + 1, h => by
    have h1 := upB_at l j (by simp at h; omega)
    unfold upAt at h1 ⊢
    rw [show 2 * (j + 1) = 2 * j + 1 + 1 by omega]
    simp only [upB, nthI, List.getD_cons_succ, List.length_cons] at h1 ⊢
    rw [h1]
    by_cases h2 : 2 * j + 1 < l.length
    · rw [if_pos h2, if_pos (by omega)]
    · rw [if_neg h2, if_neg (by omega)]
theorem upB_take {l : List Int} {j : Nat} (h : 2 * j < l.length) : (upB l).take (j + 1) = (upB l).take j ++ [upAt l j] := by
  rw [takeI_snoc (by rw [upB_len]; omega), upB_at l j h]
theorem upB_end {l : List Int} {j : Nat} (h : l.length ≤ 2 * j) : (upB l).take j = upB l := List.take_of_length_le (by rw [upB_len]; omega)
/-- The print at the top. -/
def topB (l : List Int) : Int := if 1 < l.length then topB (upB l) else nthI l 0
termination_by l.length
decreasing_by rw [upB_len]; omega
theorem topB_up {l : List Int} (h : 1 < l.length) : topB l = topB (upB l) := by rw [topB, if_pos h]
theorem topB_end {l : List Int} (h : ¬ 1 < l.length) : topB l = nthI l 0 := by rw [topB, if_neg h]
def leavesB (l : List Int) : Bool := l.all isPr && decide (1 ≤ l.length ∧ l.length ≤ 16)
/-- The root of a list. -/
def rootB (l : List Int) : Int := if leavesB l = true then topB l else -1
theorem leavesB_at {l : List Int} (h : leavesB l = true) : l.all isPr = true ∧ 1 ≤ l.length ∧ l.length ≤ 16 := by
  unfold leavesB at h; simpa using h
theorem all_nth {l : List Int} (h : l.all isPr = true) {k : Nat} (hk : k < l.length) : isPr (nthI l k) = true := by
  rw [nthI_get hk]; exact List.all_eq_true.1 h _ (List.getElem_mem hk)
theorem all_of_nth {l : List Int} (h : ∀ k, k < l.length → isPr (nthI l k) = true) : l.all isPr = true := by
  rw [List.all_eq_true]
  intro a ha
  obtain ⟨k, hk, rfl⟩ := List.getElem_of_mem ha
  rw [← nthI_get hk]; exact h k hk
theorem upB_all : ∀ {l : List Int}, l.all isPr = true → (upB l).all isPr = true
  | [], _ => rfl
  | [a], h => h
  | a :: b :: l, h => by
    simp only [List.all_cons, Bool.and_eq_true] at h
    simp only [upB, List.all_cons, Bool.and_eq_true]
    exact ⟨pairB_isPr h.1 h.2.1, upB_all h.2.2⟩
theorem topB_isPr (n : Nat) : ∀ l : List Int, l.length ≤ n → l.all isPr = true → 1 ≤ l.length → isPr (topB l) = true := by
  induction n with
  | zero => intro l h _ h1; omega
  | succ n ih =>
    intro l h ha h1
    by_cases h2 : 1 < l.length
    · rw [topB_up h2]; exact ih _ (by rw [upB_len]; omega) (upB_all ha) (by rw [upB_len]; omega)
    · rw [topB_end h2]; exact all_nth ha (by omega)
theorem rootB_no {l : List Int} (h : leavesB l = false) : rootB l = -1 := by unfold rootB; simp [h]
theorem rootB_yes {l : List Int} (h : leavesB l = true) : rootB l = topB l := by unfold rootB; simp [h]
theorem rootB_isPr {l : List Int} (h : leavesB l = true) : isPr (rootB l) = true := by
  obtain ⟨h1, h2, _⟩ := leavesB_at h
  rw [rootB_yes h]; exact topB_isPr _ l (Nat.le_refl _) h1 h2
theorem rootB_bd (l : List Int) : -1 ≤ rootB l ∧ rootB l ≤ 16777212 := by
  cases h : leavesB l
  · rw [rootB_no h]; omega
  · have := isPr_bd (rootB_isPr h); omega
/-! ### proofs -/
def partB (l : List Int) (n : Nat) : Int := if mateN n = l.length then -1 else nthI l (mateN n)
def proofB (l : List Int) (n : Nat) : List Int := if 1 < l.length then partB l n :: proofB (upB l) (n / 2) else []
termination_by l.length
decreasing_by rw [upB_len]; omega
theorem proofB_up {l : List Int} (n : Nat) (h : 1 < l.length) : proofB l n = partB l n :: proofB (upB l) (n / 2) := by rw [proofB, if_pos h]
theorem proofB_end {l : List Int} (n : Nat) (h : ¬ 1 < l.length) : proofB l n = [] := by rw [proofB, if_neg h]
theorem proofB_len (k : Nat) : ∀ (l : List Int) (n : Nat), l.length ≤ 2 ^ k → (proofB l n).length ≤ k := by
  induction k with
  | zero => intro l n h; rw [proofB_end n (by omega)]; simp
  | succ k ih =>
    intro l n h
    by_cases h1 : 1 < l.length
    · rw [proofB_up n h1, List.length_cons]
      have := ih (upB l) (n / 2) (by rw [upB_len]; rw [Nat.pow_succ] at h; omega)
      omega
    · rw [proofB_end n h1]; simp
/-- The proof of the print n. -/
def provB (l : List Int) (n : Int) : List Int := if (leavesB l && decide (0 ≤ n ∧ n < l.length)) = true then proofB l n.toNat else []
theorem provB_len (l : List Int) (n : Int) : (provB l n).length ≤ 4 := by
  unfold provB; split
  · rename_i h
    simp only [Bool.and_eq_true, decide_eq_true_eq] at h
    exact proofB_len 4 l _ (by have := (leavesB_at h.1).2.2; omega)
  · simp
def aboveB (p : Int) (n m : Nat) (o : Int) : Int := if mateN n = m then (if o = -1 then p else -1) else if n % 2 = 0 then pairB p o else pairB o p
def walkP (p : Int) (n m : Nat) : List Int → Int
  | [] => if 1 < m then -1 else p
  | o :: os => if m = 1 then -1 else walkP (aboveB p n m o) (n / 2) ((m + 1) / 2) os
def rootP (p n m : Int) (l : List Int) : Int := if (isPr p && decide (1 ≤ m ∧ m ≤ 16 ∧ 0 ≤ n ∧ n < m)) = true then walkP p n.toNat m.toNat l else -1
theorem aboveB_bad (n m : Nat) (o : Int) : aboveB (-1) n m o = -1 := by
  unfold aboveB
  split
  · split <;> rfl
  · split
    · exact pairB_no1 _ (by decide)
    · exact pairB_no2 _ (by decide)
theorem walkP_bad : ∀ (os : List Int) (n m : Nat), walkP (-1) n m os = -1
  | [], n, m => by unfold walkP; split <;> rfl
  | o :: os, n, m => by
    unfold walkP
    split
    · rfl
    · rw [aboveB_bad]; exact walkP_bad os _ _
theorem aboveB_or {p : Int} {n m : Nat} {o : Int} (hp : isPr p = true) : aboveB p n m o = -1 ∨ isPr (aboveB p n m o) = true := by
  unfold aboveB
  split
  · split
    · exact .inr hp
    · exact .inl rfl
  · cases ho : isPr o
    · split
      · exact .inl (pairB_no2 _ ho)
      · exact .inl (pairB_no1 _ ho)
    · split
      · exact .inr (pairB_isPr hp ho)
      · exact .inr (pairB_isPr ho hp)
theorem lin_inj {c o p q : Int} (inv kk : Int) (hi : inv * c = 1 + kk * 16777213) (p0 : 0 ≤ p) (p1 : p ≤ 16777212) (q0 : 0 ≤ q) (q1 : q ≤ 16777212) (h : (c * p + o) % 16777213 = (c * q + o) % 16777213) : p = q := by
  obtain ⟨t, ht⟩ := Int.dvd_of_emod_eq_zero (Int.emod_eq_emod_iff_emod_sub_eq_zero.1 h)
  have e : c * (p - q) = 16777213 * t := by rw [Int.mul_sub]; omega
  have e2 : inv * (c * (p - q)) = inv * (16777213 * t) := by rw [e]
  rw [← Int.mul_assoc, hi, Int.add_mul, Int.one_mul, Int.mul_comm kk, Int.mul_assoc, Int.mul_left_comm inv] at e2
  generalize kk * (p - q) = x at e2
  generalize inv * t = y at e2
  omega
theorem pair_inj1 {p q o : Int} (hp : isPr p = true) (hq : isPr q = true) (ho : isPr o = true) (h : pairB p o = pairB q o) : p = q := by
  obtain ⟨p0, p1⟩ := isPr_bd hp
  obtain ⟨q0, q1⟩ := isPr_bd hq
  rw [pairB_yes hp ho, pairB_yes hq ho, Int.add_assoc, Int.add_assoc] at h
  exact lin_inj 7018930 3313 (by decide) p0 p1 q0 q1 h
theorem pair_inj2 {p q o : Int} (hp : isPr p = true) (hq : isPr q = true) (ho : isPr o = true) (h : pairB o p = pairB o q) : p = q := by
  obtain ⟨p0, p1⟩ := isPr_bd hp
  obtain ⟨q0, q1⟩ := isPr_bd hq
  rw [pairB_yes ho hp, pairB_yes ho hq, Int.add_comm (7919 * o), Int.add_comm (7919 * o), Int.add_assoc, Int.add_assoc] at h
  exact lin_inj 243018 1517 (by decide) p0 p1 q0 q1 h
theorem aboveB_ne {p q : Int} {n m : Nat} {o : Int} (hp : isPr p = true) (hq : isPr q = true) (hne : p ≠ q) (h : isPr (aboveB p n m o) = true) : isPr (aboveB q n m o) = true ∧ aboveB p n m o ≠ aboveB q n m o := by
  obtain ⟨p0, p1⟩ := isPr_bd hp
  obtain ⟨q0, q1⟩ := isPr_bd hq
  unfold aboveB at h ⊢
  split at h
  · rename_i h1
    rw [if_pos h1, if_pos h1]
    split at h
    · rename_i h2
      rw [if_pos h2, if_pos h2]; exact ⟨hq, hne⟩
    · simp [isPr] at h
  · rename_i h1
    rw [if_neg h1, if_neg h1]
    cases ho : isPr o
    · split at h
      · rw [pairB_no2 _ ho] at h; simp [isPr] at h
      · rw [pairB_no1 _ ho] at h; simp [isPr] at h
    · obtain ⟨o0, o1⟩ := isPr_bd ho
      by_cases h2 : n % 2 = 0
      · rw [if_pos h2, if_pos h2]
        refine ⟨pairB_isPr hq ho, ?_⟩
        exact fun e => hne (pair_inj1 hp hq ho e)
      · rw [if_neg h2, if_neg h2]
        refine ⟨pairB_isPr ho hq, ?_⟩
        exact fun e => hne (pair_inj2 hp hq ho e)
theorem walkP_or : ∀ (os : List Int) (p : Int) (n m : Nat), isPr p = true → walkP p n m os = -1 ∨ isPr (walkP p n m os) = true
  | [], p, n, m, hp => by
    unfold walkP; split
    · exact .inl rfl
    · exact .inr hp
  | o :: os, p, n, m, hp => by
    unfold walkP; split
    · exact .inl rfl
    · rcases aboveB_or (n := n) (m := m) (o := o) hp with h | h
      · rw [h, walkP_bad]; exact .inl rfl
      · exact walkP_or os _ _ _ h
theorem walkP_ne : ∀ (os : List Int) (p q : Int) (n m : Nat), isPr p = true → isPr q = true → p ≠ q → 0 ≤ walkP p n m os → walkP q n m os ≠ walkP p n m os
  | [], p, q, n, m, hp, hq, hne, h => by
    unfold walkP at h ⊢
    split at h
    · omega
    · rename_i h1
      rw [if_neg h1, if_neg h1]; exact fun e => hne e.symm
  | o :: os, p, q, n, m, hp, hq, hne, h => by
    unfold walkP at h ⊢
    split at h
    · omega
    · rename_i h1
      rw [if_neg h1, if_neg h1]
      rcases aboveB_or (n := n) (m := m) (o := o) hp with h2 | h2
      · rw [h2, walkP_bad] at h; omega
      · obtain ⟨h3, h4⟩ := aboveB_ne hp hq hne h2
        exact walkP_ne os _ _ _ _ h2 h3 h4 h
theorem walkP_more : ∀ (os : List Int) (p : Int) (n m : Nat) (u : Int), 1 ≤ m → 0 ≤ walkP p n m os → walkP p n m (os ++ [u]) = -1
  | [], p, n, m, u, hm, h => by
    unfold walkP at h
    split at h
    · omega
    · rw [List.nil_append]; unfold walkP; rw [if_pos (by omega)]
  | o :: os, p, n, m, u, hm, h => by
    rw [List.cons_append]
    unfold walkP at h ⊢
    split at h
    · omega
    · rename_i h1
      rw [if_neg h1]
      exact walkP_more os _ _ _ u (by omega) h
/-! ### proofs prove -/
theorem mateN_two (n : Nat) : mateN (n + 2) = mateN n + 2 := by unfold mateN; split <;> split <;> omega
theorem aboveB_two (p : Int) (n m : Nat) (o : Int) : aboveB p (n + 2) (m + 2) o = aboveB p n m o := by
  unfold aboveB
  rw [mateN_two]
  by_cases h : mateN n = m
  · rw [if_pos h, if_pos (by omega)]
  · rw [if_neg h, if_neg (by omega), show (n + 2) % 2 = n % 2 by omega]
theorem partB_two (a b : Int) (l : List Int) (n : Nat) : partB (a :: b :: l) (n + 2) = partB l n := by
  unfold partB
  rw [mateN_two]
  simp only [List.length_cons]
  by_cases h : mateN n = l.length
  · rw [if_pos h, if_pos (by omega)]
  · rw [if_neg h, if_neg (by omega)]; rfl
theorem upB_set : ∀ (l : List Int) (k : Nat) (p : Int), k < l.length → upB (l.set k p) = (upB l).set (k / 2) (aboveB p k l.length (partB l k))
  | [], k, p, h => by simp at h
  | [a], k, p, h => by
    have : k = 0 := by simp at h; omega
    subst this; rfl
  | a :: b :: l, 0, p, h => by
    have h1 : ¬ mateN 0 = (a :: b :: l).length := by simp [mateN]
    unfold aboveB partB
    rw [if_neg h1, if_neg h1]
    simp [upB, mateN, nthI]
  | a :: b :: l, 1, p, h => by
    have h1 : ¬ mateN 1 = (a :: b :: l).length := by simp [mateN]
    unfold aboveB partB
    rw [if_neg h1, if_neg h1]
    simp [upB, mateN, nthI]
  | a :: b :: l, k + 2, p, h => by
    have h1 := upB_set l k p (by simp at h; omega)
    rw [partB_two, List.length_cons, List.length_cons, aboveB_two, show (k + 2) / 2 = k / 2 + 1 by omega]
    simp only [upB, List.set_cons_succ, h1]
theorem mate_ne (n : Nat) : mateN n ≠ n := by unfold mateN; split <;> omega
theorem partB_set (l : List Int) (k : Nat) (p : Int) : partB (l.set k p) k = partB l k := by
  unfold partB
  rw [List.length_set]
  split
  · rfl
  · unfold nthI
    rw [List.getD_eq_getElem?_getD, List.getD_eq_getElem?_getD, List.getElem?_set_ne (fun e => mate_ne k e.symm)]
theorem proofB_set (c : Nat) : ∀ (l : List Int) (k : Nat) (p : Int), l.length ≤ c → k < l.length → proofB (l.set k p) k = proofB l k := by
  induction c with
  | zero => intro l k p h h1; omega
  | succ c ih =>
    intro l k p h h1
    by_cases h2 : 1 < l.length
    · rw [proofB_up k h2, proofB_up k (by rw [List.length_set]; exact h2), partB_set, upB_set l k p h1, ih _ _ _ (by rw [upB_len]; omega) (by rw [upB_len]; omega)]
    · rw [proofB_end k h2, proofB_end k (by rw [List.length_set]; exact h2)]
theorem set_nth {l : List Int} {k : Nat} {p : Int} (h : k < l.length) : nthI (l.set k p) k = p := by
  unfold nthI; rw [List.getD_eq_getElem?_getD, List.getElem?_set_self h]; rfl
theorem nth_set {l : List Int} {k : Nat} (h : k < l.length) : l.set k (nthI l k) = l := by
  rw [nthI_get h, List.set_getElem_self]
/-- A proof leads to the top. -/
theorem walk_top (c : Nat) : ∀ (l : List Int) (n : Nat), l.length ≤ c → n < l.length → walkP (nthI l n) n l.length (proofB l n) = topB l := by
  induction c with
  | zero => intro l n h h1; omega
  | succ c ih =>
    intro l n h h1
    by_cases h2 : 1 < l.length
    · rw [proofB_up n h2, topB_up h2]
      unfold walkP
      rw [if_neg (by omega)]
      have h3 := upB_set l n (nthI l n) h1
      rw [nth_set h1] at h3
      have h4 := ih (upB l) (n / 2) (by rw [upB_len]; omega) (by rw [upB_len]; omega)
      rw [upB_len] at h4
      have h5 : nthI (upB l) (n / 2) = aboveB (nthI l n) n l.length (partB l n) := by
        rw [h3, set_nth (by rw [upB_len]; omega)]
      rw [← h4, h5]
    · rw [proofB_end n h2, topB_end h2]
      unfold walkP
      rw [if_neg h2, show n = 0 by omega]
/-- With another print it is another top. -/
theorem top_ne {l : List Int} {k : Nat} {p : Int} (ha : l.all isPr = true) (hk : k < l.length) (hp : isPr p = true) (hne : p ≠ nthI l k) : topB (l.set k p) ≠ topB l := by
  have h1 := walk_top _ l k (Nat.le_refl _) hk
  have h2 := walk_top _ (l.set k p) k (Nat.le_refl _) (by rw [List.length_set]; exact hk)
  rw [proofB_set _ l k p (Nat.le_refl _) hk, set_nth hk, List.length_set] at h2
  have h3 := isPr_bd (topB_isPr _ l (Nat.le_refl _) ha (by omega))
  rw [← h1, ← h2]
  exact walkP_ne _ _ _ _ _ (all_nth ha hk) hp (fun e => hne e.symm) (by rw [h1]; exact h3.1)
theorem next_isPr {a : Int} (h : isPr a = true) : isPr ((a + 1) % 16777213) = true ∧ (a + 1) % 16777213 ≠ a := by
  obtain ⟨h0, h1⟩ := isPr_bd h
  exact ⟨isPr_yes (by omega) (by omega), by omega⟩
theorem leaves_set {l : List Int} {k : Nat} {p : Int} (h : leavesB l = true) (hp : isPr p = true) : leavesB (l.set k p) = true := by
  obtain ⟨h1, h2, h3⟩ := leavesB_at h
  have : (l.set k p).all isPr = true := by
    rw [List.all_eq_true] at h1 ⊢
    intro a ha
    rcases List.mem_or_eq_of_mem_set ha with h | h
    · exact h1 a h
    · rw [h]; exact hp
  unfold leavesB
  rw [this, List.length_set]
  simp [h2, h3]
theorem root_ne {l : List Int} {k : Nat} (h : leavesB l = true) (hk : k < l.length) : rootB (l.set k ((nthI l k + 1) % 16777213)) ≠ rootB l := by
  obtain ⟨h1, h2, h3⟩ := leavesB_at h
  obtain ⟨n1, n2⟩ := next_isPr (all_nth h1 hk)
  rw [rootB_yes h, rootB_yes (leaves_set h n1)]
  exact top_ne h1 hk n1 n2
theorem root_one {a : Int} (h : isPr a = true) : rootB [a] = a := by
  have : leavesB [a] = true := by unfold leavesB; simp [h]
  rw [rootB_yes this, topB_end (by simp)]; rfl
theorem rootP_no {p n m : Int} {l : List Int} (h : isPr p = false ∨ ¬ (1 ≤ m ∧ m ≤ 16 ∧ 0 ≤ n ∧ n < m)) : rootP p n m l = -1 := by
  unfold rootP
  rw [if_neg]
  rcases h with h | h
  · simp [h]
  · simp only [Bool.and_eq_true, decide_eq_true_eq]; exact fun e => h e.2
theorem rootP_yes {p : Int} {n m : Nat} {l : List Int} (hp : isPr p = true) (h1 : m ≤ 16) (h2 : n < m) : rootP p n m l = walkP p n m l := by
  unfold rootP
  rw [if_pos (by simp only [Bool.and_eq_true, decide_eq_true_eq]; exact ⟨hp, by omega, by omega, by omega, by omega⟩)]; rfl
theorem rootP_some {p n m : Int} {l : List Int} (h : 0 ≤ rootP p n m l) : isPr p = true ∧ 1 ≤ m ∧ m ≤ 16 ∧ 0 ≤ n ∧ n < m := by
  unfold rootP at h
  split at h
  · rename_i h1; simpa using h1
  · omega
theorem rootP_bd (p n m : Int) (l : List Int) : -1 ≤ rootP p n m l ∧ rootP p n m l ≤ 16777212 := by
  unfold rootP
  split
  · rename_i h1
    simp only [Bool.and_eq_true] at h1
    rcases walkP_or l p n.toNat m.toNat h1.1 with h | h
    · rw [h]; omega
    · have := isPr_bd h; omega
  · omega
theorem rootP_ne {p n m : Int} {l : List Int} (h : 0 ≤ rootP p n m l) : rootP ((p + 1) % 16777213) n m l ≠ rootP p n m l := by
  obtain ⟨hp, h1, h2, h3, h4⟩ := rootP_some h
  obtain ⟨n1, n2⟩ := next_isPr hp
  obtain ⟨m, rfl⟩ := Int.eq_ofNat_of_zero_le (show 0 ≤ m by omega)
  obtain ⟨n, rfl⟩ := Int.eq_ofNat_of_zero_le h3
  rw [rootP_yes hp (by omega) (by omega)] at h ⊢
  rw [rootP_yes n1 (by omega) (by omega)]
  exact walkP_ne _ _ _ _ _ hp n1 (fun e => n2 e.symm) h
theorem rootP_more {p n m : Int} {l : List Int} (u : Int) (h : 0 ≤ rootP p n m l) : rootP p n m (l ++ [u]) = -1 := by
  obtain ⟨hp, h1, h2, h3, h4⟩ := rootP_some h
  obtain ⟨m, rfl⟩ := Int.eq_ofNat_of_zero_le (show 0 ≤ m by omega)
  obtain ⟨n, rfl⟩ := Int.eq_ofNat_of_zero_le h3
  rw [rootP_yes hp (by omega) (by omega)] at h ⊢
  exact walkP_more _ _ _ _ _ (by omega) h
/-- The law of proofs. -/
theorem prov_top {l : List Int} {n : Nat} (h : leavesB l = true) (hn : n < l.length) :
    rootP (nthI l n) n l.length (provB l n) = rootB l ∧ rootP ((nthI l n + 1) % 16777213) n l.length (provB l n) ≠ rootB l := by
  obtain ⟨h1, h2, h3⟩ := leavesB_at h
  have e : provB l n = proofB l n := by
    unfold provB; rw [if_pos (by simp only [Bool.and_eq_true, decide_eq_true_eq]; exact ⟨h, by omega, by omega⟩)]; rfl
  have h4 : rootP (nthI l n) n l.length (provB l n) = rootB l := by
    rw [e, rootP_yes (all_nth h1 hn) h3 hn, rootB_yes h]; exact walk_top _ l n (Nat.le_refl _) hn
  have h5 := (isPr_bd (rootB_isPr h)).1
  refine ⟨h4, ?_⟩
  have h6 := rootP_ne (p := nthI l n) (n := n) (m := l.length) (l := provB l n) (by rw [h4]; exact h5)
  rwa [h4] at h6
theorem provB_no {l : List Int} {n : Int} (h : leavesB l = false ∨ n < 0 ∨ (l.length : Int) ≤ n) : provB l n = [] := by
  unfold provB
  rw [if_neg]
  simp only [Bool.and_eq_true, decide_eq_true_eq, not_and]
  rcases h with h | h | h
  · simp [h]
  · intro _; omega
  · intro _; omega
theorem provB_yes {l : List Int} {n : Nat} (h : leavesB l = true) (hn : n < l.length) : provB l n = proofB l n := by
  unfold provB; rw [if_pos (by simp only [Bool.and_eq_true, decide_eq_true_eq]; exact ⟨h, by omega, by omega⟩)]; rfl
end Go.Proofs.Ytlbebbkkpjgboaa
