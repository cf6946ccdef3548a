/-
  Chapter 4, plain: what joined stores hold.
-/
import Derived.Test.YtpjndkiclfoanaaPlain4c
import Derived.Test.YtpjndkiclfoanaaStores3
namespace Go.Proofs.Ytpjndkiclfoanaa
open Go.RowKit
set_option linter.unusedVariables false
theorem put_only {l : List Pc} {t : ByteArray} {q : Pc} (hq : q ∈ (putB l t).1) : q ∈ l ∨ q = (printB t, t) := by
  cases hs : storeB l
  · rw [putB_bad hs] at hq; cases hq
  by_cases h1 : printB t < 0
  · rw [putB_text hs h1] at hq; exact .inl hq
  cases hh : hereP (printB t) l
  · by_cases h4 : l.length = 40
    · rw [putB_full hs h1 hh h4] at hq; exact .inl hq
    · rw [putB_new hs h1 rfl hh h4] at hq
      rcases List.mem_append.1 hq with h5 | h5
      · exact .inl (List.mem_of_mem_take h5)
      · rcases List.mem_cons.1 h5 with h6 | h6
        · exact .inr h6
        · exact .inl (List.mem_of_mem_drop h6)
  · by_cases h3 : (nthP l (atP (printB t) l)).2 = t
    · rw [putB_there hs h1 rfl hh h3] at hq; exact .inl hq
    · rw [putB_other hs h1 rfl hh h3] at hq; exact .inl hq
theorem put_grows {l : List Pc} {t : ByteArray} (h : (putB l t).2.2 = true) : l.length ≤ (putB l t).1.length := by
  obtain ⟨hs, htx, _⟩ := put_yes h
  have h1 : ¬ printB t < 0 := by have := printB_ge htx; omega
  cases hh : hereP (printB t) l
  · by_cases h4 : l.length = 40
    · rw [putB_full hs h1 hh h4] at h; cases h
    · rw [putB_new hs h1 rfl hh h4]; simp; omega
  · by_cases h3 : (nthP l (atP (printB t) l)).2 = t
    · rw [putB_there hs h1 rfl hh h3]; exact Nat.le_refl _
    · rw [putB_other hs h1 rfl hh h3] at h; cases h
/-- What a joined store holds. -/
theorem join_holds : ∀ {b a x : List Pc}, storeB a = true → (∀ q ∈ b, okPc q = true) → joinGo a b = some x →
    storeB x = true ∧ (∀ q, q ∈ x ↔ q ∈ a ∨ q ∈ b) ∧ a.length ≤ x.length ∧ x.length ≤ a.length + b.length
  | [], a, x, ha, hb, h => by
    have e : joinGo a [] = some a := rfl
    rw [e] at h
    cases h
    exact ⟨ha, fun q => by simp, Nat.le_refl _, by simp⟩
  | p :: r, a, x, ha, hb, h => by
    cases ho : (putB a p.2).2.2
    · rw [joinGo, if_neg (by rw [ho]; simp)] at h; cases h
    · rw [joinGo, if_pos ho] at h
      obtain ⟨_, _, _, h4, h5, h6, h7, _⟩ := put_yes ho
      obtain ⟨i1, i2, i3, i4⟩ := join_holds h4 (fun q hq => hb q (List.mem_cons_of_mem _ hq)) h
      have hp := (okPc_iff.1 (hb p (List.mem_cons_self ..))).2
      have e : (printB p.2, p.2) = p := Prod.ext hp rfl
      rw [e] at h5
      refine ⟨i1, fun q => ?_, Nat.le_trans (put_grows ho) i3, by simp; omega⟩
      rw [i2 q, List.mem_cons]
      constructor
      · rintro (h | h)
        · rcases put_only h with h | h
          · exact .inl h
          · rw [e] at h; exact .inr (.inl h)
        · exact .inr (.inr h)
      · rintro (h | h | h)
        · exact .inl (h6 q h)
        · subst h; exact .inl h5
        · exact .inr h
/-- Two stores that hold the same are the same. -/
theorem sorted_eq : ∀ {a b : List Pc}, a.Pairwise (fun u v => u.1 < v.1) → b.Pairwise (fun u v => u.1 < v.1) → (∀ q, q ∈ a ↔ q ∈ b) → a = b
  | [], [], _, _, _ => rfl
  | [], q :: s, _, _, h => absurd ((h q).2 (List.mem_cons_self ..)) (by simp)
  | p :: r, [], _, _, h => absurd ((h p).1 (List.mem_cons_self ..)) (by simp)
  | p :: r, q :: s, ha, hb, h => by
    rw [List.pairwise_cons] at ha hb
    have e : p = q := by
      rcases List.mem_cons.1 ((h p).1 (List.mem_cons_self ..)) with h1 | h1
      · exact h1
      · rcases List.mem_cons.1 ((h q).2 (List.mem_cons_self ..)) with h2 | h2
        · exact h2.symm
        · have := ha.1 q h2; have := hb.1 p h1; omega
    subst e
    congr 1
    refine sorted_eq ha.2 hb.2 fun u => ⟨fun hu => ?_, fun hu => ?_⟩
    · rcases List.mem_cons.1 ((h u).1 (List.mem_cons_of_mem _ hu)) with h1 | h1
      · subst h1; have := ha.1 u hu; omega
      · exact h1
    · rcases List.mem_cons.1 ((h u).2 (List.mem_cons_of_mem _ hu)) with h1 | h1
      · subst h1; have := hb.1 u hu; omega
      · exact h1
theorem store_eq {a b : List Pc} (ha : storeB a = true) (hb : storeB b = true) (h : ∀ q, q ∈ a ↔ q ∈ b) : a = b := sorted_eq (storeB_iff.1 ha).2.2 (storeB_iff.1 hb).2.2 h
theorem sorted_len : ∀ {a b : List Pc}, a.Pairwise (fun u v => u.1 < v.1) → b.Pairwise (fun u v => u.1 < v.1) → (∀ q ∈ a, q ∈ b) → a.length ≤ b.length
  | [], b, _, _, _ => Nat.zero_le _
  | p :: r, b, ha, hb, h => by
    rw [List.pairwise_cons] at ha
    obtain ⟨b1, b2, rfl⟩ := List.append_of_mem (h p (List.mem_cons_self ..))
    rw [List.pairwise_append] at hb
    obtain ⟨_, h2, h3⟩ := hb
    rw [List.pairwise_cons] at h2
    have := sorted_len ha.2 h2.2 fun q hq => by
      have h4 := ha.1 q hq
      rcases List.mem_append.1 (h q (List.mem_cons_of_mem _ hq)) with h5 | h5
      · have := h3 q h5 p (List.mem_cons_self ..); omega
      · rcases List.mem_cons.1 h5 with h6 | h6
        · subst h6; omega
        · exact h6
    simp; omega
theorem sorted_one {x : List Pc} (hx : x.Pairwise fun u v => u.1 < v.1) {p q : Pc} (hp : p ∈ x) (hq : q ∈ x) (h : p.1 = q.1) : p = q := by
  obtain ⟨i, hi, rfl⟩ := List.mem_iff_getElem.1 hp
  obtain ⟨j, hj, rfl⟩ := List.mem_iff_getElem.1 hq
  rcases Nat.lt_trichotomy i j with h1 | h1 | h1
  · have := List.pairwise_iff_getElem.1 hx i j hi hj h1; omega
  · subst h1; rfl
  · have := List.pairwise_iff_getElem.1 hx j i hj hi h1; omega
/-- A piece of a store that holds 'a' can be put to 'a'. -/
theorem put_fits {a x : List Pc} {p : Pc} (ha : storeB a = true) (hp : okPc p = true) (hx : storeB x = true) (h : ∀ q ∈ a, q ∈ x) (hpx : p ∈ x) : (putB a p.2).2.2 = true := by
  obtain ⟨h1, h2⟩ := okPc_iff.1 hp
  obtain ⟨hx1, _, hx3⟩ := storeB_iff.1 hx
  have h3 := (storeB_iff.1 ha).2.2
  have h0 : ¬ printB p.2 < 0 := by have := printB_ge h1; omega
  cases hh : hereP (printB p.2) a
  · by_cases h4 : a.length = 40
    · have hs : (a.take (atP p.1 a) ++ p :: a.drop (atP p.1 a)).Pairwise (fun u v => u.1 < v.1) := by
        rw [h2] at hh
        refine List.pairwise_append.2 ⟨h3.sublist (List.take_sublist _ _), List.pairwise_cons.2 ⟨fun q hq => drop_gt h3 hh hq, h3.sublist (List.drop_sublist _ _)⟩, fun u hu v hv => ?_⟩
        have h4 := take_lt hu
        rcases List.mem_cons.1 hv with rfl | hv
        · exact h4
        · have := drop_gt h3 hh hv; omega
      have hat := atP_le p.1 a
      have := sorted_len hs hx3 fun q hq => by
        rcases List.mem_append.1 hq with h5 | h5
        · exact h q (List.mem_of_mem_take h5)
        · rcases List.mem_cons.1 h5 with h6 | h6
          · subst h6; exact hpx
          · exact h q (List.mem_of_mem_drop h6)
      simp at this
      omega
    · rw [putB_new ha h0 rfl hh h4]
  · obtain ⟨hl, he⟩ := hereP_iff.1 hh
    have e := sorted_one hx3 (h _ (nthP_mem hl)) hpx (by rw [he, h2])
    rw [putB_there ha h0 rfl hh (by rw [e])]
/-- A store that holds both is the joined one. -/
theorem join_of : ∀ {b a x : List Pc}, storeB a = true → (∀ q ∈ b, okPc q = true) → storeB x = true → (∀ q, q ∈ x ↔ q ∈ a ∨ q ∈ b) → joinGo a b = some x
  | [], a, x, ha, hb, hx, h => by
    have e : joinGo a [] = some a := rfl
    rw [e, store_eq ha hx fun q => by rw [h q]; simp]
  | p :: r, a, x, ha, hb, hx, h => by
    have hpx : p ∈ x := (h p).2 (.inr (List.mem_cons_self ..))
    have hok := hb p (List.mem_cons_self ..)
    have ho := put_fits ha hok hx (fun q hq => (h q).2 (.inl hq)) hpx
    obtain ⟨_, _, _, h4, h5, h6, _, _⟩ := put_yes ho
    have hp := (okPc_iff.1 hok).2
    have e : (printB p.2, p.2) = p := Prod.ext hp rfl
    rw [e] at h5
    rw [joinGo, if_pos ho]
    refine join_of h4 (fun q hq => hb q (List.mem_cons_of_mem _ hq)) hx fun q => ?_
    rw [h q, List.mem_cons]
    constructor
    · rintro (h | h | h)
      · exact .inl (h6 q h)
      · subst h; exact .inl h5
      · exact .inr h
    · rintro (h | h)
      · rcases put_only h with h | h
        · exact .inl h
        · rw [e] at h; exact .inr (.inl h)
      · exact .inr (.inr h)
/-- The order of stores does not matter. -/
theorem join_comm {a b x : List Pc} (ha : storeB a = true) (hb : storeB b = true) (h : joinGo a b = some x) : joinGo b a = some x := by
  obtain ⟨h1, h2, _⟩ := join_holds ha (storeB_iff.1 hb).2.1 h
  exact join_of hb (storeB_iff.1 ha).2.1 h1 fun q => by rw [h2 q]; exact or_comm
theorem joinS_comm (a b : List Pc) : joinSL b a = joinSL a b ∧ joinSO b a = joinSO a b := by
  unfold joinSL joinSO
  cases ha : storeB a <;> cases hb : storeB b <;> simp
  cases h : joinGo a b with
  | some x => rw [join_comm ha hb h]; exact ⟨rfl, rfl⟩
  | none =>
    cases h' : joinGo b a with
    | some y => rw [join_comm hb ha h'] at h; cases h
    | none => exact ⟨rfl, rfl⟩
theorem joinS_holds {a b : List Pc} (h : joinSO a b = true) : storeB (joinSL a b) = true ∧ (∀ q, q ∈ joinSL a b ↔ q ∈ a ∨ q ∈ b) ∧ a.length ≤ (joinSL a b).length ∧ (joinSL a b).length ≤ a.length + b.length := by
  unfold joinSO at h
  simp only [Bool.and_eq_true] at h
  obtain ⟨⟨ha, hb⟩, hj⟩ := h
  obtain ⟨x, hx⟩ := Option.isSome_iff_exists.1 hj
  have e := (joinS_some (by rw [ha, hb]; rfl) hx).1
  rw [e]
  exact join_holds ha (storeB_iff.1 hb).2.1 hx
theorem joinS_empty {a b : List Pc} (h : joinSO a b = false) : joinSL a b = [] := by
  unfold joinSO at h
  unfold joinSL
  split
  · rename_i hs
    rw [hs, Bool.true_and] at h
    cases hj : joinGo a b with
    | some x => rw [hj] at h; cases h
    | none => rfl
  · rfl
end Go.Proofs.Ytpjndkiclfoanaa
