/-
  Chapter 15, plain: names of versions.
-/
import Derived.Test.YtiniadlpgomgjaaMath10b
import Derived.Test.YtiniadlpgomgjaaLaw6
namespace Go.Proofs.Ytiniadlpgomgjaa
open Go.RowKit
set_option linter.unusedVariables false
def okBr (many : Int) (l : List Ent) (k : Nat) : Bool := wordB (nthE l k).1 && in3 (nthE l k).2 0 (many - 1) && (decide (k = 0) || !leB (nthE l k).1 (nthE l (k - 1)).1)
def brsB (l : List Ent) (many : Int) : Bool := in3 many 0 12 && (decide (l.length ≤ 6) && (List.range l.length).all (okBr many l))
theorem okBr_no1 {many : Int} {l : List Ent} {k : Nat} (h : wordB (nthE l k).1 = false) : okBr many l k = false := by unfold okBr; rw [h]; rfl
theorem okBr_no2 {many : Int} {l : List Ent} {k : Nat} (h : in3 (nthE l k).2 0 (many - 1) = false) : okBr many l k = false := by unfold okBr; rw [h]; simp
theorem okBr_no3 {many : Int} {l : List Ent} {k : Nat} (h0 : k ≠ 0) (h : leB (nthE l k).1 (nthE l (k - 1)).1 = true) : okBr many l k = false := by unfold okBr; rw [h]; simp [h0]
theorem okBr_yes {many : Int} {l : List Ent} {k : Nat} (h1 : wordB (nthE l k).1 = true) (h2 : in3 (nthE l k).2 0 (many - 1) = true) (h3 : k = 0 ∨ leB (nthE l k).1 (nthE l (k - 1)).1 = false) : okBr many l k = true := by
  unfold okBr; rw [h1, h2]; rcases h3 with h | h
  · simp [h]
  · rw [h]; simp
theorem brsB_many {l : List Ent} {many : Int} (h : in3 many 0 12 = false) : brsB l many = false := by unfold brsB; rw [h]; rfl
theorem brsB_bad {l : List Ent} {many : Int} {k : Nat} (hk : k < l.length) (h : okBr many l k = false) : brsB l many = false := by
  unfold brsB
  have : (List.range l.length).all (okBr many l) = false := List.all_eq_false.2 ⟨k, List.mem_range.2 hk, by rw [h]; simp⟩
  rw [this, Bool.and_false, Bool.and_false]
theorem brsB_end {l : List Ent} {many : Int} (hm : in3 many 0 12 = true) (h : ∀ j, j < l.length → okBr many l j = true) : brsB l many = decide (l.length ≤ 6) := by
  unfold brsB
  have : (List.range l.length).all (okBr many l) = true := List.all_eq_true.2 fun j hj => h j (List.mem_range.1 hj)
  rw [this, hm, Bool.and_true, Bool.true_and]
theorem brsB_at {l : List Ent} {many : Int} (h : brsB l many = true) : in3 many 0 12 = true ∧ l.length ≤ 6 ∧ ∀ j, j < l.length → okBr many l j = true := by
  unfold brsB at h
  simp only [Bool.and_eq_true, decide_eq_true_eq, List.all_eq_true, List.mem_range] at h
  exact h
theorem okBr_at {many : Int} {l : List Ent} {k : Nat} (h : okBr many l k = true) : wordB (nthE l k).1 = true ∧ in3 (nthE l k).2 0 (many - 1) = true ∧ (k = 0 ∨ leB (nthE l k).1 (nthE l (k - 1)).1 = false) := by
  unfold okBr at h
  simp only [Bool.and_eq_true, Bool.or_eq_true, decide_eq_true_eq, Bool.not_eq_true'] at h
  exact ⟨h.1.1, h.1.2, h.2⟩
theorem brs_ok {l : List Ent} {many : Int} (h : brsB l many = true) : ∀ q ∈ l, wordB q.1 = true ∧ in3 q.2 0 (many - 1) = true := by
  intro q hq
  obtain ⟨k, hk, rfl⟩ := List.mem_iff_getElem.1 hq
  have := okBr_at ((brsB_at h).2.2 k hk)
  rw [nthE_get hk] at this
  exact ⟨this.1, this.2.1⟩
theorem brs_asc {l : List Ent} {many : Int} (h : brsB l many = true) : AscN l := by
  have h2 := (brsB_at h).2.2
  refine asc_pair.1 ?_
  intro i j hij
  induction j with
  | zero => omega
  | succ j ih =>
    intro hj
    have h3 := (okBr_at (h2 (j + 1) hj)).2.2
    rcases h3 with h3 | h3
    · omega
    have h4 := leB_no h3
    rw [Nat.add_sub_cancel] at h4
    rcases Nat.lt_or_eq_of_le (Nat.le_of_lt_succ hij) with h5 | rfl
    · exact ltN_trans (ih h5 (by omega)) h4
    · exact h4
theorem brs_of {l : List Ent} {many : Int} (hm : in3 many 0 12 = true) (h6 : l.length ≤ 6) (h1 : ∀ q ∈ l, wordB q.1 = true ∧ in3 q.2 0 (many - 1) = true) (h2 : AscN l) : brsB l many = true := by
  rw [brsB_end hm (fun j hj => ?_)]
  · exact decide_eq_true h6
  · have hq := h1 _ (List.getElem_mem hj)
    rw [← nthE_get hj] at hq
    refine okBr_yes hq.1 hq.2 ?_
    rcases Nat.eq_zero_or_pos j with h0 | h0
    · exact .inl h0
    · exact .inr (leB_of (ascE_of h2 (j - 1) j (by omega) hj))
theorem brs_sub {a l : List Ent} {many : Int} (hs : a.Sublist l) (h : brsB l many = true) : brsB a many = true :=
  brs_of (brsB_at h).1 (Nat.le_trans hs.length_le (brsB_at h).2.1) (fun q hq => brs_ok h q (hs.subset hq)) ((brs_asc h).sublist hs)
/-- With the first branch twice branches are not valid. -/
theorem brs_twice {q : Ent} {l : List Ent} {many : Int} : brsB (q :: q :: l) many = false := by
  cases h : brsB (q :: q :: l) many with
  | false => rfl
  | true =>
    have h1 := (List.pairwise_cons.1 (brs_asc h)).1 q (List.mem_cons_self ..)
    rw [ltN_irrefl] at h1; cases h1
/-- No branch is valid of no versions. -/
theorem brs_zero {l : List Ent} (h : l ≠ []) : brsB l 0 = false := by
  cases hb : brsB l 0 with
  | false => rfl
  | true =>
    obtain ⟨q, r, rfl⟩ := List.exists_cons_of_ne_nil h
    have h1 := (brs_ok hb q (List.mem_cons_self ..)).2
    unfold in3 at h1
    rw [decide_eq_true_eq] at h1
    omega
def putBr (l : List Ent) (many : Int) (e : Ent) : List Ent × Bool := if brsB l many = false then ([], false) else if brsB (putInE l e) many = true then (putInE l e, true) else (l, false)
theorem putBr_bad {l : List Ent} {many : Int} {e : Ent} (h : brsB l many = false) : putBr l many e = ([], false) := by unfold putBr; rw [if_pos h]
theorem putBr_yes {l : List Ent} {many : Int} {e : Ent} (h : brsB l many = true) (h' : brsB (putInE l e) many = true) : putBr l many e = (putInE l e, true) := by unfold putBr; rw [if_neg (by rw [h]; simp), if_pos h']
theorem putBr_no {l : List Ent} {many : Int} {e : Ent} (h : brsB l many = true) (h' : brsB (putInE l e) many = false) : putBr l many e = (l, false) := by unfold putBr; rw [if_neg (by rw [h]; simp), if_neg (by rw [h']; simp)]
def dropBr (l : List Ent) (many : Int) (nm : ByteArray) : List Ent × Bool := if brsB l many = true then (lessE l nm, decide ((lessE l nm).length < l.length)) else ([], false)
theorem dropBr_bad {l : List Ent} {many : Int} {nm : ByteArray} (h : brsB l many = false) : dropBr l many nm = ([], false) := by unfold dropBr; rw [if_neg (by rw [h]; simp)]
theorem dropBr_ok {l : List Ent} {many : Int} {nm : ByteArray} (h : brsB l many = true) : dropBr l many nm = (lessE l nm, decide ((lessE l nm).length < l.length)) := by unfold dropBr; rw [if_pos h]
def atBr (l : List Ent) (many : Int) (nm : ByteArray) : Int := if brsB l many = true then (findE l nm).getD (-1) else -1
theorem atBr_bad {l : List Ent} {many : Int} {nm : ByteArray} (h : brsB l many = false) : atBr l many nm = -1 := by unfold atBr; rw [if_neg (by rw [h]; simp)]
theorem atBr_none {l : List Ent} {many : Int} {nm : ByteArray} (h : findE l nm = none) : atBr l many nm = -1 := by unfold atBr; rw [h]; split <;> rfl
theorem atBr_some {l : List Ent} {many c : Int} {nm : ByteArray} (hv : brsB l many = true) (h : findE l nm = some c) : atBr l many nm = c := by unfold atBr; rw [if_pos hv, h]; rfl
theorem putBr_len (l : List Ent) (many : Int) (e : Ent) : (putBr l many e).1.length ≤ 6 := by
  cases h : brsB l many
  · rw [putBr_bad h]; simp
  · cases h' : brsB (putInE l e) many
    · rw [putBr_no h h']; exact (brsB_at h).2.1
    · rw [putBr_yes h h']; exact (brsB_at h').2.1
theorem dropBr_len (l : List Ent) (many : Int) (nm : ByteArray) : (dropBr l many nm).1.length ≤ 6 := by
  cases h : brsB l many
  · rw [dropBr_bad h]; simp
  · rw [dropBr_ok h]; exact Nat.le_trans (lessE_len l nm) (brsB_at h).2.1
theorem dropBr_valid {l : List Ent} {many : Int} (nm : ByteArray) (h : brsB l many = true) : brsB (lessE l nm) many = true := brs_sub (less_sub l nm) h
/-- A set branch: it is found, and without it all is as before without it. -/
theorem setBr_facts {l : List Ent} {many : Int} {e : Ent} (h : brsB l many = true) (h' : brsB (putInE l e) many = true) :
    atBr (putInE l e) many e.1 = e.2 ∧ dropBr (putInE l e) many e.1 = (lessE l e.1, true) ∧ (dropBr l many e.1).1 = lessE l e.1 := by
  refine ⟨atBr_some h' (findE_in (brs_asc h') (put_mem6 l e)), ?_, by rw [dropBr_ok h]⟩
  rw [dropBr_ok h', put_less, decide_eq_true]
  rw [← put_less]; exact less_lt (put_mem6 l e)
theorem less_gone (l : List Ent) (many : Int) (nm : ByteArray) : atBr (lessE l nm) many nm = -1 := atBr_none (findE_not fun q hq => (mem_less.1 hq).2)
/-- Names come once: what is dropped is one. -/
theorem less_one {l : List Ent} {nm : ByteArray} (h : AscN l) (hd : (lessE l nm).length < l.length) : (lessE l nm).length + 1 = l.length := by
  cases hh : hereE nm l
  · rw [lessE_none (ascE_of h) hh] at hd; omega
  · unfold hereE at hh
    rw [Bool.and_eq_true, decide_eq_true_eq, decide_eq_true_eq] at hh
    rw [lessE_found (ascE_of h) hh.1 hh.2, List.length_append, List.length_take, List.length_drop]
    have := hh.1; omega
end Go.Proofs.Ytiniadlpgomgjaa
