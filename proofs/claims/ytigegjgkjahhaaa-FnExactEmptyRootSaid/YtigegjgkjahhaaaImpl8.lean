/-
  Contracts of chapter 8's program: paths of words, their parts, a path below another one.
-/
import Derived.Test.YtigegjgkjahhaaaFold4
import Derived.Test.YtigegjgkjahhaaaPaths8
import Derived.Test.YtigegjgkjahhaaaImpl7
import Derived.Test.YtigegjgkjahhaaaShelf
import Derived.Shelf.Strings.SplitCore
import Derived.Lib.SplitLaws
import Derived.Lib.Join
namespace Go.Proofs.Ytigegjgkjahhaaa
open Go.RowKit
set_option linter.unusedVariables false
/-! ### a text divided at its signs -/
def ofBytes (y : List UInt8) : ByteArray := ⟨y.toArray⟩
theorem ofBytes_data (s : ByteArray) : ofBytes s.data.toList = s := by cases s; simp [ofBytes]
theorem cut_nil : Go.Lib.split [] [47] = [[]] := by
  unfold Go.Lib.split; rw [Go.Lib.count_one]; rfl
theorem index_sep (t : List UInt8) : Go.Lib.index (47 :: t) [47] = 0 := by rw [Go.Lib.index_one, Go.Lib.indexByte]; rfl
theorem index_other {c : UInt8} (h : c ≠ 47) (t : List UInt8) : Go.Lib.index (c :: t) [47] = if Go.Lib.index t [47] == -1 then -1 else Go.Lib.index t [47] + 1 := by
  rw [Go.Lib.index_one, Go.Lib.index_one, Go.Lib.indexByte, if_neg (by simpa using h)]
theorem cut_sep (t : List UInt8) : Go.Lib.split (47 :: t) [47] = [] :: Go.Lib.split t [47] := by
  unfold Go.Lib.split
  rw [Go.Lib.count_cons_eq, Nat.add_comm, Go.Lib.splitK, if_neg (by rw [index_sep]; decide), index_sep]
  rfl
theorem cut_other {c : UInt8} (h : c ≠ 47) (t : List UInt8) : ∃ x xs, Go.Lib.split t [47] = x :: xs ∧ Go.Lib.split (c :: t) [47] = (c :: x) :: xs := by
  unfold Go.Lib.split
  rw [Go.Lib.count_cons_ne c 47 t h]
  cases hk : Go.Lib.count t [47] with
  | zero => exact ⟨t, [], rfl, rfl⟩
  | succ k =>
    by_cases hm : Go.Lib.index t [47] = -1
    · rw [Go.Lib.count_miss hm] at hk; omega
    have hge : -1 ≤ Go.Lib.index t [47] := by rw [Go.Lib.index_one]; exact Go.Lib.indexByte_ge _ _
    obtain ⟨j, hj⟩ : ∃ j : Nat, Go.Lib.index t [47] = j := ⟨(Go.Lib.index t [47]).toNat, by omega⟩
    have h1 : Go.Lib.index (c :: t) [47] = ((j + 1 : Nat) : Int) := by rw [index_other h, if_neg (by simpa using hm), hj]; omega
    refine ⟨_, _, by rw [Go.Lib.splitK, if_neg (by simpa using hm)], ?_⟩
    rw [Go.Lib.splitK, if_neg (by rw [h1]; simp; omega), h1, hj]
    simp
theorem splitGo_cut : ∀ (r : List UInt8) (out : List ByteArray) (p : ByteArray), ∃ x xs, Go.Lib.split r [47] = x :: xs ∧ splitGo (out ++ [p]) r = out ++ ⟨p.data ++ x.toArray⟩ :: xs.map ofBytes
  | [], out, p => ⟨[], [], cut_nil, by rw [splitGo]; simp⟩
  | c :: r, out, p => by
    by_cases h : c = 47
    · subst h
      obtain ⟨x, xs, h1, h2⟩ := splitGo_cut r (out ++ [p]) ByteArray.empty
      refine ⟨[], x :: xs, by rw [cut_sep, h1], ?_⟩
      rw [splitGo, if_pos rfl, h2]
      simp [ofBytes]
    · have e : (out ++ [p]).set ((out ++ [p]).length - 1) (p ++ ⟨#[c]⟩) = out ++ [p ++ ⟨#[c]⟩] := by
        rw [List.length_append, List.length_singleton, Nat.add_sub_cancel, List.set_append_right _ _ (Nat.le_refl _)]
        simp
      obtain ⟨x, xs, h1, h2⟩ := splitGo_cut r out (p ++ ⟨#[c]⟩)
      obtain ⟨x', xs', h3, h4⟩ := cut_other h r
      rw [h1] at h3
      obtain ⟨rfl, rfl⟩ := List.cons.inj h3
      refine ⟨c :: x, xs, h4, ?_⟩
      rw [splitGo, if_neg h, if_neg (by simp), nthS_last, e, h2]
      congr 2
      have : (p ++ (ByteArray.mk #[c])).data = p.data ++ #[c] := by simp
      rw [this, Array.append_assoc]
      simp
/-- What the library divides at the signs is what the document divides. -/
theorem split_is {s R : ByteArray} (h : s.data.toList = 47 :: R.data.toList) : splitB s = Go.Lib.splitB ⟨#[47]⟩ 0 (Go.Lib.countB R ⟨#[47]⟩) R := by
  obtain ⟨x, xs, h1, h2⟩ := splitGo_cut R.data.toList [] ByteArray.empty
  have h3 := Go.Lib.splitB_data ⟨#[47]⟩ 0 (Go.Lib.countB R ⟨#[47]⟩) R
  have h4 : Go.Lib.splitK (ByteArray.mk #[47]).data.toList 0 (Go.Lib.countB R ⟨#[47]⟩) R.data.toList = x :: xs := h1
  rw [h4] at h3
  have h5 : (Go.Lib.splitB ⟨#[47]⟩ 0 (Go.Lib.countB R ⟨#[47]⟩) R).map (fun q => ofBytes q.data.toList) = (x :: xs).map ofBytes := by rw [← h3, List.map_map]; rfl
  rw [show (fun q : ByteArray => ofBytes q.data.toList) = id from funext ofBytes_data, List.map_id] at h5
  rw [h5]
  unfold splitB
  rw [h, splitGo, if_pos rfl, h2]
  simp [ofBytes]
theorem slashed_add (a b : List ByteArray) : (slashed (a ++ b)).data.toList = (slashed a).data.toList ++ (slashed b).data.toList := by
  induction a with
  | nil => rfl
  | cons s a ih => rw [List.cons_append, slashed_cons, slashed_cons, ih]; simp
theorem slashed_one (p : ByteArray) : (slashed [p]).data.toList = 47 :: p.data.toList := by rw [slashed_cons]; simp [slashed, joinB]
theorem slashed_split : ∀ (r : List UInt8) (out : List ByteArray) (p : ByteArray), (slashed (splitGo (out ++ [p]) r)).data.toList = (slashed (out ++ [p])).data.toList ++ r
  | [], out, p => by rw [splitGo, List.append_nil]
  | c :: r, out, p => by
    by_cases h : c = 47
    · subst h
      rw [splitGo, if_pos rfl, slashed_split r (out ++ [p]) ByteArray.empty, slashed_add (out ++ [p]), slashed_one]
      simp
    · have e : (out ++ [p]).set ((out ++ [p]).length - 1) (p ++ ⟨#[c]⟩) = out ++ [p ++ ⟨#[c]⟩] := by
        rw [List.length_append, List.length_singleton, Nat.add_sub_cancel, List.set_append_right _ _ (Nat.le_refl _)]
        simp
      rw [splitGo, if_neg h, if_neg (by simp), nthS_last, e, slashed_split r out, slashed_add, slashed_add, slashed_one, slashed_one]
      simp
theorem slashed_back {s : ByteArray} {r : List UInt8} (h : s.data.toList = 47 :: r) : slashed (splitB s) = s ∧ splitB s ≠ [] := by
  constructor
  · apply data_inj
    unfold splitB
    have := slashed_split r [] ByteArray.empty
    rw [h, splitGo, if_pos rfl, this]
    show (slashed [ByteArray.empty]).data.toList ++ r = _
    rw [slashed_one]; rfl
  · unfold splitB
    rw [h, splitGo, if_pos rfl]
    obtain ⟨x, xs, _, h2⟩ := splitGo_cut r [] ByteArray.empty
    rw [h2]; simp
theorem splitGo_small : ∀ (r : List UInt8) (out : List ByteArray) (p : ByteArray) (m : Nat), (∀ q ∈ out ++ [p], q.size + r.length ≤ m) → ∀ q ∈ splitGo (out ++ [p]) r, q.size ≤ m
  | [], out, p, m, h => by
    rw [splitGo]
    exact fun q hq => Nat.le_trans (Nat.le_add_right _ _) (h q hq)
  | c :: r, out, p, m, h => by
    have hp := h p (by simp)
    rw [List.length_cons] at hp
    by_cases hc : c = 47
    · subst hc
      rw [splitGo, if_pos rfl]
      refine splitGo_small r (out ++ [p]) ByteArray.empty m fun q hq => ?_
      rcases List.mem_append.1 hq with hq | hq
      · have := h q hq; rw [List.length_cons] at this; omega
      · rw [List.mem_singleton.1 hq]; simp; omega
    · have e : (out ++ [p]).set ((out ++ [p]).length - 1) (p ++ ⟨#[c]⟩) = out ++ [p ++ ⟨#[c]⟩] := by
        rw [List.length_append, List.length_singleton, Nat.add_sub_cancel, List.set_append_right _ _ (Nat.le_refl _)]
        simp
      rw [splitGo, if_neg hc, if_neg (by simp), nthS_last, e]
      refine splitGo_small r out _ m fun q hq => ?_
      rcases List.mem_append.1 hq with hq | hq
      · have := h q (List.mem_append_left _ hq); rw [List.length_cons] at this; omega
      · rw [List.mem_singleton.1 hq, ByteArray.size_append]
        have : (ByteArray.mk #[c]).size = 1 := rfl
        omega
theorem split_small {s R : ByteArray} (h : s.data.toList = 47 :: R.data.toList) {q : ByteArray} (hq : q ∈ splitB s) : q.size ≤ R.size := by
  unfold splitB at hq
  rw [h, splitGo, if_pos rfl] at hq
  exact splitGo_small R.data.toList [] ByteArray.empty R.size (fun p hp => by obtain rfl : p = ByteArray.empty := (by simpa using hp); simp) q hq
/-- Words that a path may have. -/
def okW (l : List ByteArray) : Bool := l.all wordB && decide (l.length ≤ 3)
theorem okW_long {l : List ByteArray} (h : 3 < l.length) : okW l = false := by unfold okW; rw [show decide (l.length ≤ 3) = false by simp; omega, Bool.and_false]
theorem okW_bad {l : List ByteArray} {k : Nat} (hk : k < l.length) (h : wordB (nthS l k) = false) : okW l = false := by
  unfold okW
  rw [List.all_eq_false.2 ⟨nthS l k, by rw [nthS_get hk]; exact List.getElem_mem _, by rw [h]; simp⟩, Bool.false_and]
theorem okW_yes {l : List ByteArray} (h : ∀ k, k < l.length → wordB (nthS l k) = true) (h3 : l.length ≤ 3) : okW l = true := by
  unfold okW
  have : l.all wordB = true := List.all_eq_true.2 fun x hx => by
    obtain ⟨k, hk, rfl⟩ := List.mem_iff_getElem.1 hx
    have := h k hk; rwa [nthS_get hk] at this
  rw [this, show decide (l.length ≤ 3) = true by simpa using h3]; rfl
theorem okW_of {l : List ByteArray} (h : okW l = true) : (∀ s ∈ l, wordB s = true) ∧ l.length ≤ 3 := by
  unfold okW at h
  rw [Bool.and_eq_true, List.all_eq_true] at h
  exact ⟨h.1, by simpa using h.2⟩
theorem path_ok {l : List ByteArray} (h0 : l ≠ []) (h : okW l = true) : pathB l = slashed l := by unfold okW at h; unfold pathB; rw [if_neg h0, if_pos h]
theorem path_no {l : List ByteArray} (h : okW l = false) : pathB l = ByteArray.empty := by
  have h0 : l ≠ [] := by intro e; subst e; cases h
  unfold okW at h; unfold pathB; rw [if_neg h0, if_neg (by rw [h]; simp)]
theorem parts_noHead {s : ByteArray} (h : ∀ r, s.data.toList ≠ 47 :: r) : partsB s = [] ∧ isPath s = false := by
  have h1 : s ≠ ⟨#[47]⟩ := fun e => h [] (by rw [e])
  refine parts_no h1 ?_
  rcases Nat.eq_zero_or_pos s.size with h0 | h0
  · exact .inl h0
  refine .inr fun e => ?_
  by_cases hl : splitB s = []
  · rw [hl] at e; exact h1 e.symm
  cases hk : okW (splitB s)
  · rw [path_no hk] at e; rw [← e] at h0; simp at h0
  · rw [path_ok hl hk] at e
    cases hq : splitB s with
    | nil => exact hl hq
    | cons a q => rw [hq] at e; exact h _ (by rw [← e, slashed_cons])
theorem parts_head {s R : ByteArray} (h : s.data.toList = 47 :: R.data.toList) (hR : R ≠ ByteArray.empty) : partsB s = (if okW (splitB s) = true then splitB s else []) ∧ isPath s = okW (splitB s) := by
  have h1 : s ≠ ⟨#[47]⟩ := fun e => hR (by rw [e] at h; exact data_inj (List.cons.inj h).2.symm)
  obtain ⟨hb, hn⟩ := slashed_back h
  have h0 : 0 < s.size := by rw [← len_eq, h]; simp
  cases hk : okW (splitB s)
  · have := parts_no h1 (.inr (by rw [path_no hk]; intro e; rw [← e] at h0; simp at h0))
    rw [this.1, this.2]; exact ⟨rfl, rfl⟩
  · have := parts_yes h1 h0 (by rw [path_ok hn hk, hb])
    rw [this.1, this.2]; exact ⟨rfl, rfl⟩
theorem joinTail_is (l : List ByteArray) : Go.Lib.joinTail [47] (l.map (·.data.toList)) = (slashed l).data.toList := by
  induction l with
  | nil => rfl
  | cons s l ih =>
    rw [slashed_cons, ← ih]
    simp [Go.Lib.joinTail]
/-- The sign and the joined words are the path. -/
theorem join_is {l : List ByteArray} (h0 : l ≠ []) : (⟨#[47]⟩ : ByteArray) ++ ofBytes (Go.Lib.join (l.map (·.data.toList)) [47]) = slashed l := by
  cases l with
  | nil => exact absurd rfl h0
  | cons s l =>
    apply data_inj
    rw [slashed_cons, List.map_cons, Go.Lib.join_cons, joinTail_is]
    simp [ofBytes]
/-! ### the library's functions at texts -/
theorem lens_le (l : List ByteArray) (h : ∀ s ∈ l, s.size ≤ 8) : Go.Lib.lens (l.map (·.data.toList)) ≤ 8 * l.length := by
  induction l with
  | nil => simp [Go.Lib.lens]
  | cons s l ih =>
    have h1 := h s (List.mem_cons_self ..)
    have h2 := ih fun q hq => h q (List.mem_cons_of_mem _ hq)
    have h3 := len_eq s
    simp only [Go.Lib.lens, List.map_cons, List.sum_cons, List.length_cons] at h2 ⊢
    omega
theorem joined_le (l : List ByteArray) (h : ∀ s ∈ l, s.size ≤ 8) : (Go.Lib.join (l.map (·.data.toList)) [47]).length ≤ 9 * l.length := by
  cases l with
  | nil => rw [List.map_nil, Go.Lib.join_nil]; simp
  | cons s l =>
    rw [List.map_cons, Go.Lib.join_length]
    have := lens_le (s :: l) h
    rw [List.map_cons] at this
    simp only [List.length_cons, List.length_nil, List.length_map] at this ⊢
    omega
/-- The pieces of a text. -/
def splitL (s : ByteArray) : List ByteArray := Go.Lib.splitB ⟨#[47]⟩ 0 (Go.Lib.countB s ⟨#[47]⟩) s
/-! ### the program's functions -/
theorem nthS_in {l : List ByteArray} {j : Nat} (h : j < l.length) : nthS l j ∈ l := by rw [nthS_get h]; exact List.getElem_mem _
end Go.Proofs.Ytigegjgkjahhaaa
