/-
  Contracts of chapter 8's program: paths of words, their parts, a path below another one.
-/
import Derived.Test.YtglajbmopiolhaaGreatDoorFold4
import Derived.Test.YtglajbmopiolhaaGreatDoorPaths8
import Derived.Test.YtglajbmopiolhaaGreatDoorImpl7
import Derived.Test.YtglajbmopiolhaaGreatDoorShelf
import Derived.Shelf.Strings.SplitCore
import Derived.Lib.SplitLaws
import Derived.Lib.Join
namespace Go.Proofs.YtglajbmopiolhaaGreatDoor
open Go.RowKit
set_option linter.unusedVariables false
/-! ### a text divided at its signs -/
def ofBytes (y : List UInt8) : ByteArray := ⟨y.toArray⟩
theorem ofBytes_data (s : ByteArray) : ofBytes s.data.toList = s := by cases s; simp [ofBytes]
theorem cut_nil : Go.Lib.split [] [47] = [[]] := by
  unfold Go.Lib.split; rw [Go.Lib.count_one]; rfl
theorem index_sep (t : List UInt8) : Go.Lib.index (47 :: t) [47] = 0 := by rw [Go.Lib.index_one, Go.Lib.indexByte]; rfl
theorem index_other {c : UInt8} (h : c ≠ 47) (t : List UInt8) : Go.Lib.index (c :: t) [47] = if Go.Lib.index t [47] == -1 then -1 else Go.Lib.index t [47] + 1 := by
  rw [Go.Lib.index_one, Go.Lib.index_one, Go.Lib.indexByte, if_neg (by simpa using h)]
theorem cut_sep (t : List UInt8) : Go.Lib.split (47 :: t) [47] = [] :: Go.Lib.split t [47] := by
  unfold Go.Lib.split
  rw [Go.Lib.count_cons_eq, Nat.add_comm, Go.Lib.splitK, if_neg (by rw [index_sep]; decide), index_sep]
  rfl
theorem cut_other {c : UInt8} (h : c ≠ 47) (t : List UInt8) : ∃ x xs, Go.Lib.split t [47] = x :: xs ∧ Go.Lib.split (c :: t) [47] = (c :: x) :: xs := by
  unfold Go.Lib.split
  rw [Go.Lib.count_cons_ne c 47 t h]
  cases hk : Go.Lib.count t [47] with
  | zero => exact ⟨t, [], rfl, rfl⟩
  | succ k =>
    by_cases hm : Go.Lib.index t [47] = -1
    · rw [Go.Lib.count_miss hm] at hk; omega
    have hge : -1 ≤ Go.Lib.index t [47] := by rw [Go.Lib.index_one]; exact Go.Lib.indexByte_ge _ _
    obtain ⟨j, hj⟩ : ∃ j : Nat, Go.Lib.index t [47] = j := ⟨(Go.Lib.index t [47]).toNat, by omega⟩
    have h1 : Go.Lib.index (c :: t) [47] = ((j + 1 : Nat) : Int) := by rw [index_other h, if_neg (by simpa using hm), hj]; omega
    refine ⟨_, _, by rw [Go.Lib.splitK, if_neg (by simpa using hm)], ?_⟩
    rw [Go.Lib.splitK, if_neg (by rw [h1]; simp; omega), h1, hj]
    simp
theorem splitGo_cut : ∀ (r : List UInt8) (out : List ByteArray) (p : ByteArray), ∃ x xs, Go.Lib.split r [47] = x :: xs ∧ splitGo (out ++ [p]) r = out ++ ⟨p.data ++ x.toArray⟩ :: xs.map ofBytes
  | [], out, p => ⟨[], [], cut_nil, by rw [splitGo]; simp⟩
  | c :: r, out, p => by
    by_cases h : c = 47
    · subst h
      obtain ⟨x, xs, h1, h2⟩ := splitGo_cut r (out ++ [p]) ByteArray.empty
      refine ⟨[], x :: xs, by rw [cut_sep, h1], ?_⟩
      rw [splitGo, if_pos rfl, h2]
      simp [ofBytes]
    · have e : (out ++ [p]).set ((out ++ [p]).length - 1) (p ++ ⟨#[c]⟩) = out ++ [p ++ ⟨#[c]⟩] := by
        rw [List.length_append, List.length_singleton, Nat.add_sub_cancel, List.set_append_right _ _ (Nat.le_refl _)]
        simp
      obtain ⟨x, xs, h1, h2⟩ := splitGo_cut r out (p ++ ⟨#[c]⟩)
      obtain ⟨x', xs', h3, h4⟩ := cut_other h r
      rw [h1] at h3
      obtain ⟨rfl, rfl⟩ := List.cons.inj h3
      refine ⟨c :: x, xs, h4, ?_⟩
      rw [splitGo, if_neg h, if_neg (by simp), nthS_last, e, h2]
      congr 2
      have : (p ++ (ByteArray.mk #[c])).data = p.data ++ #[c] := by simp
      rw [this, Array.append_assoc]
      simp
/-- What the library divides at the signs is what the document divides. -/
theorem split_is {s R : ByteArray} (h : s.data.toList = 47 :: R.data.toList) : splitB s = Go.Lib.splitB ⟨#[47]⟩ 0 (Go.Lib.countB R ⟨#[47]⟩) R := by
  obtain ⟨x, xs, h1, h2⟩ := splitGo_cut R.data.toList [] ByteArray.empty
  have h3 := Go.Lib.splitB_data ⟨#[47]⟩ 0 (Go.Lib.countB R ⟨#[47]⟩) R
  have h4 : Go.Lib.splitK (ByteArray.mk #[47]).data.toList 0 (Go.Lib.countB R ⟨#[47]⟩) R.data.toList = x :: xs := h1
  rw [h4] at h3
  have h5 : (Go.Lib.splitB ⟨#[47]⟩ 0 (Go.Lib.countB R ⟨#[47]⟩) R).map (fun q => ofBytes q.data.toList) = (x :: xs).map ofBytes := by rw [← h3, List.map_map]; rfl
  rw [show (fun q : ByteArray => ofBytes q.data.toList) = id from funext ofBytes_data, List.map_id] at h5
  rw [h5]
  unfold splitB
  rw [h, splitGo, if_pos rfl, h2]
  simp [ofBytes]
theorem slashed_add (a b : List ByteArray) : (slashed (a ++ b)).data.toList = (slashed a).data.toList ++ (slashed b).data.toList := by
  induction a with
  | nil => rfl
  | cons s a ih => rw [List.cons_append, slashed_cons, slashed_cons, ih]; simp
theorem slashed_one (p : ByteArray) : (slashed [p]).data.toList = 47 :: p.data.toList := by rw [slashed_cons]; simp [slashed, joinB]
theorem slashed_split : ∀ (r : List UInt8) (out : List ByteArray) (p : ByteArray), (slashed (splitGo (out ++ [p]) r)).data.toList = (slashed (out ++ [p])).data.toList ++ r
  | [], out, p => by rw [splitGo, List.append_nil]
  | c :: r, out, p => by
    by_cases h : c = 47
    · subst h
      rw [splitGo, if_pos rfl, slashed_split r (out ++ [p]) ByteArray.empty, slashed_add (out ++ [p]), slashed_one]
      simp
    · have e : (out ++ [p]).set ((out ++ [p]).length - 1) (p ++ ⟨#[c]⟩) = out ++ [p ++ ⟨#[c]⟩] := by
        rw [List.length_append, List.length_singleton, Nat.add_sub_cancel, List.set_append_right _ _ (Nat.le_refl _)]
        simp
      rw [splitGo, if_neg h, if_neg (by simp), nthS_last, e, slashed_split r out, slashed_add, slashed_add, slashed_one, slashed_one]
      simp
theorem slashed_back {s : ByteArray} {r : List UInt8} (h : s.data.toList = 47 :: r) : slashed (splitB s) = s ∧ splitB s ≠ [] := by
  constructor
  · apply data_inj
    unfold splitB
    have := slashed_split r [] ByteArray.empty
    rw [h, splitGo, if_pos rfl, this]
    show (slashed [ByteArray.empty]).data.toList ++ r = _
    rw [slashed_one]; rfl
  · unfold splitB
    rw [h, splitGo, if_pos rfl]
    obtain ⟨x, xs, _, h2⟩ := splitGo_cut r [] ByteArray.empty
    rw [h2]; simp
theorem splitGo_small : ∀ (r : List UInt8) (out : List ByteArray) (p : ByteArray) (m : Nat), (∀ q ∈ out ++ [p], q.size + r.length ≤ m) → ∀ q ∈ splitGo (out ++ [p]) r, q.size ≤ m
  | [], out, p, m, h => by
    rw [splitGo]
    exact fun q hq => Nat.le_trans (Nat.le_add_right _ _) (h q hq)
  | c :: r, out, p, m, h => by
    have hp := h p (by simp)
    rw [List.length_cons] at hp
    by_cases hc : c = 47
    · subst hc
      rw [splitGo, if_pos rfl]
      refine splitGo_small r (out ++ [p]) ByteArray.empty m fun q hq => ?_
      rcases List.mem_append.1 hq with hq | hq
      · have := h q hq; rw [List.length_cons] at this; omega
      · rw [List.mem_singleton.1 hq]; simp; omega
    · have e : (out ++ [p]).set ((out ++ [p]).length - 1) (p ++ ⟨#[c]⟩) = out ++ [p ++ ⟨#[c]⟩] := by
        rw [List.length_append, List.length_singleton, Nat.add_sub_cancel, List.set_append_right _ _ (Nat.le_refl _)]
        simp
      rw [splitGo, if_neg hc, if_neg (by simp), nthS_last, e]
      refine splitGo_small r out _ m fun q hq => ?_
      rcases List.mem_append.1 hq with hq | hq
      · have := h q (List.mem_append_left _ hq); rw [List.length_cons] at this; omega
      · rw [List.mem_singleton.1 hq, ByteArray.size_append]
        have : (ByteArray.mk #[c]).size = 1 := rfl
        omega
theorem split_small {s R : ByteArray} (h : s.data.toList = 47 :: R.data.toList) {q : ByteArray} (hq : q ∈ splitB s) : q.size ≤ R.size := by
  unfold splitB at hq
  rw [h, splitGo, if_pos rfl] at hq
  exact splitGo_small R.data.toList [] ByteArray.empty R.size (fun p hp => by obtain rfl : p = ByteArray.empty := (by simpa using hp); simp) q hq
/-- Words that a path may have. -/
def okW (l : List ByteArray) : Bool := l.all wordB && decide (l.length ≤ 3)
theorem okW_long {l : List ByteArray} (h : 3 < l.length) : okW l = false := by unfold okW; rw [show decide (l.length ≤ 3) = false by simp; omega, Bool.and_false]
theorem okW_bad {l : List ByteArray} {k : Nat} (hk : k < l.length) (h : wordB (nthS l k) = false) : okW l = false := by
  unfold okW
  rw [List.all_eq_false.2 ⟨nthS l k, by rw [nthS_get hk]; exact List.getElem_mem _, by rw [h]; simp⟩, Bool.false_and]
theorem okW_yes {l : List ByteArray} (h : ∀ k, k < l.length → wordB (nthS l k) = true) (h3 : l.length ≤ 3) : okW l = true := by
  unfold okW
  have : l.all wordB = true := List.all_eq_true.2 fun x hx => by
    obtain ⟨k, hk, rfl⟩ := List.mem_iff_getElem.1 hx
    have := h k hk; rwa [nthS_get hk] at this
  rw [this, show decide (l.length ≤ 3) = true by simpa using h3]; rfl
theorem okW_of {l : List ByteArray} (h : okW l = true) : (∀ s ∈ l, wordB s = true) ∧ l.length ≤ 3 := by
  unfold okW at h
  rw [Bool.and_eq_true, List.all_eq_true] at h
  exact ⟨h.1, by simpa using h.2⟩
theorem path_ok {l : List ByteArray} (h0 : l ≠ []) (h : okW l = true) : pathB l = slashed l := by unfold okW at h; unfold pathB; rw [if_neg h0, if_pos h]
theorem path_no {l : List ByteArray} (h : okW l = false) : pathB l = ByteArray.empty := by
  have h0 : l ≠ [] := by intro e; subst e; cases h
  unfold okW at h; unfold pathB; rw [if_neg h0, if_neg (by rw [h]; simp)]
theorem parts_noHead {s : ByteArray} (h : ∀ r, s.data.toList ≠ 47 :: r) : partsB s = [] ∧ isPath s = false := by
  have h1 : s ≠ ⟨#[47]⟩ := fun e => h [] (by rw [e])
  refine parts_no h1 ?_
  rcases Nat.eq_zero_or_pos s.size with h0 | h0
  · exact .inl h0
  refine .inr fun e => ?_
  by_cases hl : splitB s = []
  · rw [hl] at e; exact h1 e.symm
  cases hk : okW (splitB s)
  · rw [path_no hk] at e; rw [← e] at h0; simp at h0
  · rw [path_ok hl hk] at e
    cases hq : splitB s with
    | nil => exact hl hq
    | cons a q => rw [hq] at e; exact h _ (by rw [← e, slashed_cons])
theorem parts_head {s R : ByteArray} (h : s.data.toList = 47 :: R.data.toList) (hR : R ≠ ByteArray.empty) : partsB s = (if okW (splitB s) = true then splitB s else []) ∧ isPath s = okW (splitB s) := by
  have h1 : s ≠ ⟨#[47]⟩ := fun e => hR (by rw [e] at h; exact data_inj (List.cons.inj h).2.symm)
  obtain ⟨hb, hn⟩ := slashed_back h
  have h0 : 0 < s.size := by rw [← len_eq, h]; simp
  cases hk : okW (splitB s)
  · have := parts_no h1 (.inr (by rw [path_no hk]; intro e; rw [← e] at h0; simp at h0))
    rw [this.1, this.2]; exact ⟨rfl, rfl⟩
  · have := parts_yes h1 h0 (by rw [path_ok hn hk, hb])
    rw [this.1, this.2]; exact ⟨rfl, rfl⟩
/-! ### the library's functions at texts -/
/-- The pieces of a text. -/
def splitL (s : ByteArray) : List ByteArray := Go.Lib.splitB ⟨#[47]⟩ 0 (Go.Lib.countB s ⟨#[47]⟩) s
theorem split_any (s : ByteArray) (w : World) (hs : s.size ≤ 1048576) : Calls Tryz.prog 111 #[.string s, .string ⟨#[47]⟩] w (NewS (splitL s) w) := by
  have hle := Go.Lib.countB_le ⟨#[47]⟩ (by decide) s.size s (Nat.le_refl _)
  have hlen := Go.Lib.splitB_all ⟨#[47]⟩ (by decide) 0 _ s rfl
  obtain ⟨cn, hcn⟩ : ∃ cn, Go.Lib.countB s ⟨#[47]⟩ = cn := ⟨_, rfl⟩
  have c : Calls Tryz.prog 132 #[.string s, .string ⟨#[47]⟩, .int .i64 0, .int .i64 (-1)] w fun e w' => e = .returned (.slice (some ⟨w.heap.size, 0, none⟩) (Go.Lib.splitB ⟨#[47]⟩ 0 (cn + 1 - 1) s).length (cn + 1)) ∧ w' = w.alloc (.cells (Go.Lib.cellsOf (Go.Lib.splitB ⟨#[47]⟩ 0 (cn + 1 - 1) s) (cn + 1)) 9) :=
    Any.strings_genSplit_core { Tryz.lays146 with } (by kernel_rfl) s ⟨#[47]⟩ 0 (-1) (cn + 1) w (by omega) (by decide) (Nat.zero_le _)
      (fun x c hx => (Tryz.strings_Index_one x 47 _).mono fun e w' ⟨he, hw⟩ => ⟨by rw [he]; show _ = Ending.returned (Value.int .i64 (Go.Lib.index x.data.toList [47])); rw [Go.Lib.index_one], hw⟩)
      ((Tryz.strings_Count_one s 47 w).mono fun e w' ⟨he, hw⟩ => ⟨by rw [he]; show _ = Ending.returned (Value.int .i64 ((Go.Lib.count s.data.toList [47] : Nat) : Int)); rw [Go.Lib.count_one]; rfl, hw⟩)
      (by decide) (by decide) (by rw [if_pos (by decide), hcn]; omega)
  have hL : Go.Lib.splitB ⟨#[47]⟩ 0 (cn + 1 - 1) s = splitL s := by rw [Nat.add_sub_cancel, ← hcn]; rfl
  have hn : (splitL s).length = cn + 1 := by rw [← hcn]; exact hlen
  rw [hL, hn, ← hn, Go.Lib.cellsOf_full] at c
  have hown : OwnS (w.alloc (.cells ((splitL s).map Value.string).toArray 9)) w.heap.size (.slice (some ⟨w.heap.size, 0, none⟩) (splitL s).length (splitL s).length) (splitL s) := by
    have := World.ownsRow_lit (base := w.heap.size) (e := 9) (size := 1) w ((splitL s).map Value.string).toArray (splitL s).length (Nat.le_refl _) (by unfold maxLen; omega) (by simp)
    unfold OwnS OwnL
    rw [strG_map]
    exact this
  have HO := Lib.hid hown
  have HB := Lib.hid ((Below.refl w.heap.size w).alloc (Nat.le_refl _) (.cells ((splitL s).map Value.string).toArray 9))
  clear hown hL hlen hcn hle hn
  go_enter Tryz.func111, Tryz.ntmps111
  go_wp2_with (go_at_call 132; refine c.mono ?_; rintro e w' ⟨rfl, hw⟩; subst w')
  go_ret
  exact ⟨_, rfl, HO.out, HB.out⟩
theorem equalS_any (x y : Option Addr) (n m c d : Nat) (l l' : List ByteArray) (B B' : Nat) (w : World) (h : Strs w B x n c l) (h' : Strs w B' y m d l') :
    Calls Tryz.prog 36 #[.slice x n c, .slice y m d] w fun e w' => e = .returned (.bool (decide (l = l'))) ∧ ∃ q, w' = w.drewN q := by
  have hl := h.len
  have hl' := h'.len
  have hmx := h.max
  have hle := h.le
  unfold maxLen at hmx
  by_cases hnm : n = m
  · subst hnm
    by_cases h0 : n = 0
    · subst h0
      obtain rfl : l = [] := List.eq_nil_of_length_eq_zero (by omega)
      obtain rfl : l' = [] := List.eq_nil_of_length_eq_zero (by omega)
      exact (Tryz.slices_Equal_string_empty x y c 0 d w (by omega)).mono fun e w' ⟨he, hw⟩ => ⟨by rw [he]; rfl, 0, hw⟩
    · obtain ⟨b, off, rfl, _, _⟩ := h.atS (show 0 < n by omega)
      obtain ⟨b', off', rfl, _, _⟩ := h'.atS (show 0 < n by omega)
      refine (Tryz.slices_Equal_string b off n c b' off' n d l l' w (by omega) (by omega) (by omega) (by omega) (fun j hj => ?_) (fun j hj => ?_)).mono fun e w' ⟨he, hw⟩ => ⟨by rw [he, List.take_of_length_le (by omega), List.take_of_length_le (by omega)], hw⟩
      · obtain ⟨b2, off2, e, _, hc⟩ := h.atS (show j < n by omega)
        obtain ⟨rfl, rfl, _⟩ := Addr.mk.inj (Option.some.inj e)
        exact hc
      · obtain ⟨b2, off2, e, _, hc⟩ := h'.atS (show j < n by omega)
        obtain ⟨rfl, rfl, _⟩ := Addr.mk.inj (Option.some.inj e)
        exact hc
  · refine (Tryz.slices_Equal_string_lens x y n c m d w hnm).mono fun e w' ⟨he, hw⟩ => ⟨?_, 0, hw⟩
    rw [he, decide_eq_false]
    intro e
    exact hnm (by rw [← hl, ← hl', e])
/-! ### the program's functions -/
theorem nthS_in {l : List ByteArray} {j : Nat} (h : j < l.length) : nthS l j ∈ l := by rw [nthS_get h]; exact List.getElem_mem _
theorem partsValid_any (x : Option Addr) (n cap : Nat) (l : List ByteArray) (B : Nat) (w : World) (h : Strs w B x n cap l) (hz : ∀ k, (nthS l k).size ≤ maxLen) :
    Calls Tryz.prog 112 #[.slice x n cap] w fun e w' => e = .returned (.bool (okW l)) ∧ w = w' := by
  have HL := Lib.hid h.len
  have HH := Lib.hid h
  have HZ := Lib.hid hz
  have hmx := h.max
  have hle := h.le
  clear h hz
  unfold maxLen at hmx
  by_cases h3 : (3 : Int) < n
  · have HF := Lib.hid (okW_long (l := l) (by have := HL.out; omega))
    go_enter Tryz.func112, Tryz.ntmps112
    go_wp2
    go_ret
    exact ⟨ret_bool HF.out.symm, rfl⟩
  have H3 := Lib.hid h3
  go_enter Tryz.func112, Tryz.ntmps112
  go_wp2
  go_loop [10] (fun i => ∃ k : Nat, k ≤ n ∧ i = .int .i64 k ∧ ∀ j, j < k → wordB (nthS l j) = true) (fun i => n - (intOf i).toNat)
  case atStart => exact ⟨0, by omega, rfl, fun j hj => by omega⟩
  case round =>
    obtain ⟨k, hk, rfl, ha⟩ := hrel
    have HA := Lib.hid ha; clear ha
    by_cases hlt : k < n
    · have hkl : k < l.length := by have := HL.out; omega
      obtain ⟨b, off, rfl, hb, hcell⟩ := HH.out.atS hlt
      have hzk := HZ.out k
      cases hw : wordB (nthS l k)
      · have HF := Lib.hid (okW_bad hkl hw)
        go_wp2_with (go_at_call 43; refine (wordValid_any _ _ hzk).mono ?_; rintro e w' ⟨rfl, rfl⟩; rw [hw])
        go_ret
        exact ⟨ret_bool HF.out.symm, rfl⟩
      · have HW := Lib.hid hw
        go_wp2_with (go_at_call 43; refine (wordValid_any _ _ hzk).mono ?_; rintro e w' ⟨rfl, rfl⟩; rw [hw])
        go_round
        case rel => exact ⟨k + 1, by omega, by go_num, fun j hj => by rcases Nat.lt_succ_iff_lt_or_eq.1 hj with h | rfl; exact HA.out j h; exact HW.out⟩
        case measure => simp [intOf]; omega
    · have HF := Lib.hid (okW_yes (l := l) (fun j hj => HA.out j (by have := HL.out; omega)) (by have := HL.out; have := H3.out; omega))
      go_wp2
      go_ret
      exact ⟨ret_bool HF.out.symm, rfl⟩
theorem copyNames_any (x : Option Addr) (n cap : Nat) (l : List ByteArray) (w : World) (h : Strs w w.heap.size x n cap l) (hz : ∀ k, (nthS l k).size ≤ 2000000) (hn : n ≤ 3) :
    Calls Tryz.prog 113 #[.slice x n cap] w (NewS l w) := by
  have HL := Lib.hid h.len
  have HH := Lib.hid h
  have HZ := Lib.hid hz
  have hmx := h.max
  have hle := h.le
  have HN := Lib.hid (OwnL.nil strG 9 1 w w.heap.size)
  clear h hz
  unfold maxLen at hmx
  go_enter Tryz.func113, Tryz.ntmps113
  go_wp2
  go_loopw [3, 8] (fun v i wr => ∃ k : Nat, k ≤ n ∧ i = .int .i64 k ∧ OwnS wr w.heap.size v (l.take k) ∧ Below w.heap.size w wr) (fun _ i _ => n - (intOf i).toNat)
  case atStart => exact ⟨0, by omega, rfl, by rw [List.take_zero]; exact HN.out, Below.refl _ _⟩
  case round =>
    obtain ⟨k, hk, rfl, ho, hb⟩ := hrel
    have HO := Lib.hid ho; have HBW := Lib.hid hb
    clear ho hb
    by_cases hlt : k < n
    · have hkl : k < l.length := by have := HL.out; omega
      obtain ⟨b, off, rfl, hb, hcell⟩ := (HH.out.below HBW.out (Nat.le_refl _)).atS hlt
      have hzk := HZ.out k
      have HT := Lib.hid (take_snocS hkl)
      have hlk : (l.take k).length ≤ 2000000 := by rw [List.length_take]; omega
      go_wp2_with (first
        | (go_at_call 97; refine (cloneN_any _ _ hzk).mono ?_; rintro e w4 ⟨rfl, hb4⟩; have HO4 := Lib.hid (HO.out.below hb4); have HB4 := Lib.hid (HBW.out.trans (hb4.mono HBW.out.size)); clear hb4)
        | (at_builtin; refine wpList_app1L eltStr encStr (nthS l k) _ rfl HO4.out hlk HB4.out.size rfl _ _ rfl rfl rfl ?_; intro v' w' hown hgrow; have HW := Lib.hid hown; have HGR := Lib.hid hgrow; clear hown hgrow))
      go_roundw
      case rel => exact ⟨k + 1, by omega, by go_num, by rw [HT.out]; exact HW.out, HB4.out.grown HGR.out HB4.out.size HO4.out.at⟩
      case measure => simp [intOf]; omega
    · have e : l.take k = l := List.take_of_length_le (by have := HL.out; omega)
      have HE := Lib.hid e
      clear e
      go_wp2
      go_ret
      exact ⟨_, rfl, by rw [HE.out] at HO; exact HO.out, HBW.out⟩
set_option maxHeartbeats 1000000 in
theorem implPathParts_any (s : ByteArray) (w : World) (hs : s.size ≤ 1048576) : Calls Tryz.prog 87 #[.string s] w (NewSB (partsB s) (isPath s) w) := by
  rcases headC 47 s with ⟨r, h⟩ | hno
  rotate_left
  · have HF := Lib.hid (parts_noHead hno)
    have hp := prefixC_no hno
    clear hno
    go_enter Tryz.func87, Tryz.ntmps87
    go_wp2_with fail
    refine (Tryz.strings_CutPrefix s ⟨#[47]⟩ _).mono ?_
    rintro e w2 ⟨rfl, hw2⟩
    subst w2
    rw [hp]
    go_wp2_with fail
    go_ret2
    exact newSB_of HF.out.1 HF.out.2 ⟨_, rfl, OwnL.nil _ _ _ _ _, Below.refl _ _⟩
  have hp := prefixC_yes h
  have hr := rest1 h
  obtain ⟨R, hR⟩ : ∃ R, s.extract 1 s.size = R := ⟨_, rfl⟩
  have hz : R.size ≤ s.size := by rw [← hR, ByteArray.size_extract]; omega
  rw [hR] at hr
  have hd : r = R.data.toList := by rw [← hr]
  have h2 : s.data.toList = 47 :: R.data.toList := by rw [h, hd]
  clear h hd hR
  by_cases h0 : R = ByteArray.empty
  · have hs1 : s = ⟨#[47]⟩ := data_inj (by rw [h2, h0]; rfl)
    have HF := Lib.hid (show partsB s = [] ∧ isPath s = true by rw [hs1]; exact parts_root)
    have he : R.toList.isEmpty = true := by rw [h0, ByteArray.toList_eq]; rfl
    clear h2 h0 hs1
    go_enter Tryz.func87, Tryz.ntmps87
    go_wp2_with fail
    refine (Tryz.strings_CutPrefix s ⟨#[47]⟩ _).mono ?_
    rintro e w2 ⟨rfl, hw2⟩
    subst w2
    rw [hp.1, hp.2, hr]
    clear hp hr
    go_wp2_with fail
    go_ret2
    exact newSB_of HF.out.1 HF.out.2 ⟨_, rfl, OwnL.nil _ _ _ _ _, Below.refl _ _⟩
  have he : R.toList.isEmpty = false := by
    rw [ByteArray.toList_eq, List.isEmpty_eq_false_iff]
    intro e; exact h0 (data_inj (by rw [e]; rfl))
  have HPP := Lib.hid (parts_head h2 h0)
  have hsl := (split_is h2).trans (show _ = splitL R from rfl)
  rw [hsl] at HPP
  have hzl : ∀ k, (nthS (splitL R) k).size ≤ 1048576 := fun k => by
    by_cases hk : k < (splitL R).length
    · have := split_small h2 (nthS_in (by rw [hsl]; exact hk) : nthS (splitB s) k ∈ splitB s)
      rw [hsl] at this; omega
    · unfold nthS; rw [List.getD_eq_getElem?_getD, List.getElem?_eq_none (by omega)]; simp
  have HZ := Lib.hid hzl
  have hRs : R.size ≤ 1048576 := by omega
  have HS := Lib.hid (split_any R)
  obtain ⟨L, hL⟩ : ∃ L, splitL R = L := ⟨_, rfl⟩
  rw [hL] at HPP HZ HS
  clear h2 h0 hsl hzl hL
  have HZM := Lib.hid (show ∀ k, (nthS L k).size ≤ maxLen from fun k => by have := HZ.out k; unfold maxLen; omega)
  cases hk : okW L
  · have HF := Lib.hid (show partsB s = [] ∧ isPath s = false by have := HPP.out; rw [hk] at this; exact this)
    clear HPP
    go_enter Tryz.func87, Tryz.ntmps87
    go_wp2_with fail
    refine (Tryz.strings_CutPrefix s ⟨#[47]⟩ _).mono ?_
    rintro e w2 ⟨rfl, hw2⟩
    subst w2
    rw [hp.1, hp.2, hr]
    clear hp hr
    go_wp2_with fail
    refine (HS.out _ hRs).mono ?_
    rintro e w3 ⟨v, rfl, ho, hb⟩
    obtain ⟨x, n, c, rfl, hi⟩ := ho.lst
    have HB := Lib.hid hb; have HI := Lib.hid hi
    clear hb ho hi
    go_wp2_with (go_at_call 112; refine (partsValid_any _ _ _ L _ _ HI.out HZM.out).mono ?_; rintro e w' ⟨rfl, rfl⟩; rw [hk])
    go_ret2
    exact newSB_of HF.out.1 HF.out.2 ⟨_, rfl, OwnL.nil _ _ _ _ _, HB.out⟩
  · have HF := Lib.hid (show partsB s = L ∧ isPath s = true by have := HPP.out; rw [hk, if_pos rfl] at this; exact this)
    have h3 := (okW_of hk).2
    clear HPP
    go_enter Tryz.func87, Tryz.ntmps87
    go_wp2_with fail
    refine (Tryz.strings_CutPrefix s ⟨#[47]⟩ _).mono ?_
    rintro e w2 ⟨rfl, hw2⟩
    subst w2
    rw [hp.1, hp.2, hr]
    clear hp hr
    go_wp2_with fail
    refine (HS.out _ hRs).mono ?_
    rintro e w3 ⟨v, rfl, ho, hb⟩
    obtain ⟨x, n, c, rfl, hi⟩ := ho.lst
    have hn3 : n ≤ 3 := by rw [← hi.len]; exact h3
    have HB := Lib.hid hb; have HI := Lib.hid hi
    clear hb ho hi
    go_wp2_with (go_at_call 112; refine (partsValid_any _ _ _ L _ _ HI.out HZM.out).mono ?_; rintro e w' ⟨rfl, rfl⟩; rw [hk])
    refine (copyNames_any _ _ _ L _ HI.out (fun k => by have := HZ.out k; omega) hn3).mono ?_
    rintro e w4 ⟨v4, rfl, ho, hb⟩
    have HO := Lib.hid (ho.mono HB.out.size); have HB2 := Lib.hid (HB.out.trans (hb.mono HB.out.size))
    clear ho hb
    go_wp2_with fail
    go_ret2
    exact newSB_of HF.out.1 HF.out.2 ⟨_, rfl, HO.out, HB2.out⟩
end Go.Proofs.YtglajbmopiolhaaGreatDoor
