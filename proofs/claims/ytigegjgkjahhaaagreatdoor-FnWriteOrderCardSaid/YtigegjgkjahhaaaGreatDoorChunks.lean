/-
  Plain functions of chapter 3 (chunks), and their laws; nothing of the program is imported.
-/
import Derived.Test.YtigegjgkjahhaaaGreatDoorWords
import Derived.Test.YtigegjgkjahhaaaGreatDoorMem
import Derived.Test.YtigegjgkjahhaaaGreatDoorHelp
import Derived.Test.YtigegjgkjahhaaaGreatDoorPrints
import Derived.Test.YtigegjgkjahhaaaGreatDoorShelf
namespace Go.Proofs.YtigegjgkjahhaaaGreatDoor
set_option linter.unusedVariables false
/-- A chunk of m bytes whose last one is c is whole. -/
def whole (c : UInt8) (m : Nat) : Bool := decide (m = 6 ∨ (2 ≤ m ∧ (c.toNat : Int) % 4 = 0))
theorem whole_six (c : UInt8) : whole c 6 = true := by unfold whole; simp
theorem whole_four {c : UInt8} {m : Nat} (h : 2 ≤ m) (h' : (c.toNat : Int) % 4 = 0) : whole c m = true := by unfold whole; simp only [decide_eq_true_eq]; exact .inr ⟨h, h'⟩
theorem whole_no1 {c : UInt8} {m : Nat} (h : m < 2) : whole c m = false := by unfold whole; simp only [decide_eq_false_iff_not]; omega
theorem whole_no2 {c : UInt8} {m : Nat} (h : m ≠ 6) (h' : (c.toNat : Int) % 4 ≠ 0) : whole c m = false := by unfold whole; simp only [decide_eq_false_iff_not]; omega
/-- The ends of the chunks in the rest of a text, k bytes in, m of them in the chunk that is open. -/
def endsGo : List UInt8 → Nat → Nat → List Int
  | [], _, _ => []
  | c :: r, k, m => if (whole c (m + 1) || r.isEmpty) = true then ((k + 1 : Nat) : Int) :: endsGo r (k + 1) 0 else endsGo r (k + 1) (m + 1)
/-- The ends of the chunks of a text. -/
def endsB (s : ByteArray) : List Int := if textB s = true then endsGo s.data.toList 0 0 else []
theorem endsB_no {s : ByteArray} (h : textB s = false) : endsB s = [] := by unfold endsB; rw [h]; rfl
theorem endsB_yes {s : ByteArray} (h : textB s = true) : endsB s = endsGo s.data.toList 0 0 := by unfold endsB; rw [h]; rfl
theorem drop_cons (s : ByteArray) (k : Nat) (h : k < s.size) : s.data.toList.drop k = s[k] :: s.data.toList.drop (k + 1) := by
  rw [List.drop_eq_getElem_cons (by simpa using h)]; rfl
theorem drop_end (s : ByteArray) (k : Nat) (h : ¬ k < s.size) : s.data.toList.drop k = [] := List.drop_of_length_le (by rw [len_eq]; omega)
/-- k bytes in, m of them in the open chunk, the ends so far. -/
def EndsRel (s : ByteArray) (m k : Nat) (out : List Int) : Prop := endsGo s.data.toList 0 0 = out ++ endsGo (s.data.toList.drop k) k m ∧ m ≤ k ∧ m ≤ 5 ∧ out.length ≤ k
theorem endsRel_start (s : ByteArray) : EndsRel s 0 0 [] := ⟨by simp, by omega, by omega, by simp⟩
theorem endsRel_cut {s : ByteArray} {m k : Nat} {out : List Int} (h : EndsRel s m k out) (hk : k < s.size) (hw : whole s[k] (m + 1) = true ∨ k + 1 = s.size) : EndsRel s 0 (k + 1) (out ++ [(k : Int) + 1]) := by
  obtain ⟨h1, h2, h3, h4⟩ := h
  refine ⟨?_, by omega, by omega, by simp; omega⟩
  rw [h1, drop_cons s k hk, endsGo, if_pos, List.append_assoc]
  · rfl
  · rcases hw with hw | hw
    · rw [hw]; rfl
    · rw [drop_end s (k + 1) (by omega)]; simp
theorem endsRel_on {s : ByteArray} {m k : Nat} {out : List Int} (h : EndsRel s m k out) (hk : k < s.size) (hw : whole s[k] (m + 1) = false) (hl : k + 1 ≠ s.size) : EndsRel s (m + 1) (k + 1) out := by
  obtain ⟨h1, h2, h3, h4⟩ := h
  have h5 : m + 1 ≠ 6 := by intro e; rw [e, whole_six] at hw; cases hw
  refine ⟨?_, by omega, by omega, by omega⟩
  rw [h1, drop_cons s k hk, endsGo, if_neg]
  rw [hw, drop_cons s (k + 1) (by omega)]; simp
theorem endsRel_end {s : ByteArray} {m k : Nat} {out : List Int} (h : EndsRel s m k out) (hk : ¬ k < s.size) : out = endsGo s.data.toList 0 0 := by
  rw [h.1, drop_end s k hk, endsGo, List.append_nil]
theorem endsRel_bd {s : ByteArray} {m k : Nat} {out : List Int} (h : EndsRel s m k out) : m ≤ k ∧ m ≤ 5 ∧ out.length ≤ k := h.2
/-! ### where chunks lie -/
/-- The ends l ascend, from a on, to at most b. -/
def Asc (a b : Int) : List Int → Prop
  | [] => a ≤ b
  | e :: r => a < e ∧ Asc e b r
theorem Asc.le {a b : Int} {l : List Int} (h : Asc a b l) : a ≤ b := by
  induction l generalizing a with
  | nil => exact h
  | cons e r ih => have := ih h.2; have := h.1; omega
theorem endsGo_asc : ∀ (l : List UInt8) (k m : Nat) (a : Int), a ≤ k → Asc a (k + l.length : Nat) (endsGo l k m)
  | [], k, m, a, h => by simp only [endsGo, Asc, List.length_nil, Nat.add_zero]; exact h
  | c :: r, k, m, a, h => by
    rw [endsGo]
    have e : (k + (c :: r).length : Nat) = (k + 1) + r.length := by simp; omega
    rw [e]
    split
    · exact ⟨by omega, endsGo_asc r (k + 1) 0 _ (Int.le_refl _)⟩
    · exact endsGo_asc r (k + 1) (m + 1) a (by omega)
theorem endsB_asc (s : ByteArray) : Asc 0 s.size (endsB s) := by
  unfold endsB
  split
  · have := endsGo_asc s.data.toList 0 0 0 (by simp)
    rwa [Nat.zero_add, len_eq] at this
  · show (0 : Int) ≤ _; omega
theorem textB_bd' {s : ByteArray} (h : textB s = true) : s.size ≤ 60 := by
  rcases Nat.lt_or_ge 60 s.size with h1 | h1
  · rw [textV_long s h1] at h; cases h
  · exact h1
theorem Asc.length {a b : Int} {l : List Int} (h : Asc a b l) : (l.length : Int) ≤ b - a := by
  induction l generalizing a with
  | nil => have : a ≤ b := h; simp; omega
  | cons e r ih => have := ih h.2; have := h.1; simp; omega
theorem endsB_len (s : ByteArray) : (endsB s).length ≤ 60 := by
  cases ht : textB s
  · rw [endsB_no ht]; simp
  · have := (endsB_asc s).length
    have := textB_bd' ht
    omega
def numI (l : List Int) (k : Nat) : Int := l.getD k 0
/-- Where the chunk k begins. -/
def fromI (l : List Int) (k : Nat) : Int := if k = 0 then 0 else l.getD (k - 1) 0
theorem asc_at : ∀ {l : List Int} {a b : Int} {k : Nat}, Asc a b l → k < l.length → (if k = 0 then a else l.getD (k - 1) 0) < l.getD k 0 ∧ l.getD k 0 ≤ b ∧ a ≤ (if k = 0 then a else l.getD (k - 1) 0)
  | [], a, b, k, h, hk => by simp at hk
  | e :: r, a, b, 0, h, hk => ⟨h.1, h.2.le, by simp⟩
  | e :: r, a, b, k + 1, h, hk => by
    have ih := asc_at h.2 (k := k) (by simpa using hk)
    have h1 := h.1
    cases k with
    | zero => simp at ih ⊢; omega
    | succ k => simp at ih ⊢; omega
theorem ends_at {s : ByteArray} {k : Nat} (hk : k < (endsB s).length) : 0 ≤ fromI (endsB s) k ∧ fromI (endsB s) k < (endsB s).getD k 0 ∧ (endsB s).getD k 0 ≤ s.size := by
  have := asc_at (endsB_asc s) hk
  unfold fromI
  omega
/-- The pieces of a text between ends. -/
def piecesB (s : ByteArray) : Int → List Int → List ByteArray
  | _, [] => []
  | a, e :: r => s.extract a.toNat e.toNat :: piecesB s e r
/-- The chunks of a text. -/
def chunksB (s : ByteArray) : List ByteArray := piecesB s 0 (endsB s)
theorem pieces_len (s : ByteArray) : ∀ (l : List Int) (a : Int), (piecesB s a l).length = l.length
  | [], a => rfl
  | e :: r, a => by simp [piecesB, pieces_len s r e]
theorem pieces_at (s : ByteArray) : ∀ (l : List Int) (a : Int) (k : Nat), k < l.length → (piecesB s a l)[k]? = some (s.extract (if k = 0 then a else l.getD (k - 1) 0).toNat (l.getD k 0).toNat)
  | [], a, k, h => by simp at h
  | e :: r, a, 0, h => by simp [piecesB]
  | e :: r, a, k + 1, h => by
    rw [piecesB, List.getElem?_cons_succ, pieces_at s r e k (by simpa using h)]
    cases k <;> simp
theorem chunks_len (s : ByteArray) : (chunksB s).length = (endsB s).length := pieces_len s _ _
theorem chunks_at {s : ByteArray} {k : Nat} (hk : k < (endsB s).length) : (chunksB s)[k]? = some (s.extract (fromI (endsB s) k).toNat ((endsB s).getD k 0).toNat) := pieces_at s _ 0 k hk
theorem chunks_snoc {s : ByteArray} {k : Nat} (hk : k < (endsB s).length) : (chunksB s).take (k + 1) = (chunksB s).take k ++ [s.extract (fromI (endsB s) k).toNat ((endsB s).getD k 0).toNat] := by
  have h := chunks_at hk
  obtain ⟨h1, h2⟩ := List.getElem?_eq_some_iff.1 h
  rw [List.take_succ_eq_append_getElem h1, h2]
theorem chunks_end {s : ByteArray} {k : Nat} (hk : ¬ k < (endsB s).length) : (chunksB s).take k = chunksB s := List.take_of_length_le (by rw [chunks_len]; omega)
theorem fromI_succ (l : List Int) (k : Nat) : fromI l (k + 1) = l.getD k 0 := by unfold fromI; simp
/-! ### joined -/
def joinB (l : List ByteArray) : ByteArray := l.foldl (· ++ ·) ByteArray.empty
theorem joinB_snoc (l : List ByteArray) (t : ByteArray) : joinB (l ++ [t]) = joinB l ++ t := by unfold joinB; rw [List.foldl_append]; rfl
theorem join_from (l : List ByteArray) : ∀ a : ByteArray, l.foldl (· ++ ·) a = a ++ joinB l := by
  induction l with
  | nil => intro a; simp [joinB]
  | cons b l ih =>
    intro a
    have h : joinB (b :: l) = l.foldl (· ++ ·) (ByteArray.empty ++ b) := rfl
    rw [List.foldl_cons, ih, h, ih, ByteArray.append_assoc]
    simp
theorem joinB_cons (b : ByteArray) (l : List ByteArray) : joinB (b :: l) = b ++ joinB l := by
  have h : joinB (b :: l) = l.foldl (· ++ ·) (ByteArray.empty ++ b) := rfl
  rw [h, join_from]; simp
theorem joinB_split (l : List ByteArray) (k : Nat) : joinB l = joinB (l.take k) ++ joinB (l.drop k) := by
  have h : joinB l = joinB (l.take k ++ l.drop k) := by rw [List.take_append_drop]
  rw [h]; unfold joinB; rw [List.foldl_append, join_from]; rfl
/-- The texts joined, if that is a text. -/
def joinedB (l : List ByteArray) : ByteArray := if textB (joinB l) = true then joinB l else ByteArray.empty
def joinOkB (l : List ByteArray) : Bool := textB (joinB l)
theorem joined_long {l : List ByteArray} (k : Nat) (h : 60 < (joinB (l.take k)).size) : textB (joinB l) = false := by
  refine textV_long _ ?_
  rw [joinB_split l k, ByteArray.size_append]; omega
end Go.Proofs.YtigegjgkjahhaaaGreatDoor
/-
  Contracts of chapter 3: chunks.
-/
namespace Go.Proofs.YtigegjgkjahhaaaGreatDoor
open Go.RowKit
set_option linter.unusedVariables false
/-- The last byte of a chunk tells whether it is whole. -/
def wholeB (t : ByteArray) (h : t.size - 1 < t.size) : Bool := whole t[t.size - 1] t.size
theorem wholeB_eq (t : ByteArray) (h : t.size - 1 < t.size) : wholeB t h = whole t[t.size - 1] t.size := rfl
/-- A part of a text that ends behind its byte k. -/
theorem whole_part (s : ByteArray) (b k : Nat) (hb : b ≤ k) (hk : k < s.size) (h : (s.extract b (k + 1)).size - 1 < (s.extract b (k + 1)).size) : wholeB (s.extract b (k + 1)) h = whole s[k] (k - b + 1) := by
  have hz : (s.extract b (k + 1)).size = k - b + 1 := by rw [ByteArray.size_extract]; omega
  unfold wholeB
  rw [ByteArray.getElem_extract]
  congr 1
  congr 1
  omega
theorem part_size (s : ByteArray) (b k : Nat) (hb : b ≤ k) (hk : k < s.size) : (s.extract b (k + 1)).size = k - b + 1 := by rw [ByteArray.size_extract]; omega
end Go.Proofs.YtigegjgkjahhaaaGreatDoor
/-
  Contracts of chapter 3: the chunks themselves, and their prints.
-/
namespace Go.Proofs.YtigegjgkjahhaaaGreatDoor
open Go.RowKit
set_option linter.unusedVariables false
theorem clone_any (s : ByteArray) (w : World) (hs : s.size ≤ 1000000) : Calls Tryz.prog 92 #[.string s] w fun e w' => e = .returned (.string s) ∧ Below w.heap.size w w' := by
  go_enter Tryz.func92, Tryz.ntmps92
  go_wp2_with (go_at_call 110; refine (Tryz.stringslite_Clone s _ (by omega)).mono ?_; rintro e w' ⟨rfl, hb⟩; have HB := Lib.hid hb; clear hb)
  go_ret
  exact ⟨rfl, HB.out⟩
/-- Where a chunk lies, as numbers. -/
theorem ends_nat {s : ByteArray} {k : Nat} (hk : k < (endsB s).length) : ∃ a b : Nat, fromI (endsB s) k = a ∧ nthI (endsB s) k = b ∧ a < b ∧ b ≤ s.size ∧ (chunksB s).take (k + 1) = (chunksB s).take k ++ [s.extract a b] ∧ s.size ≤ 60 := by
  obtain ⟨h1, h2, h3⟩ := ends_at hk
  have h4 := chunks_snoc hk
  unfold nthI
  refine ⟨_, _, (Int.toNat_of_nonneg h1).symm, (Int.toNat_of_nonneg (by omega)).symm, by omega, by omega, h4, ?_⟩
  cases ht : textB s
  · rw [endsB_no ht] at hk; simp at hk
  · exact textB_bd' ht
theorem chunks_count (s : ByteArray) : (chunksB s).length ≤ 60 := by rw [chunks_len]; exact endsB_len s
end Go.Proofs.YtigegjgkjahhaaaGreatDoor
