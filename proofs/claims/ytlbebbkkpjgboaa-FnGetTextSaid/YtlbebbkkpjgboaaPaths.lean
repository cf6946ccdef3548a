/-
  Chapter 8's model: paths.
-/
import Derived.Test.YtlbebbkkpjgboaaMarks
import Derived.Test.YtlbebbkkpjgboaaWords
import Derived.Test.YtlbebbkkpjgboaaPlain3
import Derived.WalkSpells
import Derived.RegionTactic
namespace Go.Proofs.Ytlbebbkkpjgboaa
open Go.RowKit
set_option linter.unusedVariables false
def slashB (p : ByteArray) : ByteArray := ⟨#[47]⟩ ++ p
def slashed (l : List ByteArray) : ByteArray := joinB (l.map slashB)
/-- The path of words. -/
def pathB (l : List ByteArray) : ByteArray := if l = [] then ⟨#[47]⟩ else if (l.all wordB && decide (l.length ≤ 3)) = true then slashed l else ByteArray.empty
theorem slashed_snoc {l : List ByteArray} {k : Nat} (h : k < l.length) : slashed (l.take (k + 1)) = slashed (l.take k) ++ ⟨#[47]⟩ ++ nthS l k := by
  unfold slashed; rw [take_snocS h, List.map_append]
  show joinB (_ ++ [slashB (nthS l k)]) = _
  rw [joinB_snoc, slashB, ByteArray.append_assoc]
theorem pathB_nil : pathB [] = ⟨#[47]⟩ := rfl
theorem pathB_bad {l : List ByteArray} {k : Nat} (hk : k < l.length) (h : wordB (nthS l k) = false) : pathB l = ByteArray.empty := by
  unfold pathB
  have h0 : l ≠ [] := by intro e; subst e; simp at hk
  have : l.all wordB = false := List.all_eq_false.2 ⟨nthS l k, by rw [nthS_get hk]; exact List.getElem_mem _, by rw [h]; simp⟩
  rw [if_neg h0, this]; rfl
theorem pathB_long {l : List ByteArray} (h : 3 < l.length) : pathB l = ByteArray.empty := by
  unfold pathB
  have h0 : l ≠ [] := by intro e; subst e; simp at h
  rw [if_neg h0, show decide (l.length ≤ 3) = false by simp; omega, Bool.and_false]; rfl
theorem pathB_end {l : List ByteArray} (h0 : l ≠ []) (h : ∀ k, k < l.length → wordB (nthS l k) = true) (h3 : l.length ≤ 3) : pathB l = slashed l := by
  unfold pathB
  have : l.all wordB = true := List.all_eq_true.2 fun x hx => by
    obtain ⟨k, hk, rfl⟩ := List.mem_iff_getElem.1 hx
    have := h k hk; rwa [nthS_get hk] at this
  rw [if_neg h0, this, show decide (l.length ≤ 3) = true by simpa using h3]; rfl
theorem word_size {s : ByteArray} (h : wordB s = true) : s.size ≤ 8 := by
  rcases Nat.lt_or_ge 8 s.size with h1 | h1
  · have := wordV_long s h1
    unfold wordB at h; rw [this] at h; cases h
  · exact h1
theorem slashed_pos {l : List ByteArray} {k : Nat} (h : k < l.length) : 0 < (slashed (l.take (k + 1))).size := by
  rw [slashed_snoc h, ByteArray.size_append, ByteArray.size_append]
  have : (ByteArray.mk #[47]).size = 1 := rfl
  omega
theorem specJoinPath_any (x : Option Addr) (n cap : Nat) (l : List ByteArray) (B : Nat) (w : World) (h : Strs w B x n cap l) (hz : ∀ k, (nthS l k).size ≤ maxLen) :
    Calls Try.prog 81 #[.slice x n cap] w fun e w' => e = .returned (.string (pathB l)) ∧ w = w' := by
  have HL := Lib.hid h.len
  have HH := Lib.hid h
  have HZ := Lib.hid hz
  have hmx := h.max
  have hle := h.le
  clear h hz
  unfold maxLen at hmx
  go_enter Try.func81, Try.ntmps81
  go_wp2
  go_loop [3, 4] (fun t i => ∃ k : Nat, k ≤ n ∧ i = .int .i64 k ∧ t = .string (slashed (l.take k)) ∧ (∀ j, j < k → wordB (nthS l j) = true) ∧ (0 < k → n ≤ 3) ∧ (slashed (l.take k)).size ≤ 9 * k) (fun _ i => n - (intOf i).toNat)
  case atStart => exact ⟨0, by omega, rfl, rfl, fun j hj => by omega, by omega, by simp [slashed, joinB]⟩
  case round =>
    obtain ⟨k, hk, rfl, rfl, ha, h3, hs⟩ := hrel
    have HA := Lib.hid ha; clear ha
    by_cases hlt : k < n
    · have hkl : k < l.length := by have := HL.out; omega
      obtain ⟨b, off, rfl, hb, hcell⟩ := HH.out.atS hlt
      have hzk := HZ.out k
      cases hw : wordB (nthS l k)
      · have HF := Lib.hid (pathB_bad hkl hw)
        go_wp2_with (go_at_call 80; refine (specWordValid_any _ _ hzk).mono ?_; rintro e w' ⟨rfl, rfl⟩)
        go_ret
        exact ⟨ret_str HF.out.symm, rfl⟩
      · by_cases hn3 : 3 < n
        · have HF := Lib.hid (pathB_long (l := l) (by have := HL.out; omega))
          go_wp2_with (go_at_call 80; refine (specWordValid_any _ _ hzk).mono ?_; rintro e w' ⟨rfl, rfl⟩)
          go_ret
          exact ⟨ret_str HF.out.symm, rfl⟩
        · have hw8 := word_size hw
          have HT := Lib.hid (slashed_snoc hkl)
          have HW := Lib.hid hw
          have h1 : (slashed (l.take k) ++ ⟨#[47]⟩ : ByteArray).size = (slashed (l.take k)).size + 1 := by rw [ByteArray.size_append]; rfl
          have HS := Lib.hid (show (slashed (l.take (k + 1))).size ≤ 9 * (k + 1) by rw [HT.out, ByteArray.size_append, h1]; omega)
          have H1 := Lib.hid h1
          have hb1 : (slashed (l.take k) ++ ⟨#[47]⟩ : ByteArray).size ≤ 9 * k + 1 := by omega
          clear h1
          go_wp2_with (go_at_call 80; refine (specWordValid_any _ _ hzk).mono ?_; rintro e w' ⟨rfl, rfl⟩)
          go_round
          case rel => exact ⟨k + 1, by omega, by go_num, by rw [HT.out], fun j hj => by rcases Nat.lt_succ_iff_lt_or_eq.1 hj with h | rfl; exact HA.out j h; exact HW.out, by omega, HS.out⟩
          case measure => simp [intOf]; omega
    · have e : l.take k = l := List.take_of_length_le (by have := HL.out; omega)
      by_cases h0 : k = 0
      · have hl : l = [] := List.eq_nil_of_length_eq_zero (by have := HL.out; omega)
        have HF := Lib.hid (show pathB l = ⟨#[47]⟩ by rw [hl]; rfl)
        have he : (slashed (l.take k)).toList.isEmpty = true := by rw [hl, List.take_nil, ByteArray.toList_eq]; rfl
        clear e hl h0
        go_wp2
        go_ret
        exact ⟨ret_str HF.out.symm, rfl⟩
      · have HF := Lib.hid (pathB_end (l := l) (by intro e; have := HL.out; rw [e] at this; simp at this; omega) (fun j hj => HA.out j (by have := HL.out; omega)) (by have := HL.out; omega))
        have hp := slashed_pos (l := l) (k := k - 1) (by have := HL.out; omega)
        rw [show k - 1 + 1 = k by omega] at hp
        have he : (slashed (l.take k)).toList.isEmpty = false := by rw [ByteArray.toList_eq, List.isEmpty_eq_false_iff, ← List.length_pos_iff, len_eq]; exact hp
        have HE := Lib.hid e
        clear e
        go_wp2
        go_ret
        exact ⟨ret_str (by rw [HF.out, HE.out]), rfl⟩
end Go.Proofs.Ytlbebbkkpjgboaa
