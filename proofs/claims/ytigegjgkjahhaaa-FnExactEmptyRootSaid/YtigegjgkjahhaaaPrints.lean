/-
  Chapter 2: prints. Plain functions and the contracts.
-/
import Derived.Test.YtigegjgkjahhaaaMem
import Derived.Test.YtigegjgkjahhaaaWords
import Derived.Test.YtigegjgkjahhaaaDraw0
import Derived.Maps.AppendAt
namespace Go.Proofs.Ytigegjgkjahhaaa
open Go.RowKit
set_option linter.unusedVariables false
def isPr (n : Int) : Bool := decide (0 ≤ n ∧ n ≤ 16777212)
def pairB (a b : Int) : Int := if isPr a && isPr b then (7919 * a + 104729 * b + 3) % 16777213 else -1
def stepB (n : Int) (c : UInt8) : Int := (257 * n + (c.toNat : Int)) % 16777213
def sumB (l : List UInt8) : Int := l.foldl stepB 1
/-- The print of a text. -/
def printB (s : ByteArray) : Int := if textB s = true then sumB s.data.toList else -1
/-- The print of a list. -/
def listB (l : List Int) : Int := if l.length ≤ 20 then l.foldl pairB 5 else -1
theorem isPr_yes {n : Int} (h : 0 ≤ n) (h' : n ≤ 16777212) : isPr n = true := by unfold isPr; simp [h, h']
theorem isPr_no {n : Int} (h : n < 0 ∨ 16777212 < n) : isPr n = false := by unfold isPr; simp; omega
theorem isPr_bd {n : Int} (h : isPr n = true) : 0 ≤ n ∧ n ≤ 16777212 := by unfold isPr at h; simpa using h
theorem in3_isPr (n : Int) : in3 n 0 16777212 = isPr n := rfl
theorem sumB_snoc (l : List UInt8) (c : UInt8) : sumB (l ++ [c]) = stepB (sumB l) c := by unfold sumB; rw [List.foldl_append]; rfl
theorem stepB_bd (n : Int) (c : UInt8) : 0 ≤ stepB n c ∧ stepB n c ≤ 16777212 := by unfold stepB; omega
theorem sumB_bd (l : List UInt8) : 0 ≤ sumB l ∧ sumB l ≤ 16777212 := by
  rcases List.eq_nil_or_concat l with rfl | ⟨l', c, rfl⟩
  · unfold sumB; simp
  · rw [List.concat_eq_append, sumB_snoc]; exact stepB_bd _ _
theorem printB_bd (s : ByteArray) : -1 ≤ printB s ∧ printB s ≤ 16777212 := by
  unfold printB; have := sumB_bd s.data.toList; split <;> omega
theorem pairB_bd (a b : Int) : -1 ≤ pairB a b ∧ pairB a b ≤ 16777212 := by unfold pairB; split <;> omega
theorem pairB_yes {a b : Int} (h : isPr a = true) (h' : isPr b = true) : pairB a b = (7919 * a + 104729 * b + 3) % 16777213 := by unfold pairB; simp [h, h']
theorem pairB_no1 {a : Int} (b : Int) (h : isPr a = false) : pairB a b = -1 := by unfold pairB; simp [h]
theorem pairB_no2 (a : Int) {b : Int} (h : isPr b = false) : pairB a b = -1 := by unfold pairB; simp [h]
theorem pairB_isPr {a b : Int} (h : isPr a = true) (h' : isPr b = true) : isPr (pairB a b) = true := by rw [pairB_yes h h']; exact isPr_yes (by omega) (by omega)
theorem fold_bad (l : List Int) : l.foldl pairB (-1) = -1 := by
  induction l with
  | nil => rfl
  | cons a l ih => rw [List.foldl_cons, pairB_no1 a (by decide)]; exact ih
theorem fold_bd (l : List Int) : ∀ a : Int, -1 ≤ a → a ≤ 16777212 → -1 ≤ l.foldl pairB a ∧ l.foldl pairB a ≤ 16777212 := by
  induction l with
  | nil => intro a h h'; exact ⟨h, h'⟩
  | cons b l ih => intro a _ _; rw [List.foldl_cons]; have := pairB_bd a b; exact ih _ this.1 this.2
theorem listB_bd (l : List Int) : -1 ≤ listB l ∧ listB l ≤ 16777212 := by
  unfold listB; split
  · exact fold_bd l 5 (by omega) (by omega)
  · omega
theorem takeI_snoc {l : List Int} {k : Nat} (h : k < l.length) : l.take (k + 1) = l.take k ++ [nthI l k] := by
  rw [List.take_succ_eq_append_getElem h, nthI_get h]
theorem fold_snoc {l : List Int} {k : Nat} (h : k < l.length) (a : Int) : (l.take (k + 1)).foldl pairB a = pairB ((l.take k).foldl pairB a) (nthI l k) := by
  rw [takeI_snoc h, List.foldl_append]; rfl
theorem fold_split (l : List Int) (k : Nat) (a : Int) : l.foldl pairB a = (l.drop k).foldl pairB ((l.take k).foldl pairB a) := by
  rw [← List.foldl_append, List.take_append_drop]
/-! ### contracts -/
theorem isPrint_any (n : Int) (w : World) : Calls Try.prog 37 #[.int .i64 n] w fun e w' => e = .returned (.bool (isPr n)) ∧ w = w' := by
  by_cases h1 : 0 ≤ n
  · by_cases h2 : n ≤ 16777212
    · have HF := Lib.hid (isPr_yes h1 h2)
      go_enter Try.func37, Try.ntmps37
      go_wp2
      go_ret
      exact ⟨ret_bool HF.out.symm, rfl⟩
    · have HF := Lib.hid (isPr_no (n := n) (by omega))
      go_enter Try.func37, Try.ntmps37
      go_wp2
      go_ret
      exact ⟨ret_bool HF.out.symm, rfl⟩
  · have HF := Lib.hid (isPr_no (n := n) (by omega))
    go_enter Try.func37, Try.ntmps37
    go_wp2
    go_ret
    exact ⟨ret_bool HF.out.symm, rfl⟩
theorem printOf_any (s : ByteArray) (w : World) (hs : s.size ≤ maxLen) : Calls Try.prog 26 #[.string s] w fun e w' => e = .returned (.int .i64 (printB s)) ∧ w = w' := by
  have hs' := hs
  unfold maxLen at hs'
  cases ht : textB s
  · have HF := Lib.hid (show printB s = -1 by unfold printB; rw [ht]; rfl)
    go_enter Try.func26, Try.ntmps26
    go_wp2_with (go_at_call 25; refine (textValid_any _ _ hs).mono ?_; rintro e w' ⟨rfl, rfl⟩)
    go_ret
    exact ⟨ret_int HF.out.symm, rfl⟩
  · have HF := Lib.hid (show printB s = sumB s.data.toList by unfold printB; rw [ht]; rfl)
    go_enter Try.func26, Try.ntmps26
    go_wp2_with (go_at_call 25; refine (textValid_any _ _ hs).mono ?_; rintro e w' ⟨rfl, rfl⟩)
    go_loop [3, 4] (fun n i => ∃ k : Nat, k ≤ s.size ∧ i = .int .i64 k ∧ n = .int .i64 (sumB (s.data.toList.take k))) (fun _ i => s.size - (intOf i).toNat)
    case atStart => exact ⟨0, by omega, rfl, rfl⟩
    case round =>
      obtain ⟨k, hk, rfl, rfl⟩ := hrel
      obtain ⟨b0, b1⟩ := sumB_bd (s.data.toList.take k)
      by_cases hlt : k < s.size
      · have HV := Lib.hid (show sumB (s.data.toList.take (k + 1)) = stepB (sumB (s.data.toList.take k)) s[k] by rw [take_snoc s k hlt, sumB_snoc])
        have hc0 : (0 : Int) ≤ ((s[k]).toNat : Int) := by omega
        have hc1 : ((s[k]).toNat : Int) ≤ 255 := by have := (s[k]).toNat_lt; omega
        go_wp2
        go_round
        case rel => exact ⟨k + 1, by omega, by go_num, by rw [HV.out]; rfl⟩
        case measure => simp [intOf]; omega
      · have HE := Lib.hid (all_end s k hlt)
        go_wp2
        go_ret
        exact ⟨ret_int (by rw [HF.out, HE.out]), rfl⟩
theorem specPrintOf_any (s : ByteArray) (w : World) (hs : s.size ≤ maxLen) : Calls Try.prog 20 #[.string s] w fun e w' => e = .returned (.int .i64 (printB s)) ∧ w = w' := by
  have hs' := hs
  unfold maxLen at hs'
  cases ht : textB s
  · have HF := Lib.hid (show printB s = -1 by unfold printB; rw [ht]; rfl)
    go_enter Try.func20, Try.ntmps20
    go_wp2_with (go_at_call 30; refine (specTextValid_any _ _ hs).mono ?_; rintro e w' ⟨rfl, rfl⟩)
    go_ret
    exact ⟨ret_int HF.out.symm, rfl⟩
  · have HF := Lib.hid (show printB s = sumB s.data.toList by unfold printB; rw [ht]; rfl)
    go_enter Try.func20, Try.ntmps20
    go_wp2_with (go_at_call 30; refine (specTextValid_any _ _ hs).mono ?_; rintro e w' ⟨rfl, rfl⟩)
    go_loop [3, 4] (fun n i => ∃ k : Nat, k ≤ s.size ∧ i = .int .i64 k ∧ n = .int .i64 (sumB (s.data.toList.take k))) (fun _ i => s.size - (intOf i).toNat)
    case atStart => exact ⟨0, by omega, rfl, rfl⟩
    case round =>
      obtain ⟨k, hk, rfl, rfl⟩ := hrel
      obtain ⟨b0, b1⟩ := sumB_bd (s.data.toList.take k)
      by_cases hlt : k < s.size
      · have HV := Lib.hid (show sumB (s.data.toList.take (k + 1)) = stepB (sumB (s.data.toList.take k)) s[k] by rw [take_snoc s k hlt, sumB_snoc])
        have hc0 : (0 : Int) ≤ ((s[k]).toNat : Int) := by omega
        have hc1 : ((s[k]).toNat : Int) ≤ 255 := by have := (s[k]).toNat_lt; omega
        go_wp2
        go_round
        case rel => exact ⟨k + 1, by omega, by go_num, by rw [HV.out]; rfl⟩
        case measure => simp [intOf]; omega
      · have HE := Lib.hid (all_end s k hlt)
        go_wp2
        go_ret
        exact ⟨ret_int (by rw [HF.out, HE.out]), rfl⟩
end Go.Proofs.Ytigegjgkjahhaaa
/-
  Draws of chapter 2.
-/
namespace Go.Proofs.Ytigegjgkjahhaaa
open Go.RowKit
set_option linter.unusedVariables false
/-- Two drawn numbers, at the law. -/
def IntOut2 (lo hi : Int) (w : World) (e : Ending) (w' : World) : Prop := ∃ a b : Int, e = .returned (.tuple #[.int .i64 a, .int .i64 b]) ∧ (lo ≤ a ∧ a ≤ hi) ∧ (lo ≤ b ∧ b ≤ hi) ∧ Below w.heap.size w w'
theorem own_kept {w w' : World} {base r : Nat} {v : Value} {l : List Int} (h : OwnI w base v l) (hg : w.grownBy w' (some r)) (hr : r < base) : OwnI w' base v l :=
  World.ownsRow.kept h hg (by
    rcases hv : v.ownBlock with _ | k
    · exact .inl rfl
    · right; intro e; injection e with e; have := own_at h hv; omega)
/-- Drawn numbers, at the law. -/
def IntsOut (m : Nat) (w : World) (e : Ending) (w' : World) : Prop := ∃ (v : Value) (l : List Int), e = .returned v ∧ l.length ≤ m ∧ OwnI w' w.heap.size v l ∧ Below w.heap.size w w'
end Go.Proofs.Ytigegjgkjahhaaa
