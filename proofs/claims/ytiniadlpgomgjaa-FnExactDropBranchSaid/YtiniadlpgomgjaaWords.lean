/-
  Plain functions of chapter 1 (words, texts, hexadecimal numbers), and their laws; nothing of the program is imported.
-/
import Derived.WalkKit
import Derived.Lib.Bytealg
import Derived.Test.YtiniadlpgomgjaaRows
import Derived.Lib.Hide
import Derived.WalkSpells
namespace Go.Proofs.Ytiniadlpgomgjaa
def low (n : Int) : Bool := decide (97 ≤ n ∧ n ≤ 122)
def dgt (n : Int) : Bool := decide (48 ≤ n ∧ n ≤ 57)
def wtail (c : UInt8) : Bool := low (c.toNat : Int) || dgt (c.toNat : Int)
def whead (l : List UInt8) : Bool := match l with | [] => false | c :: _ => low (c.toNat : Int)
/-- A word. -/
def wordV (l : List UInt8) : Bool := decide (l.length ≤ 8) && whead l && l.all wtail
def txt (c : UInt8) : Bool := decide (32 ≤ (c.toNat : Int) ∧ (c.toNat : Int) ≤ 126)
/-- A text. -/
def textV (l : List UInt8) : Bool := decide (l.length ≤ 60) && l.all txt
/-- n in lo..hi. -/
def in3 (n lo hi : Int) : Bool := decide (lo ≤ n ∧ n ≤ hi)
theorem in3_yes {n lo hi : Int} (h : lo ≤ n) (h' : n ≤ hi) : in3 n lo hi = true := by unfold in3; simp [h, h']
theorem in3_lo {n lo hi : Int} (h : ¬ lo ≤ n) : in3 n lo hi = false := by unfold in3; simp; omega
theorem in3_hi {n lo hi : Int} (h : ¬ n ≤ hi) : in3 n lo hi = false := by unfold in3; simp; omega
def wordB (s : ByteArray) : Bool := wordV s.data.toList
def textB (s : ByteArray) : Bool := textV s.data.toList
theorem ret_bool {a b : Bool} (h : a = b) : Ending.returned (.bool a) = .returned (.bool b) := by rw [h]
theorem ret_int {k : IntKind} {a b : Int} (h : a = b) : Ending.returned (.int k a) = .returned (.int k b) := by rw [h]
theorem ret_str {a b : ByteArray} (h : a = b) : Ending.returned (.string a) = .returned (.string b) := by rw [h]
theorem toList_inj' {a b : ByteArray} (h : a.toList = b.toList) : a = b := by
  rw [ByteArray.toList_eq, ByteArray.toList_eq] at h
  cases a; cases b; congr 1; exact Array.toList_inj.1 h
theorem str_beq (a b : ByteArray) : (a.toList == b.toList) = decide (a = b) := by
  by_cases h : a = b
  · subst h; simp
  · have : a.toList ≠ b.toList := fun h' => h (toList_inj' h')
    simp [h, this]
theorem take_snoc (s : ByteArray) (k : Nat) (h : k < s.size) : s.data.toList.take (k + 1) = s.data.toList.take k ++ [s[k]] := by
  rw [List.take_succ_eq_append_getElem (by simpa using h)]; rfl
theorem all_snoc (s : ByteArray) (p : UInt8 → Bool) (k : Nat) (h : k < s.size) : (s.data.toList.take (k + 1)).all p = ((s.data.toList.take k).all p && p s[k]) := by
  rw [take_snoc s k h, List.all_append]; simp
theorem all_false_of (s : ByteArray) (p : UInt8 → Bool) (k : Nat) (h : k < s.size) (hp : p s[k] = false) : s.data.toList.all p = false := by
  rw [List.all_eq_false]
  exact ⟨s[k], Array.mem_toList_iff.2 (Array.getElem_mem (xs := s.data) h), by simp [hp]⟩
theorem all_end (s : ByteArray) (k : Nat) (h : ¬ k < s.size) : s.data.toList.take k = s.data.toList :=
  List.take_of_length_le (by simp; omega)
theorem len_eq (s : ByteArray) : s.data.toList.length = s.size := by simp
theorem wordV_nil (s : ByteArray) (h : s.size < 1) : wordV s.data.toList = false := by
  have h0 : s.data.toList = [] := List.length_eq_zero_iff.1 (by rw [len_eq]; omega)
  rw [h0]; rfl
theorem wordV_long (s : ByteArray) (h : 8 < s.size) : wordV s.data.toList = false := by
  have : ¬ s.data.toList.length ≤ 8 := by simp; omega
  unfold wordV; simp only [this]; rfl
theorem whead_eq (s : ByteArray) (h : 0 < s.size) : whead s.data.toList = low ((s[0]).toNat : Int) := by
  have e : s.data.toList = s[0] :: s.data.toList.tail := by
    have h1 : s.data.toList ≠ [] := by intro h2; rw [← len_eq, h2] at h; simp at h
    obtain ⟨c, r, hc⟩ := List.exists_cons_of_ne_nil h1
    have : s[0] = c := by
      have h2 : s.data.toList[0]'(by rw [hc]; simp) = c := by simp [hc]
      rw [← h2]; rfl
    rw [this, hc]; rfl
  rw [e]; rfl
theorem wordV_head (s : ByteArray) (h : 0 < s.size) (h1 : low ((s[0]).toNat : Int) = false) : wordV s.data.toList = false := by
  unfold wordV; rw [whead_eq s h, h1]; simp
theorem wordV_of (s : ByteArray) (h : 0 < s.size) (h8 : s.size ≤ 8) (h1 : low ((s[0]).toNat : Int) = true) : wordV s.data.toList = s.data.toList.all wtail := by
  unfold wordV; rw [whead_eq s h, h1]
  have : s.data.toList.length ≤ 8 := by simpa using h8
  simp only [this]; simp
theorem wtail_low {c : UInt8} (h : low (c.toNat : Int) = true) : wtail c = true := by unfold wtail; rw [h]; rfl
theorem wtail_dgt {c : UInt8} (h : dgt (c.toNat : Int) = true) : wtail c = true := by unfold wtail; rw [h]; simp
theorem wtail_no {c : UInt8} (h : low (c.toNat : Int) = false) (h' : dgt (c.toNat : Int) = false) : wtail c = false := by unfold wtail; rw [h, h']; rfl
theorem all_one (s : ByteArray) (p : UInt8 → Bool) (h : 0 < s.size) : (s.data.toList.take 1).all p = p s[0] := by
  rw [all_snoc s p 0 h]; simp
theorem wordV_first (s : ByteArray) (h : 0 < s.size) (h1 : low ((s[0]).toNat : Int) = false) : wordB s = false := wordV_head s h h1
theorem wordV_at (s : ByteArray) (k : Nat) (h : k < s.size) (h1 : low ((s[k]).toNat : Int) = false) (h2 : dgt ((s[k]).toNat : Int) = false) : wordB s = false := by
  unfold wordB wordV; rw [all_false_of s wtail k h (wtail_no h1 h2)]; simp
theorem wordV_end (s : ByteArray) (k : Nat) (hk : ¬ k < s.size) (h : (s.data.toList.take k).all wtail = true) (h0 : 0 < k → k ≤ s.size → whead s.data.toList = true) (hk' : k ≤ s.size) :
    wordB s = in3 s.size 1 8 := by
  rw [all_end s k hk] at h
  unfold wordB in3
  by_cases h1 : s.size < 1
  · rw [wordV_nil s h1]; symm; simp; omega
  by_cases h8 : 8 < s.size
  · rw [wordV_long s h8]; symm; simp; omega
  · unfold wordV; rw [h, h0 (by omega) hk', len_eq]; rw [Bool.eq_iff_iff]; simp; omega
theorem low_yes {n : Int} (h : 97 ≤ n) (h' : n ≤ 122) : low n = true := by unfold low; simp [h, h']
theorem low_no {n : Int} (h : ¬ (97 ≤ n ∧ n ≤ 122)) : low n = false := by unfold low; simp; omega
theorem dgt_yes {n : Int} (h : ¬ n < 48) (h' : ¬ 57 < n) : dgt n = true := by unfold dgt; simp; omega
theorem dgt_no {n : Int} (h : n < 48 ∨ 57 < n) : dgt n = false := by unfold dgt; simp; omega
/-! ### hexadecimal numbers -/
def hexDigits : ByteArray := ⟨#[48, 49, 50, 51, 52, 53, 54, 55, 56, 57, 97, 98, 99, 100, 101, 102]⟩
def digB (m : Nat) : ByteArray := hexDigits.extract (m % 16) (m % 16 + 1)
def hexGo : Nat → Nat → ByteArray → ByteArray
  | 0, _, t => t
  | f + 1, m, t => if 16 ≤ m then hexGo f (m / 16) (digB (m / 16) ++ t) else t
/-- The number as a text. -/
def hexB (n : Int) : ByteArray := if 0 ≤ n ∧ n ≤ 16777212 then hexGo 7 n.toNat (digB n.toNat) else ByteArray.empty
/-- A digit's value; -1 for another byte. -/
def digV (c : UInt8) : Int := Lib.indexByte hexDigits.data.toList c
def valFrom (a : Int) (l : List UInt8) : Int := l.foldl (fun n c => 16 * n + digV c) a
def valL (l : List UInt8) : Int := valFrom 0 l
def hexOk (c : UInt8) : Bool := decide (0 ≤ digV c)
/-- The number whose text it is; -1 if there is none. -/
def readB (s : ByteArray) : Int :=
  if s.data.toList.all hexOk = true ∧ 0 ≤ valL s.data.toList ∧ valL s.data.toList ≤ 16777212 ∧ hexB (valL s.data.toList) = s then valL s.data.toList else -1
end Go.Proofs.Ytiniadlpgomgjaa
/-
  Contracts of chapter 1.
-/
namespace Go.Proofs.Ytiniadlpgomgjaa
open Go.RowKit
theorem low_any (n : Int) (w : World) : Calls Try.prog 48 #[.int .u8 n] w fun e w' => e = .returned (.bool (low n)) ∧ w = w' := by
  by_cases h1 : 97 ≤ n
  · by_cases h2 : n ≤ 122
    all_goals
      first | (have : low n = true := by unfold low; simp [h1, h2]) | (have : low n = false := by unfold low; simp [h1, h2])
      rw [this]; clear this
      go_enter Try.func48, Try.ntmps48
      go_wp2
      go_ret
      exact ⟨rfl, rfl⟩
  · have : low n = false := by unfold low; simp [h1]
    rw [this]; clear this
    go_enter Try.func48, Try.ntmps48
    go_wp2
    go_ret
    exact ⟨rfl, rfl⟩
theorem dgt_any (n : Int) (w : World) : Calls Try.prog 49 #[.int .u8 n] w fun e w' => e = .returned (.bool (dgt n)) ∧ w = w' := by
  by_cases h1 : 48 ≤ n
  · by_cases h2 : n ≤ 57
    all_goals
      first | (have : dgt n = true := by unfold dgt; simp [h1, h2]) | (have : dgt n = false := by unfold dgt; simp [h1, h2])
      rw [this]; clear this
      go_enter Try.func49, Try.ntmps49
      go_wp2
      go_ret
      exact ⟨rfl, rfl⟩
  · have : dgt n = false := by unfold dgt; simp [h1]
    rw [this]; clear this
    go_enter Try.func49, Try.ntmps49
    go_wp2
    go_ret
    exact ⟨rfl, rfl⟩
theorem wordValid_any (s : ByteArray) (w : World) (hs : s.size ≤ maxLen) : Calls Try.prog 35 #[.string s] w fun e w' => e = .returned (.bool (wordB s)) ∧ w = w' := by
  unfold maxLen at hs
  by_cases h1 : s.size < 1
  · have HF := Lib.hid (wordV_nil s h1)
    go_enter Try.func35, Try.ntmps35
    go_wp2
    go_ret
    exact ⟨ret_bool HF.out.symm, rfl⟩
  by_cases h8 : 8 < s.size
  · have HF := Lib.hid (wordV_long s h8)
    go_enter Try.func35, Try.ntmps35
    go_wp2
    go_ret
    exact ⟨ret_bool HF.out.symm, rfl⟩
  have h0 : 0 < s.size := by omega
  cases hl : low ((s[0]).toNat : Int)
  · have HF := Lib.hid (wordV_head s h0 hl)
    go_enter Try.func35, Try.ntmps35
    go_wp2_with (first | (go_at_call 48; refine (low_any _ _).mono ?_; rintro e w' ⟨rfl, rfl⟩))
    go_ret
    exact ⟨ret_bool HF.out.symm, rfl⟩
  have HW := Lib.hid (wordV_of s h0 (by omega) hl)
  go_enter Try.func35, Try.ntmps35
  go_wp2_with (first | (go_at_call 48; refine (low_any _ _).mono ?_; rintro e w' ⟨rfl, rfl⟩))
  go_loop [3] (fun i => ∃ k : Nat, k ≤ s.size ∧ i = .int .i64 k ∧ (s.data.toList.take k).all wtail = true) (fun i => s.size - (intOf i).toNat)
  case atStart => exact ⟨1, by omega, rfl, by rw [all_one s wtail h0]; exact wtail_low hl⟩
  case round =>
    obtain ⟨k, hk, rfl, ha⟩ := hrel
    have HA := Lib.hid ha; clear ha
    by_cases hlt : k < s.size
    · cases h3 : low ((s[k]).toNat : Int)
      · cases h4 : dgt ((s[k]).toNat : Int)
        · have HF := Lib.hid (all_false_of s wtail k hlt (wtail_no h3 h4))
          go_wp2_with (first | (go_at_call 48; refine (low_any _ _).mono ?_; rintro e w' ⟨rfl, rfl⟩) | (go_at_call 49; refine (dgt_any _ _).mono ?_; rintro e w' ⟨rfl, rfl⟩))
          go_ret
          exact ⟨ret_bool (by unfold wordB; rw [HW.out, HF.out]), rfl⟩
        · have HF := Lib.hid (wtail_dgt h4)
          go_wp2_with (first | (go_at_call 48; refine (low_any _ _).mono ?_; rintro e w' ⟨rfl, rfl⟩) | (go_at_call 49; refine (dgt_any _ _).mono ?_; rintro e w' ⟨rfl, rfl⟩))
          go_round
          case rel => exact ⟨k + 1, by omega, by go_num, by rw [all_snoc s wtail k hlt, HA.out, HF.out]; rfl⟩
          case measure => simp [intOf]; omega
      · have HF := Lib.hid (wtail_low h3)
        go_wp2_with (first | (go_at_call 48; refine (low_any _ _).mono ?_; rintro e w' ⟨rfl, rfl⟩))
        go_round
        case rel => exact ⟨k + 1, by omega, by go_num, by rw [all_snoc s wtail k hlt, HA.out, HF.out]; rfl⟩
        case measure => simp [intOf]; omega
    · have HE := Lib.hid (all_end s k hlt)
      go_wp2
      go_ret
      exact ⟨ret_bool (by unfold wordB; rw [HW.out, ← HE.out, HA.out]), rfl⟩
theorem l1In_any (n lo hi : Int) (w : World) : Calls Try.prog 36 #[.int .i64 n, .int .i64 lo, .int .i64 hi] w fun e w' => e = .returned (.bool (in3 n lo hi)) ∧ w = w' := by
  by_cases h1 : lo ≤ n
  · by_cases h2 : n ≤ hi
    · go_enter Try.func36, Try.ntmps36
      go_wp2
      go_ret
      exact ⟨ret_bool (in3_yes h1 h2).symm, rfl⟩
    · go_enter Try.func36, Try.ntmps36
      go_wp2
      go_ret
      exact ⟨ret_bool (in3_hi (by omega)).symm, rfl⟩
  · go_enter Try.func36, Try.ntmps36
    go_wp2
    go_ret
    exact ⟨ret_bool (in3_lo (by omega)).symm, rfl⟩
theorem specWordValid_any (s : ByteArray) (w : World) (hs : s.size ≤ maxLen) : Calls Try.prog 37 #[.string s] w fun e w' => e = .returned (.bool (wordB s)) ∧ w = w' := by
  unfold maxLen at hs
  go_enter Try.func37, Try.ntmps37
  go_wp2
  go_loop [3, 4] (fun i _ => ∃ k : Nat, k ≤ s.size ∧ i = .int .i64 k ∧ (s.data.toList.take k).all wtail = true ∧ (0 < k → k ≤ s.size → whead s.data.toList = true)) (fun i _ => s.size - (intOf i).toNat)
  case atStart => exact ⟨0, by omega, rfl, by simp, fun h => by omega⟩
  case round =>
    obtain ⟨k, hk, rfl, ha, hh⟩ := hrel
    have HA := Lib.hid ha; clear ha
    have HH := Lib.hid hh; clear hh
    by_cases hlt : k < s.size
    · have go : ∀ (hw : wtail s[k] = true) (hz : k = 0 → whead s.data.toList = true), ∃ k' : Nat, k' ≤ s.size ∧ (Value.int .i64 (↑k + 1) = .int .i64 ↑k') ∧ (s.data.toList.take k').all wtail = true ∧ (0 < k' → k' ≤ s.size → whead s.data.toList = true) := fun hw hz =>
        ⟨k + 1, by omega, by go_num, by rw [all_snoc s wtail k hlt, HA.out, hw]; rfl, fun _ _ => by rcases Nat.eq_zero_or_pos k with h | h; exact hz h; exact HH.out h hk⟩
      have hhd : k = 0 → whead s.data.toList = low ((s[k]).toNat : Int) := fun h => by subst h; exact whead_eq s hlt
      by_cases h3 : 97 ≤ ((s[k]).toNat : Int) ∧ ((s[k]).toNat : Int) ≤ 122
      · have HG := Lib.hid (go (wtail_low (low_yes h3.1 h3.2)) (fun h => by rw [hhd h]; exact low_yes h3.1 h3.2))
        clear go hhd
        obtain ⟨h3, h4⟩ := h3
        go_wp2
        go_round
        case rel => exact HG.out
        case measure => simp [intOf]; omega
      · have HN := Lib.hid (low_no h3)
        by_cases hk0 : k = 0
        · subst hk0
          have HF := Lib.hid (wordV_first s hlt HN.out)
          clear go hhd
          by_cases h4 : 97 ≤ ((s[0]).toNat : Int)
          · have h5 : ¬ ((s[0]).toNat : Int) ≤ 122 := fun h => h3 ⟨h4, h⟩
            clear h3
            go_wp2
            go_ret
            exact ⟨ret_bool HF.out.symm, rfl⟩
          · clear h3
            go_wp2
            go_ret
            exact ⟨ret_bool HF.out.symm, rfl⟩
        · have hk1 : 0 < k := by omega
          have hk2 : ((k : Int) == 0) = false := by simp; omega
          by_cases h5 : ((s[k]).toNat : Int) < 48
          · have HF := Lib.hid (wordV_at s k hlt HN.out (dgt_no (.inl h5)))
            clear go hhd h3 hk0
            go_wp2
            go_ret
            exact ⟨ret_bool HF.out.symm, rfl⟩
          · by_cases h6 : 57 < ((s[k]).toNat : Int)
            · have HF := Lib.hid (wordV_at s k hlt HN.out (dgt_no (.inr h6)))
              clear go hhd hk0
              by_cases h4 : 97 ≤ ((s[k]).toNat : Int)
              · have h5' : ¬ ((s[k]).toNat : Int) ≤ 122 := fun h => h3 ⟨h4, h⟩
                clear h3
                go_wp2
                go_ret
                exact ⟨ret_bool HF.out.symm, rfl⟩
              · clear h3
                go_wp2
                go_ret
                exact ⟨ret_bool HF.out.symm, rfl⟩
            · have HG := Lib.hid (go (wtail_dgt (dgt_yes h5 h6)) (fun h => by omega))
              clear go hhd h3 hk0
              go_wp2
              go_round
              case rel => exact HG.out
              case measure => simp [intOf]; omega
    · have HE := Lib.hid (wordV_end s k hlt HA.out HH.out hk)
      go_wp2_with (go_at_call 36; refine (l1In_any _ _ _ _).mono ?_; rintro e w' ⟨rfl, rfl⟩)
      go_ret
      exact ⟨ret_bool HE.out.symm, rfl⟩
end Go.Proofs.Ytiniadlpgomgjaa
/-
  Contracts of chapter 1: hexadecimal numbers.
-/
namespace Go.Proofs.Ytiniadlpgomgjaa
open Go.RowKit
set_option linter.unusedVariables false
end Go.Proofs.Ytiniadlpgomgjaa
/-
  Contracts of chapter 1: reading hexadecimal numbers.
-/
namespace Go.Proofs.Ytiniadlpgomgjaa
open Go.RowKit
set_option linter.unusedVariables false
end Go.Proofs.Ytiniadlpgomgjaa
