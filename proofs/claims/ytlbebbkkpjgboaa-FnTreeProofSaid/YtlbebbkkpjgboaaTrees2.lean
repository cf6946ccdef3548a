/-
  Chapter 5: contracts of the roots and the proofs of trees.
-/
import Derived.Test.YtlbebbkkpjgboaaTrees
import Derived.Test.YtlbebbkkpjgboaaMarks
namespace Go.Proofs.Ytlbebbkkpjgboaa
open Go.RowKit
set_option linter.unusedVariables false
def lenV : Value → Nat
  | .slice _ n _ => n
  | _ => 0
theorem leaves_len {l : List Int} (h : l.length < 1 ∨ 16 < l.length) : leavesB l = false := by
  unfold leavesB
  cases l.all isPr
  · rfl
  · simp only [Bool.true_and, decide_eq_false_iff_not]; omega
theorem leaves_at {l : List Int} {k : Nat} (hk : k < l.length) (hp : isPr (nthI l k) = false) : leavesB l = false := by
  cases h : leavesB l
  · rfl
  · rw [all_nth (leavesB_at h).1 hk] at hp; cases hp
theorem leaves_yes {l : List Int} (h : ∀ j, j < l.length → isPr (nthI l j) = true) (h1 : 1 ≤ l.length) (h2 : l.length ≤ 16) : leavesB l = true := by
  unfold leavesB; rw [all_of_nth h]; simp [h1, h2]
theorem areLeaves_any (x : Option Addr) (m cap : Nat) (l : List Int) (B : Nat) (w : World) (h : Ints w B x m cap l) :
    Calls Try.prog 41 #[.slice x m cap] w fun e w' => e = .returned (.bool (leavesB l)) ∧ w = w' := by
  have HL := Lib.hid h.len
  have hmx := h.max
  have hle := h.le
  unfold maxLen at hmx
  by_cases h1 : m < 1
  · have HF := Lib.hid (leaves_len (l := l) (by have := HL.out; omega))
    go_enter Try.func41, Try.ntmps41
    go_wp2
    go_ret
    exact ⟨ret_bool HF.out.symm, rfl⟩
  · by_cases h16 : 16 < m
    · have HF := Lib.hid (leaves_len (l := l) (by have := HL.out; omega))
      go_enter Try.func41, Try.ntmps41
      go_wp2
      go_ret
      exact ⟨ret_bool HF.out.symm, rfl⟩
    · go_enter Try.func41, Try.ntmps41
      go_wp2
      go_loop [4, 15] (fun _ i => ∃ k : Nat, k ≤ m ∧ i = .int .i64 k ∧ ∀ j, j < k → isPr (nthI l j) = true) (fun _ i => m - (intOf i).toNat)
      case atStart => exact ⟨0, by omega, rfl, fun j hj => by omega⟩
      case round =>
        obtain ⟨k, hk, rfl, ha⟩ := hrel
        have HA := Lib.hid ha; clear ha
        by_cases hlt : k < m
        · obtain ⟨b, off, rfl, hb, hcell⟩ := h.at hlt
          cases hp : isPr (nthI l k)
          · have HF := Lib.hid (leaves_at (by rw [HL.out]; exact hlt) hp)
            go_wp2_with (go_at_call 47; refine (isPrint_any _ _).mono ?_; rintro e w' ⟨rfl, rfl⟩)
            go_ret
            exact ⟨ret_bool HF.out.symm, rfl⟩
          · have HP := Lib.hid hp
            go_wp2_with (go_at_call 47; refine (isPrint_any _ _).mono ?_; rintro e w' ⟨rfl, rfl⟩)
            go_round
            case rel => exact ⟨k + 1, by omega, by go_num, fun j hj => by
              by_cases e : j = k
              · rw [e]; exact HP.out
              · exact HA.out j (by omega)⟩
            case measure => simp [intOf]; omega
        · have HF := Lib.hid (leaves_yes (l := l) (fun j hj => HA.out j (by rw [HL.out] at hj; omega)) (by rw [HL.out]; omega) (by rw [HL.out]; omega))
          go_wp2
          go_ret
          exact ⟨ret_bool HF.out.symm, rfl⟩
theorem l5Valid_any (x : Option Addr) (m cap : Nat) (l : List Int) (B : Nat) (w : World) (h : Ints w B x m cap l) :
    Calls Try.prog 43 #[.slice x m cap] w fun e w' => e = .returned (.bool (leavesB l)) ∧ w = w' := by
  have HL := Lib.hid h.len
  have hmx := h.max
  have hle := h.le
  unfold maxLen at hmx
  go_enter Try.func43, Try.ntmps43
  go_wp2
  go_loop [3] (fun i => ∃ k : Nat, k ≤ m ∧ i = .int .i64 k ∧ ∀ j, j < k → isPr (nthI l j) = true) (fun i => m - (intOf i).toNat)
  case atStart => exact ⟨0, by omega, rfl, fun j hj => by omega⟩
  case round =>
    obtain ⟨k, hk, rfl, ha⟩ := hrel
    have HA := Lib.hid ha; clear ha
    by_cases hlt : k < m
    · obtain ⟨b, off, rfl, hb, hcell⟩ := h.at hlt
      cases hp : in3 (nthI l k) 0 16777212
      · have HF := Lib.hid (leaves_at (by rw [HL.out]; exact hlt) ((in3_isPr _).symm.trans hp))
        go_wp2_with (go_at_call 46; refine (l1In_any _ _ _ _).mono ?_; rintro e w' ⟨rfl, rfl⟩)
        go_ret
        exact ⟨ret_bool HF.out.symm, rfl⟩
      · have HP := Lib.hid ((in3_isPr _).symm.trans hp)
        go_wp2_with (go_at_call 46; refine (l1In_any _ _ _ _).mono ?_; rintro e w' ⟨rfl, rfl⟩)
        go_round
        case rel => exact ⟨k + 1, by omega, by go_num, fun j hj => by
          by_cases e : j = k
          · rw [e]; exact HP.out
          · exact HA.out j (by omega)⟩
        case measure => simp [intOf]; omega
    · have HF := Lib.hid (show in3 (m : Int) 1 16 = leavesB l by
        have ha := all_of_nth (l := l) (fun j hj => HA.out j (by rw [HL.out] at hj; omega))
        unfold in3 leavesB
        rw [ha, HL.out]
        simp only [Bool.true_and]
        rw [Bool.eq_iff_iff]; simp; omega)
      go_wp2_with (go_at_call 46; refine (l1In_any _ _ _ _).mono ?_; rintro e w' ⟨rfl, rfl⟩)
      go_ret
      exact ⟨ret_bool HF.out, rfl⟩
theorem treeRoot_any (x : Option Addr) (m cap : Nat) (l : List Int) (w : World) (h : Ints w w.heap.size x m cap l) :
    Calls Try.prog 16 #[.slice x m cap] w (BelowI (rootB l) w) := by
  have HL := Lib.hid h.len
  have hmx := h.max
  have hle := h.le
  unfold maxLen at hmx
  cases hv : leavesB l
  · have HF := Lib.hid (rootB_no hv)
    go_enter Try.func16, Try.ntmps16
    go_wp2_with (go_at_call 41; refine (areLeaves_any _ _ _ _ _ _ h).mono ?_; rintro e w' ⟨rfl, rfl⟩)
    go_ret
    exact ⟨ret_int HF.out.symm, Below.refl _ _⟩
  · have HF := Lib.hid (rootB_yes hv)
    obtain ⟨_, h1, h16⟩ := leavesB_at hv
    rw [HL.out] at h1 h16
    go_enter Try.func16, Try.ntmps16
    go_wp2_with (go_at_call 41; refine (areLeaves_any _ _ _ _ _ _ h).mono ?_; rintro e w' ⟨rfl, rfl⟩)
    go_loopw [3] (fun v wr => ∃ (y : Option Addr) (n c : Nat) (l' : List Int), v = .slice y n c ∧ Ints wr wr.heap.size y n c l' ∧ 1 ≤ n ∧ n ≤ 16 ∧ topB l' = topB l ∧ Below w.heap.size w wr) (fun v _ => lenV v)
    case atStart => exact ⟨x, m, cap, l, rfl, h, h1, h16, rfl, Below.refl _ _⟩
    case round =>
      obtain ⟨y, n, c, l', rfl, hi, hn1, hn16, ht, hb⟩ := hrel
      have HI := Lib.hid hi; have HT := Lib.hid ht; have HB := Lib.hid hb; have HL' := Lib.hid hi.len; clear ht hb
      have hmx' := hi.max
      have hle' := hi.le
      unfold maxLen at hmx'
      by_cases hlt : 1 < n
      · have HU := Lib.hid (topB_up (l := l') (by rw [HL'.out]; exact hlt))
        clear hi
        go_wp2_with (go_at_call 42; refine (levelAbove_any _ _ _ _ _ HI.out hn16).mono ?_; rintro e w2 ⟨v2, rfl, ho, hb2⟩; obtain ⟨y2, n2, c2, rfl, hi2⟩ := ho.ints; have HB2 := Lib.hid (HB.out.trans (hb2.mono HB.out.size)); have HI2 := Lib.hid hi2; have hn2 : n2 = (n + 1) / 2 := (by rw [← hi2.len, upB_len, HL'.out]); have hn21 : 1 ≤ n2 := (by omega); have hn22 : n2 < n := (by omega); clear ho hb2 hi2 hn2)
        go_roundw
        case rel => exact ⟨y2, n2, c2, upB l', rfl, HI2.out, hn21, by omega, by rw [← HU.out]; exact HT.out, HB2.out⟩
        case measure => simp [lenV]; omega
      · have HU := Lib.hid (topB_end (l := l') (by rw [HL'.out]; exact hlt))
        obtain ⟨b, off, rfl, hb, hcell⟩ := hi.at (k := 0) (by omega)
        rw [Nat.add_zero] at hcell
        have h0 : 0 < n := hn1
        go_wp2
        go_ret
        exact ⟨ret_int (by rw [HF.out, ← HT.out, HU.out]), HB.out⟩
theorem specTreeRoot_any (x : Option Addr) (m cap : Nat) (l : List Int) (w : World) (h : Ints w w.heap.size x m cap l) :
    Calls Try.prog 17 #[.slice x m cap] w (BelowI (rootB l) w) := by
  have HL := Lib.hid h.len
  have hmx := h.max
  have hle := h.le
  unfold maxLen at hmx
  cases hv : leavesB l
  · have HF := Lib.hid (rootB_no hv)
    go_enter Try.func17, Try.ntmps17
    go_wp2_with (go_at_call 43; refine (l5Valid_any _ _ _ _ _ _ h).mono ?_; rintro e w' ⟨rfl, rfl⟩)
    go_ret
    exact ⟨ret_int HF.out.symm, Below.refl _ _⟩
  · have HF := Lib.hid (rootB_yes hv)
    obtain ⟨_, h1, h16⟩ := leavesB_at hv
    rw [HL.out] at h1 h16
    go_enter Try.func17, Try.ntmps17
    go_wp2_with (go_at_call 43; refine (l5Valid_any _ _ _ _ _ _ h).mono ?_; rintro e w' ⟨rfl, rfl⟩)
    go_loopw [0] (fun v wr => ∃ (y : Option Addr) (n c : Nat) (l' : List Int), v = .slice y n c ∧ Ints wr wr.heap.size y n c l' ∧ 1 ≤ n ∧ n ≤ 16 ∧ topB l' = topB l ∧ Below w.heap.size w wr) (fun v _ => lenV v)
    case atStart => exact ⟨x, m, cap, l, rfl, h, h1, h16, rfl, Below.refl _ _⟩
    case round =>
      obtain ⟨y, n, c, l', rfl, hi, hn1, hn16, ht, hb⟩ := hrel
      have HI := Lib.hid hi; have HT := Lib.hid ht; have HB := Lib.hid hb; have HL' := Lib.hid hi.len; clear ht hb
      have hmx' := hi.max
      have hle' := hi.le
      unfold maxLen at hmx'
      by_cases hlt : 1 < n
      · have HU := Lib.hid (topB_up (l := l') (by rw [HL'.out]; exact hlt))
        clear hi
        go_wp2_with (go_at_call 44; refine (l5Up_any _ _ _ _ _ HI.out (by omega)).mono ?_; rintro e w2 ⟨v2, rfl, ho, hb2⟩; obtain ⟨y2, n2, c2, rfl, hi2⟩ := ho.ints; have HB2 := Lib.hid (HB.out.trans (hb2.mono HB.out.size)); have HI2 := Lib.hid hi2; have hn2 : n2 = (n + 1) / 2 := (by rw [← hi2.len, upB_len, HL'.out]); have hn21 : 1 ≤ n2 := (by omega); have hn22 : n2 < n := (by omega); clear ho hb2 hi2 hn2)
        go_roundw
        case rel => exact ⟨y2, n2, c2, upB l', rfl, HI2.out, hn21, by omega, by rw [← HU.out]; exact HT.out, HB2.out⟩
        case measure => simp [lenV]; omega
      · have HU := Lib.hid (topB_end (l := l') (by rw [HL'.out]; exact hlt))
        obtain ⟨b, off, rfl, hb, hcell⟩ := hi.at (k := 0) (by omega)
        rw [Nat.add_zero] at hcell
        have h0 : 0 < n := hn1
        go_wp2
        go_ret
        exact ⟨ret_int (by rw [HF.out, ← HT.out, HU.out]), HB.out⟩
end Go.Proofs.Ytlbebbkkpjgboaa
