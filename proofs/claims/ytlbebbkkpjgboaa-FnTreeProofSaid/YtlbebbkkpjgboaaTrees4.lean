/-
  Chapter 5: contracts of ProofRoot.
-/
import Derived.Test.YtlbebbkkpjgboaaTrees3
namespace Go.Proofs.Ytlbebbkkpjgboaa
open Go.RowKit
set_option linter.unusedVariables false
theorem drop_cons {l : List Int} {k : Nat} (h : k < l.length) : l.drop k = nthI l k :: l.drop (k + 1) := by rw [nthI_get h, List.drop_eq_getElem_cons h]
theorem walkP_go {p : Int} {q m k : Nat} {os : List Int} (hk : k < os.length) (hm : m ≠ 1) : walkP p q m (os.drop k) = walkP (aboveB p q m (nthI os k)) (q / 2) ((m + 1) / 2) (os.drop (k + 1)) := by
  rw [drop_cons hk]; conv => lhs; unfold walkP
  rw [if_neg hm]
theorem walkP_one {p : Int} {q m k : Nat} {os : List Int} (hk : k < os.length) (hm : m = 1) : walkP p q m (os.drop k) = -1 := by
  rw [drop_cons hk]; unfold walkP; rw [if_pos hm]
theorem walkP_no {p : Int} {q m k : Nat} {os : List Int} (hk : k < os.length) (hm : m ≠ 1) (h : aboveB p q m (nthI os k) = -1) : walkP p q m (os.drop k) = -1 := by rw [walkP_go hk hm, h, walkP_bad]
theorem walkP_end {p : Int} {q m k : Nat} {os : List Int} (hk : os.length ≤ k) : walkP p q m (os.drop k) = if 1 < m then -1 else p := by rw [List.drop_of_length_le hk]; rfl
theorem above_left {p : Int} {q m : Nat} (h2 : q % 2 = 0) (h1 : q + 1 = m) : aboveB p q m (-1) = p := by unfold aboveB mateN; rw [if_pos h2, if_pos h1, if_pos rfl]
theorem above_left_no {p o : Int} {q m : Nat} (h2 : q % 2 = 0) (h1 : q + 1 = m) (ho : o ≠ -1) : aboveB p q m o = -1 := by unfold aboveB mateN; rw [if_pos h2, if_pos h1, if_neg ho]
theorem above_even {p o : Int} {q m : Nat} (h2 : q % 2 = 0) (h1 : q + 1 ≠ m) : aboveB p q m o = pairB p o := by unfold aboveB mateN; rw [if_pos h2, if_neg h1, if_pos h2]
theorem above_odd {p o : Int} {q m : Nat} (h2 : ¬ q % 2 = 0) (h1 : q < m) : aboveB p q m o = pairB o p := by unfold aboveB mateN; rw [if_neg h2, if_neg (by omega), if_neg h2]
theorem above_out {p o : Int} {q m : Nat} (h : in3 o (-1) 16777212 = false) (hq : q < m) : aboveB p q m o = -1 := by
  have h1 : ¬ (-1 ≤ o ∧ o ≤ 16777212) := by unfold in3 at h; simpa using h
  have h2 : isPr o = false := isPr_no (by omega)
  unfold aboveB
  split
  · rw [if_neg (by omega)]
  · split
    · exact pairB_no2 _ h2
    · exact pairB_no1 _ h2
theorem above_none {p : Int} {q m : Nat} (hq : q < m) (h : ¬ (q % 2 = 0 ∧ q + 1 = m)) : aboveB p q m (-1) = -1 := by
  by_cases h2 : q % 2 = 0
  · rw [above_even h2 (fun e => h ⟨h2, e⟩)]; exact pairB_no2 _ (by decide)
  · rw [above_odd h2 hq]; exact pairB_no1 _ (by decide)
theorem proofRoot_any (p n m : Int) (x : Option Addr) (c cap : Nat) (os : List Int) (B : Nat) (w : World) (h : Ints w B x c cap os) :
    Calls Try.prog 22 #[.int .i64 p, .int .i64 n, .int .i64 m, .slice x c cap] w fun e w' => e = .returned (.int .i64 (rootP p n m os)) ∧ w = w' := by
  have HL := Lib.hid h.len
  have hmx := h.max
  have hle := h.le
  unfold maxLen at hmx
  cases hp : isPr p
  · have hp' := hp
    have HF := Lib.hid (rootP_no (p := p) (n := n) (m := m) (l := os) (.inl hp))
    go_enter Try.func22, Try.ntmps22
    go_wp2_with (go_at_call 47; refine (isPrint_any _ _).mono ?_; rintro e w' ⟨rfl, rfl⟩)
    go_ret
    exact ⟨ret_int HF.out.symm, rfl⟩
  · by_cases hm1 : m < 1
    · have HF := Lib.hid (rootP_no (p := p) (n := n) (m := m) (l := os) (.inr (by omega)))
      go_enter Try.func22, Try.ntmps22
      go_wp2_with (go_at_call 47; refine (isPrint_any _ _).mono ?_; rintro e w' ⟨rfl, rfl⟩)
      go_ret
      exact ⟨ret_int HF.out.symm, rfl⟩
    · by_cases hm16 : 16 < m
      · have HF := Lib.hid (rootP_no (p := p) (n := n) (m := m) (l := os) (.inr (by omega)))
        go_enter Try.func22, Try.ntmps22
        go_wp2_with (go_at_call 47; refine (isPrint_any _ _).mono ?_; rintro e w' ⟨rfl, rfl⟩)
        go_ret
        exact ⟨ret_int HF.out.symm, rfl⟩
      · by_cases hn0 : n < 0
        · have HF := Lib.hid (rootP_no (p := p) (n := n) (m := m) (l := os) (.inr (by omega)))
          go_enter Try.func22, Try.ntmps22
          go_wp2_with (go_at_call 47; refine (isPrint_any _ _).mono ?_; rintro e w' ⟨rfl, rfl⟩)
          go_ret
          exact ⟨ret_int HF.out.symm, rfl⟩
        · by_cases hnm : m ≤ n
          · have HF := Lib.hid (rootP_no (p := p) (n := n) (m := m) (l := os) (.inr (by omega)))
            go_enter Try.func22, Try.ntmps22
            go_wp2_with (go_at_call 47; refine (isPrint_any _ _).mono ?_; rintro e w' ⟨rfl, rfl⟩)
            go_ret
            exact ⟨ret_int HF.out.symm, rfl⟩
          · obtain ⟨n, rfl⟩ := Int.eq_ofNat_of_zero_le (show 0 ≤ n by omega)
            obtain ⟨m, rfl⟩ := Int.eq_ofNat_of_zero_le (show 0 ≤ m by omega)
            have h1 : 1 ≤ m := by omega
            have h16 : m ≤ 16 := by omega
            have hnlt : n < m := by omega
            have HF := Lib.hid (rootP_yes (l := os) hp h16 hnlt)
            have hd1 : decide ((m : Int) < 1) = false := by simpa using hm1
            have hd2 : decide ((16 : Int) < (m : Int)) = false := by simpa using hm16
            have hd3 : decide ((n : Int) < 0) = false := by simp
            have hd4 : decide (m ≤ n) = false := by simpa using hnlt
            clear hm1 hm16 hn0 hnm
            go_enter Try.func22, Try.ntmps22
            go_wp2_with (go_at_call 47; refine (isPrint_any _ _).mono ?_; rintro e w' ⟨rfl, rfl⟩)
            go_loop [0, 1, 2, 10, 33] (fun pv nv mv _ i => ∃ (k : Nat) (p' : Int) (q mm : Nat), k ≤ c ∧ i = .int .i64 k ∧ pv = .int .i64 p' ∧ nv = .int .i64 q ∧ mv = .int .i64 mm ∧ 1 ≤ mm ∧ mm ≤ 16 ∧ q < mm ∧ walkP p' q mm (os.drop k) = walkP p n m os) (fun _ _ _ _ i => c - (intOf i).toNat)
            case atStart => exact ⟨0, p, n, m, by omega, rfl, rfl, rfl, rfl, h1, h16, hnlt, rfl⟩
            case round =>
              obtain ⟨k, p', q, mm, hk, rfl, rfl, rfl, rfl, hm1, hm16, hq, he⟩ := hrel
              have HE := Lib.hid he; clear he
              have hq16 : q ≤ 16 := by omega
              by_cases hlt : k < c
              · obtain ⟨b, off, rfl, hb, hcell⟩ := h.at hlt
                by_cases hone : mm = 1
                · have HX := Lib.hid (walkP_one (p := p') (q := q) (by rw [HL.out]; exact hlt) hone)
                  have hone' : ((mm : Int) == 1) = true := by simp; omega
                  clear hone
                  go_wp2
                  go_ret
                  exact ⟨ret_int (by rw [HF.out, ← HE.out, HX.out]), rfl⟩
                · have HX := Lib.hid (walkP_go (p := p') (q := q) (by rw [HL.out]; exact hlt) hone)
                  have hone' : ((mm : Int) == 1) = false := by simp; omega
                  have hmm2 : 2 ≤ mm := by omega
                  clear hone
                  go_wp2_with (first
                    | (go_at_call 48; refine (printAbove_any _ q mm _ _ hq16).mono ?_; rintro e w' ⟨rfl, rfl⟩)
                    | (go_at_call 49; refine (manyAbove_any _ _ hm16).mono ?_; rintro e w' ⟨rfl, rfl⟩))
                  go_round
                  case rel => exact ⟨k + 1, _, q / 2, (mm + 1) / 2, by omega, by go_num, rfl, by go_num, by go_num, by omega, by omega, by omega, by rw [← HX.out]; exact HE.out⟩
                  case measure => simp [intOf]; omega
              · have HX := Lib.hid (walkP_end (p := p') (q := q) (m := mm) (os := os) (k := k) (by rw [HL.out]; omega))
                by_cases h1m : 1 < mm
                · have HY := Lib.hid (show (if 1 < mm then -1 else p') = -1 from if_pos h1m)
                  go_wp2
                  go_ret
                  exact ⟨ret_int (by rw [HF.out, ← HE.out, HX.out, HY.out]), rfl⟩
                · have HY := Lib.hid (show (if 1 < mm then -1 else p') = p' from if_neg h1m)
                  go_wp2
                  go_ret
                  exact ⟨ret_int (by rw [HF.out, ← HE.out, HX.out, HY.out]), rfl⟩
theorem specProofRoot_any (p n m : Int) (x : Option Addr) (c cap : Nat) (os : List Int) (B : Nat) (w : World) (h : Ints w B x c cap os) :
    Calls Try.prog 24 #[.int .i64 p, .int .i64 n, .int .i64 m, .slice x c cap] w fun e w' => e = .returned (.int .i64 (rootP p n m os)) ∧ w = w' := by
  have HL := Lib.hid h.len
  have hmx := h.max
  have hle := h.le
  unfold maxLen at hmx
  cases hp : in3 p 0 16777212
  · have HF := Lib.hid (rootP_no (p := p) (n := n) (m := m) (l := os) (.inl ((in3_isPr _).symm.trans hp)))
    go_enter Try.func24, Try.ntmps24
    go_wp2_with (go_at_call 46; refine (l1In_any _ _ _ _).mono ?_; rintro e w' ⟨rfl, rfl⟩)
    go_ret
    exact ⟨ret_int HF.out.symm, rfl⟩
  · cases hm : in3 m 1 16
    · have HF := Lib.hid (rootP_no (p := p) (n := n) (m := m) (l := os) (.inr (by unfold in3 at hm; simp at hm; omega)))
      go_enter Try.func24, Try.ntmps24
      go_wp2_with (go_at_call 46; refine (l1In_any _ _ _ _).mono ?_; rintro e w' ⟨rfl, rfl⟩)
      go_ret
      exact ⟨ret_int HF.out.symm, rfl⟩
    · have hmb : 1 ≤ m ∧ m ≤ 16 := by unfold in3 at hm; simpa using hm
      obtain ⟨hmb1, hmb2⟩ := hmb
      cases hn : in3 n 0 (m - 1)
      · have HF := Lib.hid (rootP_no (p := p) (n := n) (m := m) (l := os) (.inr (by unfold in3 at hn; simp at hn; omega)))
        go_enter Try.func24, Try.ntmps24
        go_wp2_with (go_at_call 46; refine (l1In_any _ _ _ _).mono ?_; rintro e w' ⟨rfl, rfl⟩)
        go_ret
        exact ⟨ret_int HF.out.symm, rfl⟩
      · have hnb : 0 ≤ n ∧ n ≤ m - 1 := by unfold in3 at hn; simpa using hn
        obtain ⟨hnb1, hnb2⟩ := hnb
        obtain ⟨n, rfl⟩ := Int.eq_ofNat_of_zero_le (show 0 ≤ n by omega)
        obtain ⟨m, rfl⟩ := Int.eq_ofNat_of_zero_le (show 0 ≤ m by omega)
        have h1 : 1 ≤ m := by omega
        have h16 : m ≤ 16 := by omega
        have hnlt : n < m := by omega
        have HF := Lib.hid (rootP_yes (l := os) ((in3_isPr _).symm.trans hp) h16 hnlt)
        go_enter Try.func24, Try.ntmps24
        go_wp2_with (go_at_call 46; refine (l1In_any _ _ _ _).mono ?_; rintro e w' ⟨rfl, rfl⟩)
        go_loop [0, 1, 2, 9, 10] (fun pv nv mv i _ => ∃ (k : Nat) (p' : Int) (q mm : Nat), k ≤ c ∧ i = .int .i64 k ∧ pv = .int .i64 p' ∧ nv = .int .i64 q ∧ mv = .int .i64 mm ∧ 1 ≤ mm ∧ mm ≤ 16 ∧ q < mm ∧ walkP p' q mm (os.drop k) = walkP p n m os) (fun _ _ _ i _ => c - (intOf i).toNat)
        case atStart => exact ⟨0, p, n, m, by omega, rfl, rfl, rfl, rfl, h1, h16, hnlt, rfl⟩
        case round =>
          obtain ⟨k, p', q, mm, hk, rfl, rfl, rfl, rfl, hm1, hm16, hq, he⟩ := hrel
          have HE := Lib.hid he; clear he
          have hq16 : q ≤ 16 := by omega
          by_cases hlt : k < c
          · obtain ⟨b, off, rfl, hb, hcell⟩ := h.at hlt
            by_cases hone : mm = 1
            · have HX := Lib.hid (walkP_one (p := p') (q := q) (by rw [HL.out]; exact hlt) hone)
              have hone' : ((mm : Int) == 1) = true := by simp; omega
              have h20 : ((q : Int) % 2 == 0) = true := by simp; omega
              have h21 : ((q : Int) + 1 == (mm : Int)) = true := by simp; omega
              clear hone
              go_wp2
              go_ret
              exact ⟨ret_int (by rw [HF.out, ← HE.out, HX.out]), rfl⟩
            · have hone' : ((mm : Int) == 1) = false := by simp; omega
              have hmm2 : 2 ≤ mm := by omega
              have HK : Hid (k < os.length) := by rw [HL.out]; exact hlt
              have HONE := Lib.hid hone
              clear hone
              by_cases h2 : q % 2 = 0
              · by_cases h3 : q + 1 = mm
                · cases hin : in3 (nthI os k) (-1) 16777212
                  · have h20 : ((q : Int) % 2 == 0) = true := by simp; omega
                    have h21 : ((q : Int) + 1 == (mm : Int)) = true := by simp; omega
                    have HAB := Lib.hid (above_out (p := p') (q := q) (m := mm) hin hq)
                    clear h2 h3
                    have HX := Lib.hid (walkP_no (p := p') HK.out HONE.out HAB.out)
                    go_wp2_with (first
                      | (go_at_call 46; refine (l1In_any _ _ _ _).mono ?_; rintro e w' ⟨rfl, rfl⟩)
                      | (go_at_call 50; refine (specPrintPair_any _ _ _).mono ?_; rintro e w' ⟨rfl, rfl⟩))
                    go_ret
                    exact ⟨ret_int (by rw [HF.out, ← HE.out, HX.out]), rfl⟩
                  · by_cases ho : nthI os k = -1
                    · have h20 : ((q : Int) % 2 == 0) = true := by simp; omega
                      have h21 : ((q : Int) + 1 == (mm : Int)) = true := by simp; omega
                      have ho' : (nthI os k == -1) = true := by simp [ho]
                      have HAB := Lib.hid (show aboveB p' q mm (nthI os k) = p' by rw [ho]; exact above_left h2 h3)
                      clear ho h2 h3
                      have HX := Lib.hid ((walkP_go (p := p') HK.out HONE.out).trans (by rw [HAB.out]))
                      go_wp2_with (first
                        | (go_at_call 46; refine (l1In_any _ _ _ _).mono ?_; rintro e w' ⟨rfl, rfl⟩)
                        | (go_at_call 50; refine (specPrintPair_any _ _ _).mono ?_; rintro e w' ⟨rfl, rfl⟩))
                      go_round
                      case rel => exact ⟨k + 1, _, q / 2, (mm + 1) / 2, by omega, by go_num, rfl, by go_num, by go_num, by omega, by omega, by omega, by rw [← HX.out]; exact HE.out⟩
                      case measure => simp [intOf]; omega
                    · have h20 : ((q : Int) % 2 == 0) = true := by simp; omega
                      have h21 : ((q : Int) + 1 == (mm : Int)) = true := by simp; omega
                      have ho' : (nthI os k == -1) = false := by simp [ho]
                      have HAB := Lib.hid (above_left_no (p := p') h2 h3 ho)
                      clear ho h2 h3
                      have HX := Lib.hid (walkP_no (p := p') HK.out HONE.out HAB.out)
                      go_wp2_with (first
                        | (go_at_call 46; refine (l1In_any _ _ _ _).mono ?_; rintro e w' ⟨rfl, rfl⟩)
                        | (go_at_call 50; refine (specPrintPair_any _ _ _).mono ?_; rintro e w' ⟨rfl, rfl⟩))
                      go_ret
                      exact ⟨ret_int (by rw [HF.out, ← HE.out, HX.out]), rfl⟩
                · cases hin : in3 (nthI os k) (-1) 16777212
                  · have h20 : ((q : Int) % 2 == 0) = true := by simp; omega
                    have h21 : ((q : Int) + 1 == (mm : Int)) = false := by simp; omega
                    have HAB := Lib.hid (above_out (p := p') (q := q) (m := mm) hin hq)
                    clear h2 h3
                    have HX := Lib.hid (walkP_no (p := p') HK.out HONE.out HAB.out)
                    go_wp2_with (first
                      | (go_at_call 46; refine (l1In_any _ _ _ _).mono ?_; rintro e w' ⟨rfl, rfl⟩)
                      | (go_at_call 50; refine (specPrintPair_any _ _ _).mono ?_; rintro e w' ⟨rfl, rfl⟩))
                    go_ret
                    exact ⟨ret_int (by rw [HF.out, ← HE.out, HX.out]), rfl⟩
                  · by_cases ho : nthI os k = -1
                    · have h20 : ((q : Int) % 2 == 0) = true := by simp; omega
                      have h21 : ((q : Int) + 1 == (mm : Int)) = false := by simp; omega
                      have ho' : (nthI os k == -1) = true := by simp [ho]
                      have HAB := Lib.hid (show aboveB p' q mm (nthI os k) = -1 by rw [ho]; exact above_none hq (by omega))
                      clear ho h2 h3
                      have HX := Lib.hid (walkP_no (p := p') HK.out HONE.out HAB.out)
                      go_wp2_with (first
                        | (go_at_call 46; refine (l1In_any _ _ _ _).mono ?_; rintro e w' ⟨rfl, rfl⟩)
                        | (go_at_call 50; refine (specPrintPair_any _ _ _).mono ?_; rintro e w' ⟨rfl, rfl⟩))
                      go_ret
                      exact ⟨ret_int (by rw [HF.out, ← HE.out, HX.out]), rfl⟩
                    · have h20 : ((q : Int) % 2 == 0) = true := by simp; omega
                      have h21 : ((q : Int) + 1 == (mm : Int)) = false := by simp; omega
                      have ho' : (nthI os k == -1) = false := by simp [ho]
                      have HAB := Lib.hid (above_even (p := p') (o := nthI os k) h2 h3)
                      clear ho h2 h3
                      have HX := Lib.hid ((walkP_go (p := p') HK.out HONE.out).trans (by rw [HAB.out]))
                      go_wp2_with (first
                        | (go_at_call 46; refine (l1In_any _ _ _ _).mono ?_; rintro e w' ⟨rfl, rfl⟩)
                        | (go_at_call 50; refine (specPrintPair_any _ _ _).mono ?_; rintro e w' ⟨rfl, rfl⟩))
                      go_round
                      case rel => exact ⟨k + 1, _, q / 2, (mm + 1) / 2, by omega, by go_num, rfl, by go_num, by go_num, by omega, by omega, by omega, by rw [← HX.out]; exact HE.out⟩
                      case measure => simp [intOf]; omega
              · cases hin : in3 (nthI os k) (-1) 16777212
                · have h20 : ((q : Int) % 2 == 0) = false := by simp; omega
                  have HAB := Lib.hid (above_out (p := p') (q := q) (m := mm) hin hq)
                  clear h2
                  have HX := Lib.hid (walkP_no (p := p') HK.out HONE.out HAB.out)
                  go_wp2_with (first
                    | (go_at_call 46; refine (l1In_any _ _ _ _).mono ?_; rintro e w' ⟨rfl, rfl⟩)
                    | (go_at_call 50; refine (specPrintPair_any _ _ _).mono ?_; rintro e w' ⟨rfl, rfl⟩))
                  go_ret
                  exact ⟨ret_int (by rw [HF.out, ← HE.out, HX.out]), rfl⟩
                · by_cases ho : nthI os k = -1
                  · have h20 : ((q : Int) % 2 == 0) = false := by simp; omega
                    have ho' : (nthI os k == -1) = true := by simp [ho]
                    have HAB := Lib.hid (show aboveB p' q mm (nthI os k) = -1 by rw [ho]; exact above_none hq (by omega))
                    clear ho h2
                    have HX := Lib.hid (walkP_no (p := p') HK.out HONE.out HAB.out)
                    go_wp2_with (first
                      | (go_at_call 46; refine (l1In_any _ _ _ _).mono ?_; rintro e w' ⟨rfl, rfl⟩)
                      | (go_at_call 50; refine (specPrintPair_any _ _ _).mono ?_; rintro e w' ⟨rfl, rfl⟩))
                    go_ret
                    exact ⟨ret_int (by rw [HF.out, ← HE.out, HX.out]), rfl⟩
                  · have h20 : ((q : Int) % 2 == 0) = false := by simp; omega
                    have ho' : (nthI os k == -1) = false := by simp [ho]
                    have HAB := Lib.hid (above_odd (p := p') (o := nthI os k) h2 hq)
                    clear ho h2
                    have HX := Lib.hid ((walkP_go (p := p') HK.out HONE.out).trans (by rw [HAB.out]))
                    go_wp2_with (first
                      | (go_at_call 46; refine (l1In_any _ _ _ _).mono ?_; rintro e w' ⟨rfl, rfl⟩)
                      | (go_at_call 50; refine (specPrintPair_any _ _ _).mono ?_; rintro e w' ⟨rfl, rfl⟩))
                    go_round
                    case rel => exact ⟨k + 1, _, q / 2, (mm + 1) / 2, by omega, by go_num, rfl, by go_num, by go_num, by omega, by omega, by omega, by rw [← HX.out]; exact HE.out⟩
                    case measure => simp [intOf]; omega
          · have HX := Lib.hid (walkP_end (p := p') (q := q) (m := mm) (os := os) (k := k) (by rw [HL.out]; omega))
            by_cases h1m : 1 < mm
            · have HY := Lib.hid (show (if 1 < mm then -1 else p') = -1 from if_pos h1m)
              go_wp2
              go_ret
              exact ⟨ret_int (by rw [HF.out, ← HE.out, HX.out, HY.out]), rfl⟩
            · have HY := Lib.hid (show (if 1 < mm then -1 else p') = p' from if_neg h1m)
              go_wp2
              go_ret
              exact ⟨ret_int (by rw [HF.out, ← HE.out, HX.out, HY.out]), rfl⟩
end Go.Proofs.Ytlbebbkkpjgboaa
