/-
  Contracts of chapter 6's program: valid entries; putting and dropping one; the text of a folder.
-/
import Derived.Test.YtglajbmopiolhaaDoorFold
namespace Go.Proofs.YtglajbmopiolhaaDoor
open Go.RowKit
set_option linter.unusedVariables false
theorem implEntriesValid_any (x : Option Addr) (n cap : Nat) (l : List Ent) (B : Nat) (w : World) (h : Ents w B x n cap l) (hB : B ≤ w.heap.size) (hz : ∀ k, (nthE l k).1.size ≤ maxLen) : Calls Tryd.prog 54 #[.slice x n cap] w (BelowB (entsB l) w) := by
  have HL := Lib.hid h.len
  have HH := Lib.hid h
  have HZ := Lib.hid hz
  have hmx := h.max
  have hle := h.le
  clear h hz
  unfold maxLen at hmx
  by_cases hbig : 3 < n
  · have HF := Lib.hid (show entsB l = false by unfold entsB; rw [decide_eq_false (by have := HL.out; omega)]; rfl)
    go_enter Tryd.func54, Tryd.ntmps54
    go_wp2
    go_ret
    exact ⟨ret_bool HF.out.symm, Below.refl _ _⟩
  go_enter Tryd.func54, Tryd.ntmps54
  go_wp2
  go_loopw [3, 4, 10] (fun _ _ i wr => ∃ k : Nat, k ≤ n ∧ i = .int .i64 k ∧ (∀ j, j < k → okE l j = true) ∧ Below w.heap.size w wr) (fun _ _ i _ => n - (intOf i).toNat)
  case atStart => exact ⟨0, by omega, rfl, fun j hj => by omega, Below.refl _ _⟩
  case round =>
    obtain ⟨k, hk, rfl, ha, hb⟩ := hrel
    have HA := Lib.hid ha; have HB := Lib.hid hb; clear ha hb
    have hsz := HB.out.size
    by_cases hlt : k < n
    · have hkl : k < l.length := by have := HL.out; omega
      obtain ⟨b0, off, rfl, hb0, hc0, hc1⟩ := (HH.out.below HB.out hB).atE hlt
      have hzk := HZ.out k
      obtain ⟨W, hW⟩ : ∃ W, wr.alloc (.cells #[.string (nthE l k).1, .int .i64 (nthE l k).2] 55) = W := ⟨_, rfl⟩
      have HV := Lib.hid hW
      have hBW := HB.out.alloc hsz (.cells #[.string (nthE l k).1, .int .i64 (nthE l k).2] 55)
      have hnew := heap_alloc_new wr (.cells #[.string (nthE l k).1, .int .i64 (nthE l k).2] 55)
      rw [hW] at hBW hnew
      obtain ⟨p0, p1, p2, p3⟩ := two_at hnew
      have HBW := Lib.hid hBW
      have HHW := Lib.hid (HH.out.below hBW hB)
      clear hW hnew hBW p2 p3
      cases ht : wordB (nthE l k).1
      · have HF := Lib.hid (entsB_bad hkl (okE_no1 ht))
        go_wp2_with (first | (go_at_call 66; refine (wordValid_any _ _ hzk).mono ?_; rintro e w2 ⟨rfl, rfl⟩; rw [ht]) | (go_at_call 67; refine (isPrint_any _ _).mono ?_; rintro e w2 ⟨rfl, rfl⟩))
        first | rw [HV.out] | skip
        go_ret
        exact ⟨ret_bool HF.out.symm, HBW.out⟩
      · cases hp : isPr (nthE l k).2
        · have HF := Lib.hid (entsB_bad hkl (okE_no2 hp))
          go_wp2_with (first | (go_at_call 66; refine (wordValid_any _ _ hzk).mono ?_; rintro e w2 ⟨rfl, rfl⟩; rw [ht]) | (go_at_call 67; refine (isPrint_any _ _).mono ?_; rintro e w2 ⟨rfl, rfl⟩; rw [hp]))
          first | rw [HV.out] | skip
          go_ret
          exact ⟨ret_bool HF.out.symm, HBW.out⟩
        · by_cases h0 : k = 0
          · have HR := Lib.hid (okE_yes ht hp (.inl h0))
            have hd0 : (decide (0 < k)) = false := by simp; omega
            clear h0
            go_wp2_with (first | (go_at_call 66; refine (wordValid_any _ _ hzk).mono ?_; rintro e w2 ⟨rfl, rfl⟩; rw [ht]) | (go_at_call 67; refine (isPrint_any _ _).mono ?_; rintro e w2 ⟨rfl, rfl⟩; rw [hp]))
            rw [HV.out]
            go_quiet (fail)
            go_wp2
            go_roundw
            case rel => exact ⟨k + 1, by omega, by go_num, fun j hj => by rcases Nat.lt_succ_iff_lt_or_eq.1 hj with h | rfl; exact HA.out j h; exact HR.out, below_drewN HBW.out _⟩
            case measure => simp [intOf]; omega
          · have hd0 : (decide (0 < k)) = true := by simp; omega
            have hcp := Lst.atPrevE HHW.out hlt (by omega)
            have hk1 : 1 ≤ k := by omega
            cases h3 : leB (nthE l k).1 (nthE l (k - 1)).1
            · have HR := Lib.hid (okE_yes ht hp (.inr h3))
              unfold leB at h3
              rw [Bool.or_eq_false_iff] at h3
              obtain ⟨hx1, hx2⟩ := h3
              clear h0
              go_wp2_with (first | (go_at_call 66; refine (wordValid_any _ _ hzk).mono ?_; rintro e w2 ⟨rfl, rfl⟩; rw [ht]) | (go_at_call 67; refine (isPrint_any _ _).mono ?_; rintro e w2 ⟨rfl, rfl⟩; rw [hp]))
              rw [HV.out]
              go_quiet (fail)
              go_wp2
              go_roundw
              case rel => exact ⟨k + 1, by omega, by go_num, fun j hj => by rcases Nat.lt_succ_iff_lt_or_eq.1 hj with h | rfl; exact HA.out j h; exact HR.out, below_drewN HBW.out _⟩
              case measure => simp [intOf]; omega
            · have HF := Lib.hid (entsB_bad hkl (okE_no3 h0 h3))
              unfold leB at h3
              clear h0
              go_wp2_with (first | (go_at_call 66; refine (wordValid_any _ _ hzk).mono ?_; rintro e w2 ⟨rfl, rfl⟩; rw [ht]) | (go_at_call 67; refine (isPrint_any _ _).mono ?_; rintro e w2 ⟨rfl, rfl⟩; rw [hp]))
              rw [HV.out]
              go_quiet (fail)
              go_wp2
              go_ret
              exact ⟨ret_bool HF.out.symm, below_drewN HBW.out _⟩
    · have HF := Lib.hid (entsB_end (l := l) (fun j hj => HA.out j (by have := HL.out; omega)))
      go_wp2
      go_ret
      exact ⟨ret_bool (by rw [HF.out, HL.out]; simp; omega), HB.out⟩
/-! ### putting -/
theorem own_lstAt {w : World} {base : Nat} {v : Value} {l : List Ent} (h : OwnE w base v l) : ∃ x n c, v = .slice x n c ∧ l.length = n ∧ Ents w w.heap.size x n c l := by
  obtain ⟨x, n, c, rfl, hl⟩ := h.lst
  exact ⟨x, n, c, rfl, hl.len, hl⟩
end Go.Proofs.YtglajbmopiolhaaDoor
