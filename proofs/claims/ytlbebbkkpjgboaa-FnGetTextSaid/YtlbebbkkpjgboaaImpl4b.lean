/-
  Contracts of chapter 4's program: copies of stores; valid stores.
-/
import Derived.Test.YtlbebbkkpjgboaaImpl4
namespace Go.Proofs.Ytlbebbkkpjgboaa
open Go.RowKit
set_option linter.unusedVariables false
theorem implStoreValid_any (x : Option Addr) (n cap : Nat) (l : List Pc) (B : Nat) (w : World) (h : Pcs w B x n cap l) (hB : B ≤ w.heap.size) (hz : ∀ k, (nthP l k).2.size ≤ maxLen) : Calls Try.prog 33 #[.slice x n cap] w (BelowB (storeB l) w) := by
  have HL := Lib.hid h.len
  have HH := Lib.hid h
  have HZ := Lib.hid hz
  have hmx := h.max
  have hle := h.le
  clear h hz
  unfold maxLen at hmx
  by_cases hbig : 40 < n
  · have HF := Lib.hid (show storeB l = false by unfold storeB; rw [decide_eq_false (by have := HL.out; omega)]; rfl)
    go_enter Try.func33, Try.ntmps33
    go_wp2
    go_ret
    exact ⟨ret_bool HF.out.symm, Below.refl _ _⟩
  go_enter Try.func33, Try.ntmps33
  go_wp2
  go_loopw [3, 4, 10] (fun _ _ i wr => ∃ k : Nat, k ≤ n ∧ i = .int .i64 k ∧ (∀ j, j < k → okAt l j = true) ∧ Below w.heap.size w wr) (fun _ _ i _ => n - (intOf i).toNat)
  case atStart => exact ⟨0, by omega, rfl, fun j hj => by omega, Below.refl _ _⟩
  case round =>
    obtain ⟨k, hk, rfl, ha, hb⟩ := hrel
    have HA := Lib.hid ha; have HB := Lib.hid hb; clear ha hb
    have hsz := HB.out.size
    by_cases hlt : k < n
    · have hkl : k < l.length := by have := HL.out; omega
      obtain ⟨b0, off, rfl, hb0, hc0, hc1⟩ := (HH.out.below HB.out hB).atP hlt
      have hzk := HZ.out k
      obtain ⟨W, hW⟩ : ∃ W, wr.alloc (.cells #[.int .i64 (nthP l k).1, .string (nthP l k).2] 51) = W := ⟨_, rfl⟩
      have HV := Lib.hid hW
      have hBW := HB.out.alloc hsz (.cells #[.int .i64 (nthP l k).1, .string (nthP l k).2] 51)
      have hnew := heap_alloc_new wr (.cells #[.int .i64 (nthP l k).1, .string (nthP l k).2] 51)
      rw [hW] at hBW hnew
      obtain ⟨p0, p1, p2, p3⟩ := two_at hnew
      have HBW := Lib.hid hBW
      have HHW := Lib.hid (HH.out.below hBW hB)
      clear hW hnew hBW p2 p3
      cases ht : textB (nthP l k).2
      · have HF := Lib.hid (storeB_bad hkl (okAt_no1 ht))
        go_wp2
        rw [HV.out]
        go_quiet (first | (go_at_call 39; refine Calls.quiet_of_same ((textValid_any _ _ hzk).mono fun _ _ h => ⟨h.1, h.2.symm⟩)) | (go_at_call 14; refine Calls.quiet_of_same ((printOf_any _ _ hzk).mono fun _ _ h => ⟨h.1, h.2.symm⟩)))
        go_wp2
        go_ret
        exact ⟨ret_bool HF.out.symm, below_drewN HBW.out _⟩
      · by_cases he : (nthP l k).1 = printB (nthP l k).2
        · have hd : ((nthP l k).1 != printB (nthP l k).2) = false := by simpa using he
          by_cases h0 : k = 0
          · have HR := Lib.hid (okAt_yes ht he.symm (.inl h0))
            have hd0 : (decide (0 < k)) = false := by simp; omega
            clear he h0
            go_wp2
            rw [HV.out]
            go_quiet (first | (go_at_call 39; refine Calls.quiet_of_same ((textValid_any _ _ hzk).mono fun _ _ h => ⟨h.1, h.2.symm⟩)) | (go_at_call 14; refine Calls.quiet_of_same ((printOf_any _ _ hzk).mono fun _ _ h => ⟨h.1, h.2.symm⟩)))
            go_wp2
            go_quiet (fail)
            go_wp2
            go_roundw
            case rel => exact ⟨k + 1, by omega, by go_num, fun j hj => by rcases Nat.lt_succ_iff_lt_or_eq.1 hj with h | rfl; exact HA.out j h; exact HR.out, below_drewN HBW.out _⟩
            case measure => simp [intOf]; omega
          · have hd0 : (decide (0 < k)) = true := by simp; omega
            have hcp := Lst.atPrev HHW.out hlt (by omega)
            have hk1 : 1 ≤ k := by omega
            by_cases h3 : (nthP l (k - 1)).1 < (nthP l k).1
            · have HR := Lib.hid (okAt_yes ht he.symm (.inr h3))
              clear he h0
              go_wp2
              rw [HV.out]
              go_quiet (first | (go_at_call 39; refine Calls.quiet_of_same ((textValid_any _ _ hzk).mono fun _ _ h => ⟨h.1, h.2.symm⟩)) | (go_at_call 14; refine Calls.quiet_of_same ((printOf_any _ _ hzk).mono fun _ _ h => ⟨h.1, h.2.symm⟩)))
              go_wp2
              go_quiet (fail)
              go_wp2
              go_roundw
              case rel => exact ⟨k + 1, by omega, by go_num, fun j hj => by rcases Nat.lt_succ_iff_lt_or_eq.1 hj with h | rfl; exact HA.out j h; exact HR.out, below_drewN HBW.out _⟩
              case measure => simp [intOf]; omega
            · have HF := Lib.hid (storeB_bad hkl (okAt_no3 h0 h3))
              clear he h0
              go_wp2
              rw [HV.out]
              go_quiet (first | (go_at_call 39; refine Calls.quiet_of_same ((textValid_any _ _ hzk).mono fun _ _ h => ⟨h.1, h.2.symm⟩)) | (go_at_call 14; refine Calls.quiet_of_same ((printOf_any _ _ hzk).mono fun _ _ h => ⟨h.1, h.2.symm⟩)))
              go_wp2
              go_quiet (fail)
              go_wp2
              go_ret
              exact ⟨ret_bool HF.out.symm, below_drewN (below_drewN HBW.out _) _⟩
        · have HF := Lib.hid (storeB_bad hkl (okAt_no2 fun h => he h.symm))
          have hd : ((nthP l k).1 != printB (nthP l k).2) = true := by simpa using he
          clear he
          go_wp2
          rw [HV.out]
          go_quiet (first | (go_at_call 39; refine Calls.quiet_of_same ((textValid_any _ _ hzk).mono fun _ _ h => ⟨h.1, h.2.symm⟩)) | (go_at_call 14; refine Calls.quiet_of_same ((printOf_any _ _ hzk).mono fun _ _ h => ⟨h.1, h.2.symm⟩)))
          go_wp2
          go_ret
          exact ⟨ret_bool HF.out.symm, below_drewN HBW.out _⟩
    · have HF := Lib.hid (storeB_end (l := l) (fun j hj => HA.out j (by have := HL.out; omega)))
      go_wp2
      go_ret
      exact ⟨ret_bool (by rw [HF.out, HL.out]; simp; omega), HB.out⟩
end Go.Proofs.Ytlbebbkkpjgboaa
