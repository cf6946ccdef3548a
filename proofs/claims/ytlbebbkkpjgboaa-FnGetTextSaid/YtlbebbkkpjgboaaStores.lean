/-
  Contracts of chapter 4's model: stores.
-/
import Derived.Test.YtlbebbkkpjgboaaPlain4
namespace Go.Proofs.Ytlbebbkkpjgboaa
open Go.RowKit
set_option linter.unusedVariables false
theorem printB_none {s : ByteArray} (h : textB s = false) : printB s = -1 := by unfold printB; rw [h]; rfl
/-- The number of a piece before. -/
theorem Lst.atPrev {w : World} {B : Nat} {b off n cap : Nat} {l : List Pc} (h : Pcs w B (some ⟨b, off, none⟩) n cap l) {k : Nat} (hk : k < n) (h0 : 0 < k) :
    w.cell? ⟨b, off + (k - 1) * 2, none⟩ = some (.int .i64 (nthP l (k - 1)).1) := by
  obtain ⟨b', off', e, _, h1, _⟩ := h.atP (k := k - 1) (by omega)
  simp only [Option.some.injEq, Addr.mk.injEq, and_true] at e
  obtain ⟨rfl, rfl⟩ := e
  exact h1
theorem specL4Get_any (x : Option Addr) (n cap : Nat) (l : List Pc) (p : Int) (B : Nat) (w : World) (h : Pcs w B x n cap l) : Calls Try.prog 37 #[.slice x n cap, .int .i64 p] w fun e w' => e = .returned (.tuple #[.string (getT l p), .bool (getO l p)]) ∧ w = w' := by
  have HL := Lib.hid h.len
  have HH := Lib.hid h
  have hmx := h.max
  have hle := h.le
  clear h
  unfold maxLen at hmx
  go_enter Try.func37, Try.ntmps37
  go_wp2
  go_loop [6] (fun i => ∃ k : Nat, k ≤ n ∧ i = .int .i64 k ∧ ∀ j, j < k → (nthP l j).1 ≠ p) (fun i => n - (intOf i).toNat)
  case atStart => exact ⟨0, by omega, rfl, fun j hj => by omega⟩
  case round =>
    obtain ⟨k, hk, rfl, hn⟩ := hrel
    have HN := Lib.hid hn; clear hn
    by_cases hlt : k < n
    · obtain ⟨b, off, rfl, hb, hc0, hc1⟩ := HH.out.atP hlt
      by_cases he : (nthP l k).1 = p
      · have HF := Lib.hid (getB_some (by have := HL.out; omega) HN.out he)
        have hd : ((nthP l k).1 == p) = true := by simpa using he
        clear he
        go_wp2
        go_ret2
        exact ⟨by unfold getT getO; rw [HF.out]; rfl, rfl⟩
      · have hd : ((nthP l k).1 == p) = false := by simpa using he
        have HX := Lib.hid he
        clear he
        go_wp2
        go_round
        case rel => exact ⟨k + 1, by omega, by go_num, fun j hj => by rcases Nat.lt_succ_iff_lt_or_eq.1 hj with h | rfl; exact HN.out j h; exact HX.out⟩
        case measure => simp [intOf]; omega
    · have HF := Lib.hid (getB_none (l := l) (p := p) (fun j hj => HN.out j (by have := HL.out; omega)))
      go_wp2
      go_ret2
      exact ⟨by unfold getT getO; rw [HF.out]; rfl, rfl⟩
theorem specStoreValid_any (x : Option Addr) (n cap : Nat) (l : List Pc) (B : Nat) (w : World) (h : Pcs w B x n cap l) (hz : ∀ k, (nthP l k).2.size ≤ maxLen) : Calls Try.prog 36 #[.slice x n cap] w (QuietB (storeB l) w) := by
  have HL := Lib.hid h.len
  have HH := Lib.hid h
  have HZ := Lib.hid hz
  have hmx := h.max
  have hle := h.le
  clear h hz
  unfold maxLen at hmx
  go_enter Try.func36, Try.ntmps36
  go_wp2
  go_loopw [3] (fun i wr => ∃ k : Nat, k ≤ n ∧ i = .int .i64 k ∧ (∀ j, j < k → okAt l j = true) ∧ ∃ q, wr = w.drewN q) (fun i _ => n - (intOf i).toNat)
  case atStart => exact ⟨0, by omega, rfl, fun j hj => by omega, 0, rfl⟩
  case round =>
    obtain ⟨k, hk, rfl, ha, hp⟩ := hrel
    have HA := Lib.hid ha; have HP := Lib.hid hp; clear ha hp
    have fin : ∀ (b : Bool) (q : Nat), storeB l = b → QuietB (storeB l) w (.returned (.bool b)) (wr.drewN q) := fun b q hb => by
      obtain ⟨p, rfl⟩ := HP.out
      exact ⟨ret_bool hb.symm, _, by rw [World.drewN_drewN]⟩
    by_cases hlt : k < n
    · have hkl : k < l.length := by have := HL.out; omega
      obtain ⟨b, off, rfl, hb, hc0, hc1⟩ := (HH.out.keep (w' := wr) (by obtain ⟨p, rfl⟩ := HP.out; intro _ _; rfl)).atP hlt
      have hzk := HZ.out k
      cases ht : textB (nthP l k).2
      · have HF := Lib.hid (storeB_bad hkl (okAt_no1 ht))
        have HFI := Lib.hid fin
        clear fin
        go_wp2
        go_quiet (first | (go_at_call 57; refine Calls.quiet_of_same ((specTextValid_any _ _ hzk).mono fun _ _ h => ⟨h.1, h.2.symm⟩)) | (go_at_call 58; refine Calls.quiet_of_same ((specPrintOf_any _ _ hzk).mono fun _ _ h => ⟨h.1, h.2.symm⟩)))
        go_wp2
        go_ret
        exact HFI.out _ _ HF.out
      · by_cases he : printB (nthP l k).2 = (nthP l k).1
        · have hd : (printB (nthP l k).2 != (nthP l k).1) = false := by simpa using he
          by_cases h0 : k = 0
          · have HR := Lib.hid (okAt_yes ht he (.inl h0))
            have hd0 : (decide (0 < k)) = false := by simp; omega
            clear he h0
            clear fin
            go_wp2
            go_quiet (first | (go_at_call 57; refine Calls.quiet_of_same ((specTextValid_any _ _ hzk).mono fun _ _ h => ⟨h.1, h.2.symm⟩)) | (go_at_call 58; refine Calls.quiet_of_same ((specPrintOf_any _ _ hzk).mono fun _ _ h => ⟨h.1, h.2.symm⟩)))
            go_wp2
            go_roundw
            case rel => exact ⟨k + 1, by omega, by go_num, fun j hj => by rcases Nat.lt_succ_iff_lt_or_eq.1 hj with h | rfl; exact HA.out j h; exact HR.out, by obtain ⟨p, rfl⟩ := HP.out; exact ⟨_, by rw [World.drewN_drewN]⟩⟩
            case measure => simp [intOf]; omega
          · have hd0 : (decide (0 < k)) = true := by simp; omega
            have hcp := Lst.atPrev (HH.out.keep (w' := wr) (by obtain ⟨p, rfl⟩ := HP.out; intro _ _; rfl)) hlt (by omega)
            have hk1 : 1 ≤ k := by omega
            by_cases h3 : (nthP l (k - 1)).1 < (nthP l k).1
            · have HR := Lib.hid (okAt_yes ht he (.inr h3))
              clear he h0
              clear fin
              go_wp2
              go_quiet (first | (go_at_call 57; refine Calls.quiet_of_same ((specTextValid_any _ _ hzk).mono fun _ _ h => ⟨h.1, h.2.symm⟩)) | (go_at_call 58; refine Calls.quiet_of_same ((specPrintOf_any _ _ hzk).mono fun _ _ h => ⟨h.1, h.2.symm⟩)))
              go_wp2
              go_roundw
              case rel => exact ⟨k + 1, by omega, by go_num, fun j hj => by rcases Nat.lt_succ_iff_lt_or_eq.1 hj with h | rfl; exact HA.out j h; exact HR.out, by obtain ⟨p, rfl⟩ := HP.out; exact ⟨_, by rw [World.drewN_drewN]⟩⟩
              case measure => simp [intOf]; omega
            · have HF := Lib.hid (storeB_bad hkl (okAt_no3 h0 h3))
              clear he h0
              have HFI := Lib.hid fin
              clear fin
              go_wp2
              go_quiet (first | (go_at_call 57; refine Calls.quiet_of_same ((specTextValid_any _ _ hzk).mono fun _ _ h => ⟨h.1, h.2.symm⟩)) | (go_at_call 58; refine Calls.quiet_of_same ((specPrintOf_any _ _ hzk).mono fun _ _ h => ⟨h.1, h.2.symm⟩)))
              go_wp2
              go_ret
              exact HFI.out _ _ HF.out
        · have HF := Lib.hid (storeB_bad hkl (okAt_no2 he))
          have hd : (printB (nthP l k).2 != (nthP l k).1) = true := by simpa using he
          clear he
          have HFI := Lib.hid fin
          clear fin
          go_wp2
          go_quiet (first | (go_at_call 57; refine Calls.quiet_of_same ((specTextValid_any _ _ hzk).mono fun _ _ h => ⟨h.1, h.2.symm⟩)) | (go_at_call 58; refine Calls.quiet_of_same ((specPrintOf_any _ _ hzk).mono fun _ _ h => ⟨h.1, h.2.symm⟩)))
          go_wp2
          go_ret
          exact HFI.out _ _ HF.out
    · have HF := Lib.hid (storeB_end (l := l) (fun j hj => HA.out j (by have := HL.out; omega)))
      go_wp2
      go_ret
      obtain ⟨p, rfl⟩ := HP.out
      exact ⟨ret_bool (by rw [HF.out, HL.out]; simp; omega), p, rfl⟩
end Go.Proofs.Ytlbebbkkpjgboaa
