/-
  Chapter 15's model: branches.
-/
import Derived.Test.YtiniadlpgomgjaaBrs
import Derived.Test.YtiniadlpgomgjaaMath15
import Derived.Test.YtiniadlpgomgjaaHelp
namespace Go.Proofs.Ytiniadlpgomgjaa
open Go.RowKit
set_option linter.unusedVariables false

theorem specBranchesValid_any (x : Option Addr) (n cap : Nat) (l : List Ent) (many : Int) (B : Nat) (w : World) (h : Ents w B x n cap l) (hz : ∀ k, (nthE l k).1.size ≤ maxLen) : Calls Try.prog 13 #[.slice x n cap, .int .i64 many] w (QuietB (brsB l many) w) := by
  have HL := Lib.hid h.len
  have HH := Lib.hid h
  have HZ := Lib.hid hz
  have hmx := h.max
  have hle := h.le
  clear h hz
  unfold maxLen at hmx
  cases hm : in3 many 0 12
  · have HF := Lib.hid (brsB_many (l := l) hm)
    go_enter Try.func13, Try.ntmps13
    go_wp2_with (first | (go_at_call 36; refine (l1In_any _ _ _ _).mono ?_; rintro e w' ⟨rfl, rfl⟩; rw [hm]))
    go_ret
    exact ⟨ret_bool HF.out.symm, 0, rfl⟩
  have hmn : 0 ≤ many ∧ many ≤ 12 := by unfold in3 at hm; rwa [decide_eq_true_eq] at hm
  have hwm : IntKind.i64.wrap (many - 1) = many - 1 := by rw [IntKind.wrap_i64]; omega
  have HM := Lib.hid hm
  go_enter Try.func13, Try.ntmps13
  go_wp2_with (first | (go_at_call 36; refine (l1In_any _ _ _ _).mono ?_; rintro e w' ⟨rfl, rfl⟩; rw [hm]))
  go_loopw [5] (fun i wr => ∃ k : Nat, k ≤ n ∧ i = .int .i64 k ∧ (∀ j, j < k → okBr many l j = true) ∧ ∃ q, wr = w.drewN q) (fun i _ => n - (intOf i).toNat)
  case atStart => exact ⟨0, by omega, rfl, fun j hj => by omega, 0, rfl⟩
  case round =>
    obtain ⟨k, hk, rfl, ha, hp⟩ := hrel
    have HA := Lib.hid ha; have HP := Lib.hid hp; clear ha hp
    have fin : ∀ (b : Bool) (q : Nat), brsB l many = b → QuietB (brsB l many) w (.returned (.bool b)) (wr.drewN q) := fun b q hb => by
      obtain ⟨p, rfl⟩ := HP.out
      exact ⟨ret_bool hb.symm, _, by rw [World.drewN_drewN]⟩
    by_cases hlt : k < n
    · have hkl : k < l.length := by have := HL.out; omega
      obtain ⟨b, off, rfl, hb, hc0, hc1⟩ := (HH.out.keep (w' := wr) (by obtain ⟨p, rfl⟩ := HP.out; intro _ _; rfl)).atE hlt
      have hzk := HZ.out k
      cases hw : wordB (nthE l k).1
      · have HF := Lib.hid (brsB_bad (many := many) hkl (okBr_no1 hw))
        have HFI := Lib.hid fin
        clear fin
        go_wp2
        go_quiet (first | (go_at_call 37; refine Calls.quiet_of_same ((specWordValid_any _ _ hzk).mono fun _ _ h => ⟨h.1, h.2.symm⟩)) | (go_at_call 36; refine Calls.quiet_of_same ((l1In_any _ _ _ _).mono fun _ _ h => ⟨h.1, h.2.symm⟩)))
        go_wp2
        go_ret
        exact HFI.out _ _ HF.out
      cases hpi : in3 (nthE l k).2 0 (many - 1)
      · have HF := Lib.hid (brsB_bad (many := many) hkl (okBr_no2 hpi))
        have HFI := Lib.hid fin
        clear fin
        go_wp2
        go_quiet (first | (go_at_call 37; refine Calls.quiet_of_same ((specWordValid_any _ _ hzk).mono fun _ _ h => ⟨h.1, h.2.symm⟩)) | (go_at_call 36; refine Calls.quiet_of_same ((l1In_any _ _ _ _).mono fun _ _ h => ⟨h.1, h.2.symm⟩)))
        go_wp2
        go_ret
        exact HFI.out _ _ HF.out
      by_cases h0 : k = 0
      · have HR := Lib.hid (okBr_yes hw hpi (.inl h0))
        have hd0 : (decide (0 < k)) = false := by simp; omega
        clear h0 fin
        go_wp2
        go_quiet (first | (go_at_call 37; refine Calls.quiet_of_same ((specWordValid_any _ _ hzk).mono fun _ _ h => ⟨h.1, h.2.symm⟩)) | (go_at_call 36; refine Calls.quiet_of_same ((l1In_any _ _ _ _).mono fun _ _ h => ⟨h.1, h.2.symm⟩)))
        go_wp2
        go_roundw
        case rel => exact ⟨k + 1, by omega, by go_num, fun j hj => by rcases Nat.lt_succ_iff_lt_or_eq.1 hj with h | rfl; exact HA.out j h; exact HR.out, by obtain ⟨p, rfl⟩ := HP.out; exact ⟨_, by rw [World.drewN_drewN]⟩⟩
        case measure => simp [intOf]; omega
      have hd0 : (decide (0 < k)) = true := by simp; omega
      have hcp := Lst.atPrevE (HH.out.keep (w' := wr) (by obtain ⟨p, rfl⟩ := HP.out; intro _ _; rfl)) hlt (by omega)
      have hk1 : 1 ≤ k := by omega
      have hwk : IntKind.i64.wrap ((k : Int) - 1) = (k : Int) - 1 := by rw [IntKind.wrap_i64]; omega
      have htk : ((k : Int) - 1).toNat = k - 1 := by omega
      have hbk : (0 : Int) ≤ (k : Int) - 1 := by omega
      have hbn : (k : Int) - 1 < (n : Int) := by omega
      cases hle3 : leB (nthE l k).1 (nthE l (k - 1)).1
      · have HR := Lib.hid (okBr_yes hw hpi (.inr hle3))
        unfold leB at hle3
        rw [Bool.or_eq_false_iff] at hle3
        obtain ⟨hx1, hx2⟩ := hle3
        clear h0 fin
        go_wp2
        go_quiet (first | (go_at_call 37; refine Calls.quiet_of_same ((specWordValid_any _ _ hzk).mono fun _ _ h => ⟨h.1, h.2.symm⟩)) | (go_at_call 36; refine Calls.quiet_of_same ((l1In_any _ _ _ _).mono fun _ _ h => ⟨h.1, h.2.symm⟩)))
        go_wp2
        go_roundw
        case rel => exact ⟨k + 1, by omega, by go_num, fun j hj => by rcases Nat.lt_succ_iff_lt_or_eq.1 hj with h | rfl; exact HA.out j h; exact HR.out, by obtain ⟨p, rfl⟩ := HP.out; exact ⟨_, by rw [World.drewN_drewN]⟩⟩
        case measure => simp [intOf]; omega
      · have HF := Lib.hid (brsB_bad (many := many) hkl (okBr_no3 h0 hle3))
        unfold leB at hle3
        have HFI := Lib.hid fin
        clear fin h0
        go_wp2
        go_quiet (first | (go_at_call 37; refine Calls.quiet_of_same ((specWordValid_any _ _ hzk).mono fun _ _ h => ⟨h.1, h.2.symm⟩)) | (go_at_call 36; refine Calls.quiet_of_same ((l1In_any _ _ _ _).mono fun _ _ h => ⟨h.1, h.2.symm⟩)))
        go_wp2
        go_ret
        exact HFI.out _ _ HF.out
    · have HF := Lib.hid (brsB_end (l := l) (many := many) HM.out (fun j hj => HA.out j (by have := HL.out; omega)))
      go_wp2
      go_ret
      obtain ⟨p, rfl⟩ := HP.out
      exact ⟨ret_bool (by rw [HF.out, HL.out]; simp; omega), p, rfl⟩
set_option maxHeartbeats 1000000 in
theorem specDropBranch_any (x : Option Addr) (n cap : Nat) (l : List Ent) (many : Int) (nm : ByteArray) (B : Nat) (w : World) (h : Ents w B x n cap l) (hB : B ≤ w.heap.size) (hz : ∀ k, (nthE l k).1.size ≤ maxLen) (hp : nm.size ≤ maxLen) :
    Calls Try.prog 24 #[.slice x n cap, .int .i64 many, .string nm] w (NewBrB (dropBr l many nm).1 (dropBr l many nm).2 w) := by
  have HL := Lib.hid h.len
  have hle := h.le
  have hmx := h.max
  unfold maxLen at hmx
  have HH := Lib.hid h
  have HZ := Lib.hid hz
  have HN := Lib.hid (OwnL.new enG 29 (size := 2) w)
  have HB0 := Lib.hid ((Below.refl w.heap.size w).alloc (Nat.le_refl _) (.cells #[] 29))
  clear h hz
  cases hv : brsB l many
  · have HF := Lib.hid (dropBr_bad (nm := nm) hv)
    go_enter Try.func24, Try.ntmps24
    go_wp2_with fail
    go_loopw [8, 9] (fun v i wr => i = .int .i64 0 ∧ OwnBr wr w.heap.size v [] ∧ Below w.heap.size w wr) (fun _ i _ => (intOf i).toNat)
    case atStart => exact ⟨rfl, HN.out, HB0.out⟩
    case round =>
      obtain ⟨rfl, ho, hb⟩ := hrel
      have HO := Lib.hid ho; have HBW := Lib.hid hb
      clear ho hb
      by_cases hn0 : 0 < n
      · go_wp2_with (first | (go_at_call 13; ((with_reducible refine (specBranchesValid_any x n cap l many B wr (HH.out.below HBW.out hB) HZ.out).mono ?_); rintro e w2 ⟨rfl, hq⟩; rw [hv]; have HQ := Lib.hid hq; have HB2 := Lib.hid (below_quiet HBW.out hq); clear hq)) | (go_at_call 13; ((with_reducible refine (specBranchesValid_any x n cap l many B w2 (HH.out.below HB2.out hB) HZ.out).mono ?_); rintro e w3 ⟨rfl, hq⟩; rw [hv]; have HQ3 := Lib.hid hq; have HB3 := Lib.hid (below_quiet HB2.out hq); clear hq)))
        go_ret2
        exact newBrB_of (by rw [HF.out]; exact ⟨rfl, rfl⟩) ⟨_, rfl, (HO.out.quiet HQ.out).quiet HQ3.out, HB3.out⟩
      · have hd : ¬ ((0 : Int) < (n : Int)) := by omega
        clear hn0
        go_wp2_with (first | (go_at_call 13; ((with_reducible refine (specBranchesValid_any x n cap l many B wr (HH.out.below HBW.out hB) HZ.out).mono ?_); rintro e w2 ⟨rfl, hq⟩; rw [hv]; have HQ := Lib.hid hq; have HB2 := Lib.hid (below_quiet HBW.out hq); clear hq)))
        go_ret2
        exact newBrB_of (by rw [HF.out]; exact ⟨rfl, rfl⟩) ⟨_, rfl, HO.out.quiet HQ.out, HB2.out⟩
  · have HF := Lib.hid (dropBr_ok (nm := nm) hv)
    have hn6x : n ≤ 6 := by have := (brsB_at hv).2.1; have := HL.out; omega
    go_enter Try.func24, Try.ntmps24
    go_wp2_with fail
    go_loopw [8, 9] (fun v i wr => ∃ k : Nat, k ≤ n ∧ i = .int .i64 k ∧ OwnBr wr w.heap.size v (lessE (l.take k) nm) ∧ Below w.heap.size w wr) (fun _ i _ => n - (intOf i).toNat)
    case atStart => exact ⟨0, by omega, rfl, HN.out, HB0.out⟩
    case round =>
      obtain ⟨k, hk, rfl, ho, hb⟩ := hrel
      have HO := Lib.hid ho; have HBW := Lib.hid hb
      clear ho hb
      have hwr := HBW.out.size
      have hll : (lessE (l.take k) nm).length ≤ 2000000 := by have := lessE_len (l.take k) nm; rw [List.length_take] at this; omega
      by_cases hlt : k < n
      · have hkl : k < l.length := by have := HL.out; omega
        have hq0 := HH.out.below HBW.out hB
        cases hm : ((nthE l k).1.toList == nm.toList)
        · have HST := Lib.hid (lessE_yes hkl hm)
          go_wp2_with (first
            | (go_at_call 13; refine (specBranchesValid_any x n cap l many B _ hq0 HZ.out).mono ?_; rintro e w2 ⟨rfl, hq⟩; rw [hv]; obtain ⟨b, off, rfl, hbb, hc0, hc1⟩ := (HH.out.below (below_quiet HBW.out hq) hB).atE hlt; have HQ := Lib.hid hq; have HB2 := Lib.hid (below_quiet HBW.out hq); have HO2 := Lib.hid (HO.out.quiet hq); have hw2 : w.heap.size ≤ w2.heap.size := HB2.out.size; clear hq)
            | (at_builtin; refine wpList_app1L eltBr encEn (nthE l k) _ rfl HO2.out hll hw2 rfl _ _ rfl rfl rfl ?_; intro v' w' hown hgrow; have HW := Lib.hid hown; have HG := Lib.hid hgrow; clear hown hgrow))
          go_roundw
          case rel => exact ⟨k + 1, by omega, by go_num, by rw [HST.out]; exact HW.out, HB2.out.grown HG.out hw2 HO2.out.at⟩
          case measure => simp [intOf]; omega
        · have HST := Lib.hid (lessE_no hkl hm)
          go_wp2_with (first
            | (go_at_call 13; refine (specBranchesValid_any x n cap l many B _ hq0 HZ.out).mono ?_; rintro e w2 ⟨rfl, hq⟩; rw [hv]; obtain ⟨b, off, rfl, hbb, hc0, hc1⟩ := (HH.out.below (below_quiet HBW.out hq) hB).atE hlt; have HQ := Lib.hid hq; have HB2 := Lib.hid (below_quiet HBW.out hq); have HO2 := Lib.hid (HO.out.quiet hq); clear hq))
          go_roundw
          case rel => exact ⟨k + 1, by omega, by go_num, by rw [HST.out]; exact HO2.out, HB2.out⟩
          case measure => simp [intOf]; omega
      · have HX := Lib.hid (show l.take k = l from List.take_of_length_le (by have := HL.out; omega))
        obtain ⟨xo, no, co, rfl, hlo⟩ := HO.out.lst
        have HLO := Lib.hid (show (lessE l nm).length = no by have := hlo.len; rw [HX.out] at this; exact this)
        clear hlo
        go_wp2_with (first | (go_at_call 13; ((with_reducible refine (specBranchesValid_any x n cap l many B wr (HH.out.below HBW.out hB) HZ.out).mono ?_); rintro e w2 ⟨rfl, hq⟩; rw [hv]; have HQ := Lib.hid hq; have HB2 := Lib.hid (below_quiet HBW.out hq); clear hq)))
        go_ret2
        exact newBrB_of (by rw [HF.out]; exact ⟨rfl, show decide _ = _ by rw [HLO.out, HL.out]⟩) ⟨_, rfl, by rw [← HX.out]; exact HO.out.quiet HQ.out, HB2.out⟩
set_option maxHeartbeats 1000000 in
theorem specBranchAt_any (x : Option Addr) (n cap : Nat) (l : List Ent) (many : Int) (nm : ByteArray) (B : Nat) (w : World) (h : Ents w B x n cap l) (hB : B ≤ w.heap.size) (hz : ∀ k, (nthE l k).1.size ≤ maxLen) (hp : nm.size ≤ maxLen) :
    Calls Try.prog 22 #[.slice x n cap, .int .i64 many, .string nm] w (QuietI (atBr l many nm) w) := by
  have HL := Lib.hid h.len
  have hle := h.le
  have hmx := h.max
  unfold maxLen at hmx
  have HH := Lib.hid h
  have HZ := Lib.hid hz
  clear h hz
  cases hv : brsB l many
  · have HF := Lib.hid (atBr_bad (nm := nm) hv)
    go_enter Try.func22, Try.ntmps22
    go_wp2_with fail
    go_loopw [7] (fun i wr => i = .int .i64 0 ∧ wr = w) (fun i _ => (intOf i).toNat)
    case atStart => exact ⟨rfl, rfl⟩
    case round =>
      obtain ⟨rfl, rfl⟩ := hrel
      by_cases hn0 : 0 < n
      · go_wp2_with (go_at_call 13; ((with_reducible refine (specBranchesValid_any x n cap l many B _ HH.out HZ.out).mono ?_); rintro e w2 ⟨rfl, hq⟩; rw [hv]; have HQ := Lib.hid hq; clear hq))
        go_ret
        exact ⟨ret_int HF.out.symm, HQ.out⟩
      · have hd : ¬ ((0 : Int) < (n : Int)) := by omega
        clear hn0
        go_wp2_with fail
        go_ret
        exact ⟨ret_int HF.out.symm, 0, rfl⟩
  · have hn6x : n ≤ 6 := by have := (brsB_at hv).2.1; have := HL.out; omega
    have HV := Lib.hid hv
    go_enter Try.func22, Try.ntmps22
    go_wp2_with fail
    go_loopw [7] (fun i wr => ∃ k : Nat, k ≤ n ∧ i = .int .i64 k ∧ findE l nm = findE (l.drop k) nm ∧ ∃ q, wr = w.drewN q) (fun i _ => n - (intOf i).toNat)
    case atStart => exact ⟨0, by omega, rfl, by rw [List.drop_zero], 0, rfl⟩
    case round =>
      obtain ⟨k, hk, rfl, hf, hq⟩ := hrel
      have HF := Lib.hid hf; have HP := Lib.hid hq
      clear hf hq
      have HR := Lib.hid (show Ents wr B x n cap l by obtain ⟨q, rfl⟩ := HP.out; exact HH.out.keep (w' := w.drewN q) (by intro _ _; rfl))
      by_cases hlt : k < n
      · have hkl : k < l.length := by have := HL.out; omega
        cases hm : ((nthE l k).1.toList == nm.toList)
        · have HST := Lib.hid (findE_step hkl hm)
          go_wp2_with (go_at_call 13; ((with_reducible refine (specBranchesValid_any x n cap l many B _ HR.out HZ.out).mono ?_); rintro e w2 ⟨rfl, hq⟩; rw [hv]; obtain ⟨b, off, rfl, hbb, hc0, hc1⟩ := (HR.out.keep (w' := w2) (by obtain ⟨q, rfl⟩ := hq; intro _ _; rfl)).atE hlt; have HQ := Lib.hid hq; clear hq))
          go_roundw
          case rel => exact ⟨k + 1, by omega, by go_num, by rw [HF.out, HST.out], by obtain ⟨q, rfl⟩ := HP.out; obtain ⟨q', rfl⟩ := HQ.out; exact ⟨_, by rw [World.drewN_drewN]⟩⟩
          case measure => simp [intOf]; omega
        · have HST := Lib.hid (atBr_some HV.out (HF.out.trans (findE_stop hkl hm)))
          go_wp2_with (go_at_call 13; ((with_reducible refine (specBranchesValid_any x n cap l many B _ HR.out HZ.out).mono ?_); rintro e w2 ⟨rfl, hq⟩; rw [hv]; obtain ⟨b, off, rfl, hbb, hc0, hc1⟩ := (HR.out.keep (w' := w2) (by obtain ⟨q, rfl⟩ := hq; intro _ _; rfl)).atE hlt; have HQ := Lib.hid hq; clear hq))
          go_ret
          exact ⟨ret_int HST.out.symm, by obtain ⟨q, rfl⟩ := HP.out; obtain ⟨q', rfl⟩ := HQ.out; exact ⟨_, by rw [World.drewN_drewN]⟩⟩
      · have HX := Lib.hid (atBr_none (many := many) (HF.out.trans (findE_end (nm := nm) (by have := HL.out; omega))))
        go_wp2_with fail
        go_ret
        exact ⟨ret_int HX.out.symm, HP.out⟩
end Go.Proofs.Ytiniadlpgomgjaa
