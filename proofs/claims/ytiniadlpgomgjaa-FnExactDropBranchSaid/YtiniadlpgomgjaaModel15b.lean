/-
  Chapter 15's model: a branch is set.
-/
import Derived.Test.YtiniadlpgomgjaaModel15
import Derived.Test.YtiniadlpgomgjaaMem
import Derived.Test.YtiniadlpgomgjaaImpl4
import Derived.Deep.CutRange
import Derived.Deep.CutBlock
namespace Go.Proofs.Ytiniadlpgomgjaa
open Go.RowKit
set_option linter.unusedVariables false
set_option maxHeartbeats 2000000 in
set_option maxRecDepth 100000 in
theorem specSetBranch_any (x : Option Addr) (n cap : Nat) (l : List Ent) (many : Int) (p : Ent) (B : Nat) (w : World) (h : Ents w B x n cap l) (hB : B ≤ w.heap.size) (hz : ∀ k, (nthE l k).1.size ≤ maxLen) (hp : p.1.size ≤ maxLen) :
    Calls Try.prog 17 #[.slice x n cap, .int .i64 many, .agg #[.string p.1, .int .i64 p.2]] w (NewBrB (putBr l many p).1 (putBr l many p).2 w) := by
  have HL := Lib.hid h.len
  have hle := h.le
  have hmx := h.max
  unfold maxLen at hmx
  obtain ⟨W, hW⟩ : ∃ W, w.alloc (.cells #[.string p.1, .int .i64 p.2] 29) = W := ⟨_, rfl⟩
  have hO := h.alloc hB (.cells #[.string p.1, .int .i64 p.2] 29)
  have hnew := heap_alloc_new w (.cells #[.string p.1, .int .i64 p.2] 29)
  have hB0 := (Below.refl w.heap.size w).alloc (Nat.le_refl _) (.cells #[.string p.1, .int .i64 p.2] 29)
  have hWs : w.heap.size + 1 = W.heap.size := by rw [← hW]; simp
  rw [hW] at hO hnew hB0
  have HN := Lib.hid hnew; have HO := Lib.hid hO; have HB := Lib.hid hB0
  clear hnew hO hB0 h
  cases hv : brsB l many
  · have HF := Lib.hid (putBr_bad (e := p) hv)
    go_enter Try.func17, Try.ntmps17
    go_wp2_with (go_at_call 13; refine (specBranchesValid_any _ _ _ _ _ _ _ HO.out hz).mono ?_; rintro e w1 ⟨rfl, hq⟩; rw [hv]; have HQ := Lib.hid hq; clear hq)
    go_ret2
    exact newBrB_of (by rw [HF.out]; exact ⟨rfl, rfl⟩) ⟨_, rfl, OwnL.newAt _ _ rfl (by rw [size_quiet HQ.out]; omega), (below_quiet HB.out HQ.out).alloc (by rw [size_quiet HQ.out]; omega) _⟩
  have hn6x : n ≤ 6 := by have := (brsB_at hv).2.1; have := HL.out; omega
  have HP0 := Lib.hid (two_at HN.out)
  have hBW : B ≤ W.heap.size := by omega
  have hwW : w.heap.size ≤ W.heap.size := by omega
  have HBOX := Lib.hid (show ∀ w', Below W.heap.size W w' → w'.cell? ⟨w.heap.size, 0, none⟩ = some (.string p.1) ∧ w'.cell? ⟨w.heap.size, 1, none⟩ = some (.int .i64 p.2) from fun w' hb => by
    have h1 := two_at ((hb.block w.heap.size (by omega)).trans HN.out)
    exact ⟨h1.1, h1.2.1⟩)
  go_enter Try.func17, Try.ntmps17
  go_upto_block 0 with (go_at_call 13; refine (specBranchesValid_any _ _ _ _ _ _ _ HO.out hz).mono ?_; rintro e w1 ⟨rfl, hq⟩; rw [hv]; have HQ := Lib.hid hq; clear hq)
  go_cut [8] from 16 to 31 (fun s6 wx => ∃ k : Nat, s6 = .int .i64 k ∧ k ≤ n ∧ atE p.1 l = k ∧ ∃ q, wx = W.drewN q)
  case first =>
    go_wp2_with fail
    go_loopw [8] (fun i wr => ∃ k : Nat, k ≤ n ∧ i = .int .i64 k ∧ (∀ j, j < k → ltN (nthE l j).1 p.1 = true) ∧ ∃ q, wr = W.drewN q) (fun i _ => n - (intOf i).toNat)
    case atStart => exact ⟨0, by omega, rfl, fun j hj => by omega, HQ.out⟩
    case round =>
      obtain ⟨k, hk, rfl, ha, hpq⟩ := hrel
      have HA := Lib.hid ha; have HP := Lib.hid hpq; clear ha hpq
      obtain ⟨p0, p1, p2, p3⟩ := (show wr.cell? ⟨w.heap.size, 0, none⟩ = some (.string p.1) ∧ wr.cell? ⟨w.heap.size, 1, none⟩ = some (.int .i64 p.2) ∧ wr.frozen? ⟨w.heap.size, 0, none⟩ = false ∧ wr.frozen? ⟨w.heap.size, 1, none⟩ = false by obtain ⟨q, rfl⟩ := HP.out; exact HP0.out)
      by_cases hlt : k < n
      · obtain ⟨b, off, rfl, hb, hc0, hc1⟩ := (HO.out.keep (w' := wr) (by obtain ⟨q, rfl⟩ := HP.out; intro _ _; rfl)).atE hlt
        cases hm : ltN (nthE l k).1 p.1
        · have hm' : Op.bytesLess (nthE l k).1.toList p.1.toList = false := hm
          have HAT := Lib.hid (atE_eq (p := p.1) (l := l) (k := k) (by have := HL.out; omega) HA.out (.inr hm))
          clear hm
          go_wp2
          go_quiet (fail)
          go_wp2
          go_meet
          case rel => exact ⟨k, rfl, by omega, HAT.out, by obtain ⟨q, rfl⟩ := HP.out; exact ⟨_, by rw [World.drewN_drewN]⟩⟩
        · have HM := Lib.hid hm
          have hm' : Op.bytesLess (nthE l k).1.toList p.1.toList = true := hm
          clear hm
          go_wp2
          go_quiet (fail)
          go_wp2
          go_roundw
          case rel => exact ⟨k + 1, by omega, by go_num, fun j hj => by rcases Nat.lt_succ_iff_lt_or_eq.1 hj with h | rfl; exact HA.out j h; exact HM.out, by obtain ⟨q, rfl⟩ := HP.out; exact ⟨_, by rw [World.drewN_drewN]⟩⟩
          case measure => simp [intOf]; omega
      · have HAT := Lib.hid (atE_eq (p := p.1) (l := l) (k := k) (by have := HL.out; omega) HA.out (.inl (by have := HL.out; omega)))
        go_wp2
        go_quiet (fail)
        go_wp2
        go_meet
        case rel => exact ⟨k, rfl, hk, HAT.out, by obtain ⟨q, rfl⟩ := HP.out; exact ⟨_, by rw [World.drewN_drewN]⟩⟩
  case rest =>
    rename World => wq
    obtain ⟨k, rfl, hk, hat, hq⟩ := hcut
    have HAT := Lib.hid hat; have HP := Lib.hid hq; clear hat hq
    have hkc : (k : Int) ≤ (cap : Int) := by omega
    have hk0 : (0 : Int) ≤ (k : Int) := by omega
    go_upto_region 6 with fail
    go_cut [9] from 32 to 34 (fun s7 wx => wq = wx ∧ ∃ x7 n7 c7, s7 = .slice x7 n7 c7 ∧ Lst enG W B x7 n7 c7 (l.drop k))
    case first =>
      by_cases hn0 : n = 0
      · subst hn0
        obtain rfl : k = 0 := by omega
        have HE := Lib.hid (show l.drop 0 = [] by rw [List.eq_nil_of_length_eq_zero HL.out]; rfl)
        go_wp2_with fail
        all_goals
          go_meet
          case rel => exact ⟨rfl, _, _, _, rfl, by rw [HE.out]; exact Lst.empty _ _ _ _ _ (by unfold maxLen; omega)⟩
      · obtain ⟨b, off, rfl, _, _, _⟩ := HO.out.atE (k := 0) (by omega)
        by_cases hck : cap = k
        · have HE := Lib.hid (show l.drop k = [] from List.drop_of_length_le (by have := HL.out; omega))
          subst hck
          go_wp2_with fail
          go_meet
          case rel => exact ⟨rfl, _, _, _, rfl, by rw [HE.out]; exact Lst.empty _ _ _ _ _ (by unfold maxLen; omega)⟩
        · have HR := Lib.hid (Lst.rest encEn HO.out (m := k) (by omega))
          go_wp2_with fail
          go_meet
          case rel => exact ⟨rfl, _, _, _, rfl, HR.out⟩
    case rest =>
      obtain ⟨rfl, x6, n6, c6, rfl, hr6⟩ := hcut
      have HR6 := Lib.hid hr6
      clear hr6
      go_upto_region 7 with fail
      go_cut [48] from 35 to 48 (fun s45 wx => s45 = .bool (decide (k < l.length) && decide ((nthE l k).1 = p.1)) ∧ ∃ q, wx = W.drewN q)
      case first =>
        obtain ⟨p0, p1, p2, p3⟩ := (show wq.cell? ⟨w.heap.size, 0, none⟩ = some (.string p.1) ∧ wq.cell? ⟨w.heap.size, 1, none⟩ = some (.int .i64 p.2) ∧ wq.frozen? ⟨w.heap.size, 0, none⟩ = false ∧ wq.frozen? ⟨w.heap.size, 1, none⟩ = false by obtain ⟨q, rfl⟩ := HP.out; exact HP0.out)
        by_cases hlt : k < n
        · obtain ⟨b, off, rfl, hb, hc0, hc1⟩ := (HO.out.keep (w' := wq) (by obtain ⟨q, rfl⟩ := HP.out; intro _ _; rfl)).atE hlt
          have hll : decide (k < l.length) = true := decide_eq_true (by have := HL.out; omega)
          cases hm : ((nthE l k).1.toList == p.1.toList)
          · have HT := Lib.hid (show (decide (k < l.length) && decide ((nthE l k).1 = p.1)) = false by rw [← str_beq, hm, Bool.and_false])
            clear hll
            go_quiet (fail)
            go_wp2
            go_meet
            case rel => exact ⟨by rw [HT.out], by obtain ⟨q, rfl⟩ := HP.out; exact ⟨_, by rw [World.drewN_drewN]⟩⟩
          · have HT := Lib.hid (show (decide (k < l.length) && decide ((nthE l k).1 = p.1)) = true by rw [← str_beq, hm, hll]; rfl)
            clear hll
            go_quiet (fail)
            go_wp2
            go_meet
            case rel => exact ⟨by rw [HT.out], by obtain ⟨q, rfl⟩ := HP.out; exact ⟨_, by rw [World.drewN_drewN]⟩⟩
        · have HT := Lib.hid (show (decide (k < l.length) && decide ((nthE l k).1 = p.1)) = false by rw [decide_eq_false (by have := HL.out; omega)]; rfl)
          go_quiet (fail)
          go_wp2
          go_meet
          case rel => exact ⟨by rw [HT.out], by obtain ⟨q, rfl⟩ := HP.out; exact ⟨_, by rw [World.drewN_drewN]⟩⟩
      case rest =>
        clear HP
        rename World => wr
        obtain ⟨rfl, hq⟩ := hcut
        have HP := Lib.hid hq
        clear hq
        have HPUT := Lib.hid (show putInE l p = l.take k ++ p :: l.drop (k + if (decide (k < l.length) && decide ((nthE l k).1 = p.1)) = true then 1 else 0) by unfold putInE; rw [HAT.out])
        have HLT := Lib.hid (show (decide (k < l.length) && decide ((nthE l k).1 = p.1)) = true → k < n from fun h => by rw [Bool.and_eq_true, decide_eq_true_eq] at h; have := HL.out; omega)
        obtain ⟨th, hth⟩ : ∃ th, (decide (k < l.length) && decide ((nthE l k).1 = p.1)) = th := ⟨_, rfl⟩
        rw [hth] at HPUT HLT ⊢
        clear hth
        obtain ⟨t, ht⟩ : ∃ t, (if th = true then 1 else 0 : Nat) = t := ⟨_, rfl⟩
        have HT := Lib.hid ht
        rw [ht] at HPUT
        clear ht
        go_upto_if 48 with fail
        go_cut [9] from 48 to 52 (fun s7 wx => wr = wx ∧ ∃ x7 n7 c7, s7 = .slice x7 n7 c7 ∧ Lst enG W B x7 n7 c7 (l.drop (k + t)) ∧ n7 ≤ 2000000)
        case first =>
          have hn6 := HR6.out.len
          rw [List.length_drop] at hn6
          cases th
          · have HT0 := Lib.hid (show t = 0 from HT.out.symm)
            go_wp2_with fail
            go_meet
            case rel => exact ⟨rfl, _, _, _, rfl, by rw [HT0.out]; exact HR6.out, by have := HL.out; omega⟩
          · have hlt := HLT.out rfl
            have HT1 := Lib.hid (show t = 1 from HT.out.symm)
            obtain ⟨b, off, rfl, _, _, _⟩ := HO.out.atE hlt
            have hkc1 : (k : Int) + 1 ≤ (cap : Int) := by omega
            have hk1 : (0 : Int) ≤ (k : Int) + 1 := by omega
            by_cases hck : cap = k + 1
            · have HE := Lib.hid (show l.drop (k + 1) = [] from List.drop_of_length_le (by have := HL.out; omega))
              subst hck
              go_wp2_with fail
              go_meet
              case rel => exact ⟨rfl, _, _, _, rfl, by rw [HT1.out, HE.out]; exact Lst.empty _ _ _ _ _ (by unfold maxLen; omega), by omega⟩
            · have HR := Lib.hid (Lst.rest encEn HO.out (m := k + 1) (by omega))
              go_wp2_with fail
              go_meet
              case rel => exact ⟨rfl, _, _, _, rfl, by rw [HT1.out]; exact HR.out, by omega⟩
        case rest =>
          obtain ⟨rfl, x7, n7, c7, rfl, hr7, hn7⟩ := hcut
          have HREST := Lib.hid hr7
          clear hr7 HR6 HT HLT
          obtain ⟨p0, p1, p2, p3⟩ := (show wr.cell? ⟨w.heap.size, 0, none⟩ = some (.string p.1) ∧ wr.cell? ⟨w.heap.size, 1, none⟩ = some (.int .i64 p.2) ∧ wr.frozen? ⟨w.heap.size, 0, none⟩ = false ∧ wr.frozen? ⟨w.heap.size, 1, none⟩ = false by obtain ⟨q, rfl⟩ := HP.out; exact HP0.out)
          have HBW := Lib.hid (show Below W.heap.size W wr by obtain ⟨q, rfl⟩ := HP.out; exact below_drewN (Below.refl _ _) q)
          have hwr : W.heap.size ≤ wr.heap.size := HBW.out.size
          have pa0 : ∀ o : Obj, (wr.alloc o).cell? ⟨w.heap.size, 0, none⟩ = some (.string p.1) := fun o => (HBOX.out _ (HBW.out.alloc hwr o)).1
          have pa1 : ∀ o : Obj, (wr.alloc o).cell? ⟨w.heap.size, 1, none⟩ = some (.int .i64 p.2) := fun o => (HBOX.out _ (HBW.out.alloc hwr o)).2
          go_upto_region 9 with fail
          go_cut [10] from 53 to 62 (fun s8 wx => ∃ xo no co, s8 = .slice xo no co ∧ OwnBr wx W.heap.size (.slice xo no co) (putInE l p) ∧ Below W.heap.size W wx)
          case first =>
            rcases x with _ | ⟨b, off, xf⟩
            · have hn0 : n = 0 := by
                rcases Nat.eq_zero_or_pos n with h0 | h0
                · exact h0
                · obtain ⟨b, off, e, _⟩ := HO.out.atE (k := 0) h0
                  cases e
              subst hn0
              obtain rfl : k = 0 := by omega
              have HEQ := Lib.hid (show [] ++ [] ++ [p] ++ l.drop (0 + t) = putInE l p by rw [HPUT.out]; rfl)
              have hc0 : (0 : Int) ≤ (cap : Int) := by omega
              go_region_law (first
                  | (refine step_appBE eltBr encEn (w0 := W) (base := W.heap.size) (l := []) (l' := []) (u := p) (kE := wr.heap.size + 1) (gv := wr.heap.size) (nv := 0) (cv := 0) (m := 0) ?_ ?_ ?_ ?_ ?_ ?_ ?_ ?_ rfl (.tmp 53) (.tmp 56) (.tmp 59) rfl rfl rfl rfl ?_; (focus repeat (first | (with_reducible refine OwnL.newAt _ _ ?_ ?_; (focus repeat (first | rfl | with_reducible apply eq_drew | with_reducible apply eq_drewN | with_reducible apply eq_allocS | with_reducible apply eq_alloc)); (focus repeat (first | assumption | with_reducible apply le_drew | with_reducible apply le_drewN | with_reducible apply le_alloc | omega))) | with_reducible apply OwnL.drew | with_reducible apply OwnL.drewN | with_reducible apply OwnL.alloc)); (focus (refine Exists.intro B ?_; refine Lst.empty _ _ _ _ _ ?_; unfold maxLen; omega)); (focus repeat (first | with_reducible exact HBW.out | with_reducible apply Below.drew | with_reducible apply below_drewN | (with_reducible refine Below.alloc ?_ ?_ _; rotate_left; (focus repeat (first | assumption | with_reducible apply le_drew | with_reducible apply le_drewN | with_reducible apply le_alloc | omega))))); (focus repeat (first | (with_reducible refine OneAt.new _ _ ?_ _ _ rfl; (focus repeat (first | rfl | with_reducible apply eq_drew | with_reducible apply eq_drewN | with_reducible apply eq_allocS | with_reducible apply eq_alloc))) | with_reducible apply OneAt.drew | with_reducible apply OneAt.drewN | with_reducible apply OneAt.alloc)); (focus repeat (first | assumption | with_reducible apply le_drew | with_reducible apply le_drewN | with_reducible apply le_alloc | omega)); (focus omega); (focus (first | decide | (simp; done) | (have hl0 := HL.out; simp; omega))); (focus omega); intro v1 w2 hown hb2 hs2 he; obtain ⟨p0, p1⟩ := HBOX.out _ hb2; have H1 := Lib.hid hown; have HB2 := Lib.hid hb2; have HE := Lib.hid he; clear hown hb2 he)
                  | (refine step_appBE eltBr encEn (w0 := W) (base := W.heap.size) (l := []) (l' := []) (u := p) (kE := wr.heap.size) (gv := wr.heap.size + 1) (nv := 0) (cv := 0) (m := 0) ?_ ?_ ?_ ?_ ?_ ?_ ?_ ?_ rfl (.tmp 53) (.tmp 56) (.tmp 59) rfl rfl rfl rfl ?_; (focus repeat (first | (with_reducible refine OwnL.newAt _ _ ?_ ?_; (focus repeat (first | rfl | with_reducible apply eq_drew | with_reducible apply eq_drewN | with_reducible apply eq_allocS | with_reducible apply eq_alloc)); (focus repeat (first | assumption | with_reducible apply le_drew | with_reducible apply le_drewN | with_reducible apply le_alloc | omega))) | with_reducible apply OwnL.drew | with_reducible apply OwnL.drewN | with_reducible apply OwnL.alloc)); (focus (refine Exists.intro B ?_; refine Lst.empty _ _ _ _ _ ?_; unfold maxLen; omega)); (focus repeat (first | with_reducible exact HBW.out | with_reducible apply Below.drew | with_reducible apply below_drewN | (with_reducible refine Below.alloc ?_ ?_ _; rotate_left; (focus repeat (first | assumption | with_reducible apply le_drew | with_reducible apply le_drewN | with_reducible apply le_alloc | omega))))); (focus repeat (first | (with_reducible refine OneAt.new _ _ ?_ _ _ rfl; (focus repeat (first | rfl | with_reducible apply eq_drew | with_reducible apply eq_drewN | with_reducible apply eq_allocS | with_reducible apply eq_alloc))) | with_reducible apply OneAt.drew | with_reducible apply OneAt.drewN | with_reducible apply OneAt.alloc)); (focus repeat (first | assumption | with_reducible apply le_drew | with_reducible apply le_drewN | with_reducible apply le_alloc | omega)); (focus omega); (focus (first | decide | (simp; done) | (have hl0 := HL.out; simp; omega))); (focus omega); intro v1 w2 hown hb2 hs2 he; obtain ⟨p0, p1⟩ := HBOX.out _ hb2; have H1 := Lib.hid hown; have HB2 := Lib.hid hb2; have HE := Lib.hid he; clear hown hb2 he)
                  | (refine step_appB eltBr encEn (w0 := W) (base := W.heap.size) (l := []) (l' := []) (v := .slice (some ⟨wr.heap.size, 0, none⟩) 0 0) (m := 0) ?_ ?_ ?_ ?_ ?_ ?_ rfl (.tmp 53) (.tmp 56) rfl rfl rfl ?_; (focus repeat (first | (with_reducible refine OwnL.newAt _ _ ?_ ?_; (focus repeat (first | rfl | with_reducible apply eq_drew | with_reducible apply eq_drewN | with_reducible apply eq_allocS | with_reducible apply eq_alloc)); (focus repeat (first | assumption | with_reducible apply le_drew | with_reducible apply le_drewN | with_reducible apply le_alloc | omega))) | with_reducible apply OwnL.drew | with_reducible apply OwnL.drewN | with_reducible apply OwnL.alloc)); (focus (refine Exists.intro B ?_; refine Lst.empty _ _ _ _ _ ?_; unfold maxLen; omega)); (focus repeat (first | with_reducible exact HBW.out | with_reducible apply Below.drew | with_reducible apply below_drewN | (with_reducible refine Below.alloc ?_ ?_ _; rotate_left; (focus repeat (first | assumption | with_reducible apply le_drew | with_reducible apply le_drewN | with_reducible apply le_alloc | omega))))); (focus repeat (first | assumption | with_reducible apply le_drew | with_reducible apply le_drewN | with_reducible apply le_alloc | omega)); (focus (first | decide | (simp; done) | (have hl0 := HL.out; simp; omega))); (focus omega); intro v1 w2 hown hb2 hs2; obtain ⟨p0, p1⟩ := HBOX.out _ hb2; have H1 := Lib.hid hown; have HB2 := Lib.hid hb2; clear hown hb2)
                  | (refine step_appB eltBr encEn (w0 := W) (base := W.heap.size) (l := [] ++ []) (l' := [p]) (v := v1) (x := some ⟨w2.heap.size, 0, none⟩) (m := 1) (c := 1) ?_ ?_ ?_ ?_ ?_ ?_ rfl (.tmp 57) (.tmp 59) rfl rfl rfl ?_; (focus repeat (first | with_reducible exact H1.out | with_reducible apply OwnL.drew | with_reducible apply OwnL.alloc)); (focus (refine ⟨_, OneAt.lst (e := 29) ?_⟩; (focus repeat (first | with_reducible exact HE.out | (with_reducible refine OneAt.new _ _ ?_ _ _ rfl; (focus repeat (first | rfl | with_reducible apply eq_drew | with_reducible apply eq_drewN | with_reducible apply eq_allocS | with_reducible apply eq_alloc))) | with_reducible apply OneAt.drew | with_reducible apply OneAt.drewN | with_reducible apply OneAt.alloc)))); (focus repeat (first | with_reducible exact HB2.out | with_reducible apply Below.drew | with_reducible apply below_drewN | (with_reducible refine Below.alloc ?_ ?_ _; rotate_left; (focus repeat (first | assumption | with_reducible apply le_drew | with_reducible apply le_drewN | with_reducible apply le_alloc | omega))))); (focus repeat (first | assumption | with_reducible apply le_drew | with_reducible apply le_drewN | with_reducible apply le_alloc | omega)); (focus (first | decide | (simp; done) | (have hl0 := HL.out; simp; omega))); (focus omega); intro v2 w3 hown hb3 hs3; have H2 := Lib.hid hown; have HB3 := Lib.hid hb3; clear hown hb3)
                  | (refine step_appB eltBr encEn (w0 := W) (base := W.heap.size) (l := [] ++ []) (l' := [p]) (v := v1) (x := some ⟨wr.heap.size + 1, 0, none⟩) (m := 1) (c := 1) ?_ ?_ ?_ ?_ ?_ ?_ rfl (.tmp 57) (.tmp 59) rfl rfl rfl ?_; (focus repeat (first | with_reducible exact H1.out | with_reducible apply OwnL.drew | with_reducible apply OwnL.alloc)); (focus (refine ⟨_, OneAt.lst (e := 29) ?_⟩; (focus repeat (first | with_reducible exact HE.out | (with_reducible refine OneAt.new _ _ ?_ _ _ rfl; (focus repeat (first | rfl | with_reducible apply eq_drew | with_reducible apply eq_drewN | with_reducible apply eq_allocS | with_reducible apply eq_alloc))) | with_reducible apply OneAt.drew | with_reducible apply OneAt.drewN | with_reducible apply OneAt.alloc)))); (focus repeat (first | with_reducible exact HB2.out | with_reducible apply Below.drew | with_reducible apply below_drewN | (with_reducible refine Below.alloc ?_ ?_ _; rotate_left; (focus repeat (first | assumption | with_reducible apply le_drew | with_reducible apply le_drewN | with_reducible apply le_alloc | omega))))); (focus repeat (first | assumption | with_reducible apply le_drew | with_reducible apply le_drewN | with_reducible apply le_alloc | omega)); (focus (first | decide | (simp; done) | (have hl0 := HL.out; simp; omega))); (focus omega); intro v2 w3 hown hb3 hs3; have H2 := Lib.hid hown; have HB3 := Lib.hid hb3; clear hown hb3)
                  | (refine step_appB eltBr encEn (w0 := W) (base := W.heap.size) (l := [] ++ []) (l' := [p]) (v := v1) (x := some ⟨wr.heap.size, 0, none⟩) (m := 1) (c := 1) ?_ ?_ ?_ ?_ ?_ ?_ rfl (.tmp 57) (.tmp 59) rfl rfl rfl ?_; (focus repeat (first | with_reducible exact H1.out | with_reducible apply OwnL.drew | with_reducible apply OwnL.alloc)); (focus (refine ⟨_, OneAt.lst (e := 29) ?_⟩; (focus repeat (first | with_reducible exact HE.out | (with_reducible refine OneAt.new _ _ ?_ _ _ rfl; (focus repeat (first | rfl | with_reducible apply eq_drew | with_reducible apply eq_drewN | with_reducible apply eq_allocS | with_reducible apply eq_alloc))) | with_reducible apply OneAt.drew | with_reducible apply OneAt.drewN | with_reducible apply OneAt.alloc)))); (focus repeat (first | with_reducible exact HB2.out | with_reducible apply Below.drew | with_reducible apply below_drewN | (with_reducible refine Below.alloc ?_ ?_ _; rotate_left; (focus repeat (first | assumption | with_reducible apply le_drew | with_reducible apply le_drewN | with_reducible apply le_alloc | omega))))); (focus repeat (first | assumption | with_reducible apply le_drew | with_reducible apply le_drewN | with_reducible apply le_alloc | omega)); (focus (first | decide | (simp; done) | (have hl0 := HL.out; simp; omega))); (focus omega); intro v2 w3 hown hb3 hs3; have H2 := Lib.hid hown; have HB3 := Lib.hid hb3; clear hown hb3)
                  | (refine step_appB eltBr encEn (w0 := W) (base := W.heap.size) (l := [] ++ [] ++ [p]) (l' := l.drop (0 + t)) (v := v2) (x := x7) (m := n7) (c := c7) ?_ ?_ ?_ ?_ ?_ ?_ rfl (.tmp 60) (.tmp 61) rfl rfl rfl ?_; (focus repeat (first | with_reducible exact H2.out | with_reducible apply OwnL.drew | with_reducible apply OwnL.alloc)); (focus (refine Exists.intro B ?_; refine Lst.below HREST.out ?_ hBW; (focus repeat (first | with_reducible exact HB3.out | with_reducible apply Below.drew | with_reducible apply below_drewN | (with_reducible refine Below.alloc ?_ ?_ _; rotate_left; (focus repeat (first | assumption | with_reducible apply le_drew | with_reducible apply le_drewN | with_reducible apply le_alloc | omega))))))); (focus repeat (first | with_reducible exact HB3.out | with_reducible apply Below.drew | with_reducible apply below_drewN | (with_reducible refine Below.alloc ?_ ?_ _; rotate_left; (focus repeat (first | assumption | with_reducible apply le_drew | with_reducible apply le_drewN | with_reducible apply le_alloc | omega))))); (focus repeat (first | assumption | with_reducible apply le_drew | with_reducible apply le_drewN | with_reducible apply le_alloc | omega)); (focus (first | decide | (simp; done) | (have hl0 := HL.out; simp; omega))); (focus omega); intro v3 w4 hown hb4 hs4; obtain ⟨xo, no, co, rfl, hlo⟩ := hown.lst; have H3 := Lib.hid hown; have HLO := Lib.hid hlo; have HB4 := Lib.hid hb4; clear hown hb4 hlo))
              all_goals
                go_wp2_with fail
                go_meet
                case rel => exact ⟨_, _, _, rfl, by rw [← HEQ.out]; exact H3.out, HB4.out⟩
            · have HCUT := Lib.hid (Lst.cut HO.out (m := k) (by omega))
              have HEQ := Lib.hid (show [] ++ l.take k ++ [p] ++ l.drop (k + t) = putInE l p by rw [HPUT.out]; simp)
              go_region_law (first
                | (refine step_appBE eltBr encEn (w0 := W) (base := W.heap.size) (l := []) (l' := l.take k) (u := p) (kE := wr.heap.size + 1) (gv := wr.heap.size) (nv := 0) (cv := 0) (x := some ⟨b, off, xf⟩) (m := k) (c := cap) ?_ ?_ ?_ ?_ ?_ ?_ ?_ ?_ rfl (.tmp 53) (.tmp 56) (.tmp 59) rfl rfl rfl rfl ?_; (focus repeat (first | (with_reducible refine OwnL.newAt _ _ ?_ ?_; (focus repeat (first | rfl | with_reducible apply eq_drew | with_reducible apply eq_drewN | with_reducible apply eq_allocS | with_reducible apply eq_alloc)); (focus repeat (first | assumption | with_reducible apply le_drew | with_reducible apply le_drewN | with_reducible apply le_alloc | omega))) | with_reducible apply OwnL.drew | with_reducible apply OwnL.drewN | with_reducible apply OwnL.alloc)); (focus (refine Exists.intro B ?_; refine Lst.below HCUT.out ?_ hBW; (focus repeat (first | with_reducible exact HBW.out | with_reducible apply Below.drew | with_reducible apply below_drewN | (with_reducible refine Below.alloc ?_ ?_ _; rotate_left; (focus repeat (first | assumption | with_reducible apply le_drew | with_reducible apply le_drewN | with_reducible apply le_alloc | omega))))))); (focus repeat (first | with_reducible exact HBW.out | with_reducible apply Below.drew | with_reducible apply below_drewN | (with_reducible refine Below.alloc ?_ ?_ _; rotate_left; (focus repeat (first | assumption | with_reducible apply le_drew | with_reducible apply le_drewN | with_reducible apply le_alloc | omega))))); (focus repeat (first | (with_reducible refine OneAt.new _ _ ?_ _ _ rfl; (focus repeat (first | rfl | with_reducible apply eq_drew | with_reducible apply eq_drewN | with_reducible apply eq_allocS | with_reducible apply eq_alloc))) | with_reducible apply OneAt.drew | with_reducible apply OneAt.drewN | with_reducible apply OneAt.alloc)); (focus repeat (first | assumption | with_reducible apply le_drew | with_reducible apply le_drewN | with_reducible apply le_alloc | omega)); (focus omega); (focus (first | decide | (simp; done) | (have hl0 := HL.out; simp; omega))); (focus omega); intro v1 w2 hown hb2 hs2 he; obtain ⟨p0, p1⟩ := HBOX.out _ hb2; have H1 := Lib.hid hown; have HB2 := Lib.hid hb2; have HE := Lib.hid he; clear hown hb2 he)
                | (refine step_appBE eltBr encEn (w0 := W) (base := W.heap.size) (l := []) (l' := l.take k) (u := p) (kE := wr.heap.size) (gv := wr.heap.size + 1) (nv := 0) (cv := 0) (x := some ⟨b, off, xf⟩) (m := k) (c := cap) ?_ ?_ ?_ ?_ ?_ ?_ ?_ ?_ rfl (.tmp 53) (.tmp 56) (.tmp 59) rfl rfl rfl rfl ?_; (focus repeat (first | (with_reducible refine OwnL.newAt _ _ ?_ ?_; (focus repeat (first | rfl | with_reducible apply eq_drew | with_reducible apply eq_drewN | with_reducible apply eq_allocS | with_reducible apply eq_alloc)); (focus repeat (first | assumption | with_reducible apply le_drew | with_reducible apply le_drewN | with_reducible apply le_alloc | omega))) | with_reducible apply OwnL.drew | with_reducible apply OwnL.drewN | with_reducible apply OwnL.alloc)); (focus (refine Exists.intro B ?_; refine Lst.below HCUT.out ?_ hBW; (focus repeat (first | with_reducible exact HBW.out | with_reducible apply Below.drew | with_reducible apply below_drewN | (with_reducible refine Below.alloc ?_ ?_ _; rotate_left; (focus repeat (first | assumption | with_reducible apply le_drew | with_reducible apply le_drewN | with_reducible apply le_alloc | omega))))))); (focus repeat (first | with_reducible exact HBW.out | with_reducible apply Below.drew | with_reducible apply below_drewN | (with_reducible refine Below.alloc ?_ ?_ _; rotate_left; (focus repeat (first | assumption | with_reducible apply le_drew | with_reducible apply le_drewN | with_reducible apply le_alloc | omega))))); (focus repeat (first | (with_reducible refine OneAt.new _ _ ?_ _ _ rfl; (focus repeat (first | rfl | with_reducible apply eq_drew | with_reducible apply eq_drewN | with_reducible apply eq_allocS | with_reducible apply eq_alloc))) | with_reducible apply OneAt.drew | with_reducible apply OneAt.drewN | with_reducible apply OneAt.alloc)); (focus repeat (first | assumption | with_reducible apply le_drew | with_reducible apply le_drewN | with_reducible apply le_alloc | omega)); (focus omega); (focus (first | decide | (simp; done) | (have hl0 := HL.out; simp; omega))); (focus omega); intro v1 w2 hown hb2 hs2 he; obtain ⟨p0, p1⟩ := HBOX.out _ hb2; have H1 := Lib.hid hown; have HB2 := Lib.hid hb2; have HE := Lib.hid he; clear hown hb2 he)
                | (refine step_appB eltBr encEn (w0 := W) (base := W.heap.size) (l := []) (l' := l.take k) (v := .slice (some ⟨wr.heap.size, 0, none⟩) 0 0) (x := some ⟨b, off, xf⟩) (m := k) (c := cap) ?_ ?_ ?_ ?_ ?_ ?_ rfl (.tmp 53) (.tmp 56) rfl rfl rfl ?_; (focus repeat (first | (with_reducible refine OwnL.newAt _ _ ?_ ?_; (focus repeat (first | rfl | with_reducible apply eq_drew | with_reducible apply eq_drewN | with_reducible apply eq_allocS | with_reducible apply eq_alloc)); (focus repeat (first | assumption | with_reducible apply le_drew | with_reducible apply le_drewN | with_reducible apply le_alloc | omega))) | with_reducible apply OwnL.drew | with_reducible apply OwnL.drewN | with_reducible apply OwnL.alloc)); (focus (refine Exists.intro B ?_; refine Lst.below HCUT.out ?_ hBW; (focus repeat (first | with_reducible exact HBW.out | with_reducible apply Below.drew | with_reducible apply below_drewN | (with_reducible refine Below.alloc ?_ ?_ _; rotate_left; (focus repeat (first | assumption | with_reducible apply le_drew | with_reducible apply le_drewN | with_reducible apply le_alloc | omega))))))); (focus repeat (first | with_reducible exact HBW.out | with_reducible apply Below.drew | with_reducible apply below_drewN | (with_reducible refine Below.alloc ?_ ?_ _; rotate_left; (focus repeat (first | assumption | with_reducible apply le_drew | with_reducible apply le_drewN | with_reducible apply le_alloc | omega))))); (focus repeat (first | assumption | with_reducible apply le_drew | with_reducible apply le_drewN | with_reducible apply le_alloc | omega)); (focus (first | decide | (simp; done) | (have hl0 := HL.out; simp; omega))); (focus omega); intro v1 w2 hown hb2 hs2; obtain ⟨p0, p1⟩ := HBOX.out _ hb2; have H1 := Lib.hid hown; have HB2 := Lib.hid hb2; clear hown hb2)
                | (refine step_appB eltBr encEn (w0 := W) (base := W.heap.size) (l := [] ++ l.take k) (l' := [p]) (v := v1) (x := some ⟨w2.heap.size, 0, none⟩) (m := 1) (c := 1) ?_ ?_ ?_ ?_ ?_ ?_ rfl (.tmp 57) (.tmp 59) rfl rfl rfl ?_; (focus repeat (first | with_reducible exact H1.out | with_reducible apply OwnL.drew | with_reducible apply OwnL.alloc)); (focus (refine ⟨_, OneAt.lst (e := 29) ?_⟩; (focus repeat (first | with_reducible exact HE.out | (with_reducible refine OneAt.new _ _ ?_ _ _ rfl; (focus repeat (first | rfl | with_reducible apply eq_drew | with_reducible apply eq_drewN | with_reducible apply eq_allocS | with_reducible apply eq_alloc))) | with_reducible apply OneAt.drew | with_reducible apply OneAt.drewN | with_reducible apply OneAt.alloc)))); (focus repeat (first | with_reducible exact HB2.out | with_reducible apply Below.drew | with_reducible apply below_drewN | (with_reducible refine Below.alloc ?_ ?_ _; rotate_left; (focus repeat (first | assumption | with_reducible apply le_drew | with_reducible apply le_drewN | with_reducible apply le_alloc | omega))))); (focus repeat (first | assumption | with_reducible apply le_drew | with_reducible apply le_drewN | with_reducible apply le_alloc | omega)); (focus (first | decide | (simp; done) | (have hl0 := HL.out; simp; omega))); (focus omega); intro v2 w3 hown hb3 hs3; have H2 := Lib.hid hown; have HB3 := Lib.hid hb3; clear hown hb3)
                | (refine step_appB eltBr encEn (w0 := W) (base := W.heap.size) (l := [] ++ l.take k) (l' := [p]) (v := v1) (x := some ⟨wr.heap.size + 1, 0, none⟩) (m := 1) (c := 1) ?_ ?_ ?_ ?_ ?_ ?_ rfl (.tmp 57) (.tmp 59) rfl rfl rfl ?_; (focus repeat (first | with_reducible exact H1.out | with_reducible apply OwnL.drew | with_reducible apply OwnL.alloc)); (focus (refine ⟨_, OneAt.lst (e := 29) ?_⟩; (focus repeat (first | with_reducible exact HE.out | (with_reducible refine OneAt.new _ _ ?_ _ _ rfl; (focus repeat (first | rfl | with_reducible apply eq_drew | with_reducible apply eq_drewN | with_reducible apply eq_allocS | with_reducible apply eq_alloc))) | with_reducible apply OneAt.drew | with_reducible apply OneAt.drewN | with_reducible apply OneAt.alloc)))); (focus repeat (first | with_reducible exact HB2.out | with_reducible apply Below.drew | with_reducible apply below_drewN | (with_reducible refine Below.alloc ?_ ?_ _; rotate_left; (focus repeat (first | assumption | with_reducible apply le_drew | with_reducible apply le_drewN | with_reducible apply le_alloc | omega))))); (focus repeat (first | assumption | with_reducible apply le_drew | with_reducible apply le_drewN | with_reducible apply le_alloc | omega)); (focus (first | decide | (simp; done) | (have hl0 := HL.out; simp; omega))); (focus omega); intro v2 w3 hown hb3 hs3; have H2 := Lib.hid hown; have HB3 := Lib.hid hb3; clear hown hb3)
                | (refine step_appB eltBr encEn (w0 := W) (base := W.heap.size) (l := [] ++ l.take k) (l' := [p]) (v := v1) (x := some ⟨wr.heap.size, 0, none⟩) (m := 1) (c := 1) ?_ ?_ ?_ ?_ ?_ ?_ rfl (.tmp 57) (.tmp 59) rfl rfl rfl ?_; (focus repeat (first | with_reducible exact H1.out | with_reducible apply OwnL.drew | with_reducible apply OwnL.alloc)); (focus (refine ⟨_, OneAt.lst (e := 29) ?_⟩; (focus repeat (first | with_reducible exact HE.out | (with_reducible refine OneAt.new _ _ ?_ _ _ rfl; (focus repeat (first | rfl | with_reducible apply eq_drew | with_reducible apply eq_drewN | with_reducible apply eq_allocS | with_reducible apply eq_alloc))) | with_reducible apply OneAt.drew | with_reducible apply OneAt.drewN | with_reducible apply OneAt.alloc)))); (focus repeat (first | with_reducible exact HB2.out | with_reducible apply Below.drew | with_reducible apply below_drewN | (with_reducible refine Below.alloc ?_ ?_ _; rotate_left; (focus repeat (first | assumption | with_reducible apply le_drew | with_reducible apply le_drewN | with_reducible apply le_alloc | omega))))); (focus repeat (first | assumption | with_reducible apply le_drew | with_reducible apply le_drewN | with_reducible apply le_alloc | omega)); (focus (first | decide | (simp; done) | (have hl0 := HL.out; simp; omega))); (focus omega); intro v2 w3 hown hb3 hs3; have H2 := Lib.hid hown; have HB3 := Lib.hid hb3; clear hown hb3)
                | (refine step_appB eltBr encEn (w0 := W) (base := W.heap.size) (l := [] ++ l.take k ++ [p]) (l' := l.drop (k + t)) (v := v2) (x := x7) (m := n7) (c := c7) ?_ ?_ ?_ ?_ ?_ ?_ rfl (.tmp 60) (.tmp 61) rfl rfl rfl ?_; (focus repeat (first | with_reducible exact H2.out | with_reducible apply OwnL.drew | with_reducible apply OwnL.alloc)); (focus (refine Exists.intro B ?_; refine Lst.below HREST.out ?_ hBW; (focus repeat (first | with_reducible exact HB3.out | with_reducible apply Below.drew | with_reducible apply below_drewN | (with_reducible refine Below.alloc ?_ ?_ _; rotate_left; (focus repeat (first | assumption | with_reducible apply le_drew | with_reducible apply le_drewN | with_reducible apply le_alloc | omega))))))); (focus repeat (first | with_reducible exact HB3.out | with_reducible apply Below.drew | with_reducible apply below_drewN | (with_reducible refine Below.alloc ?_ ?_ _; rotate_left; (focus repeat (first | assumption | with_reducible apply le_drew | with_reducible apply le_drewN | with_reducible apply le_alloc | omega))))); (focus repeat (first | assumption | with_reducible apply le_drew | with_reducible apply le_drewN | with_reducible apply le_alloc | omega)); (focus (first | decide | (simp; done) | (have hl0 := HL.out; simp; omega))); (focus omega); intro v3 w4 hown hb4 hs4; obtain ⟨xo, no, co, rfl, hlo⟩ := hown.lst; have H3 := Lib.hid hown; have HLO := Lib.hid hlo; have HB4 := Lib.hid hb4; clear hown hb4 hlo))
              all_goals
                go_wp2_with fail
                go_meet
                case rel => exact ⟨_, _, _, rfl, by rw [← HEQ.out]; exact H3.out, HB4.out⟩
          case rest =>
            rename World => w4
            obtain ⟨xo, no, co, rfl, hown, hb4⟩ := hcut
            have H3 := Lib.hid hown; have HB4 := Lib.hid hb4; have HLO := Lib.hid hown.lst'
            have hs4 := hb4.size
            have hzo := put_sizes rfl hz hp
            clear hown hb4
            cases hv2 : brsB (putInE l p) many
            · have HF := Lib.hid (putBr_no hv hv2)
              have HLS := Lib.hid (Lst.below HO.out HB4.out hBW)
              go_wp2_with (first
                | (go_at_call 13; refine (specBranchesValid_any _ _ _ _ _ _ _ HLO.out hzo).mono ?_; rintro e w5 ⟨rfl, q5, rfl⟩; rw [hv2]; have HB5 := Lib.hid (below_drewN HB4.out q5))
                | (at_builtin; refine wpList_appL eltBr encEn (OwnL.newAt enG 29 (size := 2) (base := W.heap.size) rfl hs4) (Lst.alloc (Lst.drewN HLS.out _) (le_drewN (Nat.le_trans hBW hs4)) _) (by decide) (by omega) (le_alloc (le_drewN hs4) _) rfl _ _ rfl rfl rfl ?_; intro v6 w6 hown6 hgr6 hat6; have H6 := Lib.hid hown6; have HB6 := Lib.hid ((HB5.out.alloc (le_drewN hs4) _).grown hgr6 (le_alloc (le_drewN hs4) _) (fun q e => OwnL.at (OwnL.newAt enG 29 (size := 2) (base := W.heap.size) rfl hs4) q e)); clear hown6 hgr6 hat6))
              go_ret2
              exact newBrB_of (by rw [HF.out]; exact ⟨rfl, rfl⟩) ⟨_, rfl, OwnL.mono (by simpa using H6.out) hwW, HB.out.trans (HB6.out.mono hwW)⟩
            · have HF := Lib.hid (putBr_yes hv hv2)
              go_wp2_with (first
                | (go_at_call 13; refine (specBranchesValid_any _ _ _ _ _ _ _ HLO.out hzo).mono ?_; rintro e w5 ⟨rfl, q5, rfl⟩; rw [hv2]; have HB5 := Lib.hid (below_drewN HB4.out q5)))
              go_ret2
              exact newBrB_of (by rw [HF.out]; exact ⟨rfl, rfl⟩) ⟨_, rfl, OwnL.mono (H3.out.drewN q5) hwW, HB.out.trans (HB5.out.mono hwW)⟩
end Go.Proofs.Ytiniadlpgomgjaa
