/-
  Contracts of the laws' helpers on lists of branches.
-/
import Derived.Test.YtiniadlpgomgjaaBrs
import Derived.Test.YtiniadlpgomgjaaArgsE
namespace Go.Proofs.Ytiniadlpgomgjaa
open Go.RowKit Go.ChangeShapes Go.WideShapes Go.ChangeAt
set_option linter.unusedVariables false
theorem szBranch_any (p : Ent) (left : Int) (w : World) (h0 : 0 ≤ left) (h1 : left ≤ 100000000) (hz : p.1.size ≤ maxLen) : Calls Try.prog 28 #[.agg #[.string p.1, .int .i64 p.2], .int .i64 left] w (BelowI (if (p.1.size : Int) ≤ left then left - p.1.size else -1) w) := by
  unfold maxLen at hz
  by_cases h : (p.1.size : Int) ≤ left
  · have HF := Lib.hid (show (if (p.1.size : Int) ≤ left then left - p.1.size else -1) = left - p.1.size from if_pos h)
    go_enter Try.func28, Try.ntmps28
    go_wp2
    go_ret
    exact ⟨ret_int (by first | rfl | exact HF.out.symm), (Below.refl _ _).alloc (Nat.le_refl _) _⟩
  · have HF := Lib.hid (show (if (p.1.size : Int) ≤ left then left - p.1.size else -1) = -1 from if_neg h)
    go_enter Try.func28, Try.ntmps28
    go_wp2
    go_ret
    exact ⟨ret_int (by first | rfl | exact HF.out.symm), (Below.refl _ _).alloc (Nat.le_refl _) _⟩
theorem szBranchS_any (x : Option Addr) (n cap : Nat) (l : List Ent) (left : Int) (B : Nat) (w : World) (h : Ents w B x n cap l) (hB : B ≤ w.heap.size) (hz : ∀ k, (nthE l k).1.size ≤ maxLen) (h0 : 0 ≤ left) (h1 : left ≤ 100000000) :
    Calls Try.prog 25 #[.slice x n cap, .int .i64 left] w (BelowI (leftEn l left) w) := by
  have HL := Lib.hid h.len
  have HH := Lib.hid h
  have HZ := Lib.hid hz
  have hmx := h.max
  have hle := h.le
  clear h hz
  unfold maxLen at hmx
  by_cases hn : left < (n : Int)
  · have HF := Lib.hid (show leftEn l left = -1 by unfold leftEn; rw [if_neg (by have := HL.out; omega)])
    go_enter Try.func25, Try.ntmps25
    go_wp2
    go_ret
    exact ⟨ret_int HF.out.symm, Below.refl _ _⟩
  · go_enter Try.func25, Try.ntmps25
    go_wp2
    go_loopw [1, 5] (fun q i wr => ∃ k : Nat, k ≤ n ∧ i = .int .i64 k ∧ q = .int .i64 (left - n - sumE (l.take k)) ∧ (sumE (l.take k) : Int) ≤ left - n ∧ Below w.heap.size w wr) (fun _ i _ => n - (intOf i).toNat)
    case atStart => exact ⟨0, by omega, rfl, by simp [sumE], by simp [sumE]; omega, Below.refl _ _⟩
    case round =>
      obtain ⟨k, hk, rfl, rfl, hs, hb⟩ := hrel
      have HB := Lib.hid hb; clear hb
      by_cases hlt : k < n
      · have HT := Lib.hid (show sumE (l.take (k + 1)) = sumE (l.take k) + (nthE l k).1.size by rw [take_snocE (by have := HL.out; omega), sumE_snoc])
        obtain ⟨b0, off, rfl, hb0, hc0, hc1⟩ := (HH.out.below HB.out hB).atE hlt
        have hzk := HZ.out k
        have hd := sumE_split l (k + 1)
        rw [HT.out] at hd
        have HD := Lib.hid hd
        clear hd
        by_cases hneg : left - (n : Int) - (sumE (l.take k) : Int) < ((nthE l k).1.size : Int)
        · have HF := Lib.hid (show leftEn l left = -1 by unfold leftEn; rw [if_neg (by have := HL.out; have := HD.out; omega)])
          go_wp2_with fail
          refine (szBranch_any (nthE l k) _ _ (by omega) (by omega) hzk).mono ?_
          rintro e w2 ⟨rfl, hb⟩
          have HB2 := Lib.hid (HB.out.trans (hb.mono HB.out.size)); clear hb
          rw [if_neg (by omega)]
          go_wp2_with fail
          go_ret
          exact ⟨ret_int HF.out.symm, HB2.out⟩
        · go_wp2_with fail
          refine (szBranch_any (nthE l k) _ _ (by omega) (by omega) hzk).mono ?_
          rintro e w2 ⟨rfl, hb⟩
          have HB2 := Lib.hid (HB.out.trans (hb.mono HB.out.size)); clear hb
          rw [if_pos (by omega)]
          go_wp2_with fail
          go_roundw
          case rel => exact ⟨k + 1, by omega, by go_num, by have := HT.out; go_num, by have := HT.out; omega, HB2.out⟩
          case measure => simp [intOf]; omega
      · have e : l.take k = l := List.take_of_length_le (by have := HL.out; omega)
        rw [e] at hs ⊢
        have HF := Lib.hid (show leftEn l left = left - n - sumE l by unfold leftEn; rw [if_pos (by have := HL.out; omega), HL.out])
        clear e
        go_wp2
        go_ret
        exact ⟨ret_int HF.out.symm, HB.out⟩
theorem toBranch_any (p : Ent) (w : World) : Calls Try.prog 29 #[.agg #[.string p.1, .int .i64 p.2]] w fun e w' => e = .returned (.agg #[.string p.1, .int .i64 p.2]) ∧ Below w.heap.size w w' := by
  go_enter Try.func29, Try.ntmps29
  go_wp2
  refine bodyPost_ret (v := .agg #[.string p.1, .int .i64 p.2]) (by simp [results, Try.results29, go_sem]) rfl ⟨rfl, (((Below.refl _ _).alloc (Nat.le_refl _) _).alloc (by simp) _).alloc (by simp; omega) _⟩
theorem eqBranch_any (p q : Ent) (w : World) : Calls Try.prog 45 #[.agg #[.string p.1, .int .i64 p.2], .agg #[.string q.1, .int .i64 q.2]] w (BelowB (decide (p = q)) w) := by
  by_cases h1 : p.1 = q.1
  · have hd : (p.1.toList == q.1.toList) = true := by rw [h1]; simp
    by_cases h2 : p.2 = q.2
    · have HF := Lib.hid (show decide (p = q) = true by simpa using Prod.ext h1 h2)
      clear h1
      go_enter Try.func45, Try.ntmps45
      go_wp2
      go_ret
      exact ⟨ret_bool HF.out.symm, ((Below.refl _ _).alloc (Nat.le_refl _) _).alloc (by simp) _⟩
    · have HF := Lib.hid (show decide (p = q) = false by simp; intro e; exact h2 (by rw [e]))
      clear h1
      go_enter Try.func45, Try.ntmps45
      go_wp2
      go_ret
      exact ⟨ret_bool HF.out.symm, ((Below.refl _ _).alloc (Nat.le_refl _) _).alloc (by simp) _⟩
  · have hd : (p.1.toList == q.1.toList) = false := by rw [str_beq]; simpa using h1
    have HF := Lib.hid (show decide (p = q) = false by simp; intro e; exact h1 (by rw [e]))
    clear h1
    go_enter Try.func45, Try.ntmps45
    go_wp2
    go_ret
    exact ⟨ret_bool HF.out.symm, ((Below.refl _ _).alloc (Nat.le_refl _) _).alloc (by simp) _⟩
theorem eqBranchS_any (x y : Option Addr) (n m c d : Nat) (l l' : List Ent) (B : Nat) (w : World) (h : Ents w B x n c l) (h' : Ents w B y m d l') (hB : B ≤ w.heap.size) : Calls Try.prog 27 #[.slice x n c, .slice y m d] w (BelowB (decide (l = l')) w) := by
  have HL := Lib.hid h.len
  have HL' := Lib.hid h'.len
  have hmx := h.max
  have hle := h.le
  have hmx' := h'.max
  have hle' := h'.le
  unfold maxLen at hmx hmx'
  by_cases hnm : n = m
  · subst hnm
    have HH := Lib.hid h
    have HH' := Lib.hid h'
    clear h h'
    go_enter Try.func27, Try.ntmps27
    go_wp2
    go_loopw [5] (fun i wr => ∃ k : Nat, k ≤ n ∧ i = .int .i64 k ∧ l.take k = l'.take k ∧ Below w.heap.size w wr) (fun i _ => n - (intOf i).toNat)
    case atStart => exact ⟨0, by omega, rfl, rfl, Below.refl _ _⟩
    case round =>
      obtain ⟨k, hk, rfl, he, hb⟩ := hrel
      have HE := Lib.hid he; clear he
      have HB := Lib.hid hb; clear hb
      by_cases hlt : k < n
      · obtain ⟨b, off, rfl, hb, hc0, hc1⟩ := (HH.out.below HB.out hB).atE hlt
        obtain ⟨b', off', rfl, hb', hc0', hc1'⟩ := (HH'.out.below HB.out hB).atE hlt
        by_cases hx : nthE l k = nthE l' k
        · have HX := Lib.hid hx
          have hdd := decide_eq_true hx
          clear hx
          go_wp2
          go_region_with (go_at_call 45; refine (eqBranch_any _ _ _).mono ?_; rintro e w2 ⟨rfl, hb2⟩; have HB2 := Lib.hid (below_drewn HB.out hb2 HB.out.size); clear hb2)
          all_goals
            go_wp2
            go_roundw
            case rel => exact ⟨k + 1, by omega, by go_num, take_eq_stepE (by have := HL.out; omega) (by have := HL'.out; omega) HE.out HX.out, HB2.out⟩
            case measure => simp [intOf]; omega
        · have HX := Lib.hid (ne_atE hx)
          have hdd := decide_eq_false hx
          clear hx
          go_wp2
          go_region_with (go_at_call 45; refine (eqBranch_any _ _ _).mono ?_; rintro e w2 ⟨rfl, hb2⟩; have HB2 := Lib.hid (below_drewn HB.out hb2 HB.out.size); clear hb2)
          all_goals
            go_wp2
            go_ret
            exact ⟨ret_bool (by simpa using HX.out), HB2.out⟩
      · go_wp2
        go_ret
        have h1 := HE.out
        rw [List.take_of_length_le (by have := HL.out; omega), List.take_of_length_le (by have := HL'.out; omega)] at h1
        exact ⟨ret_bool (by simpa using h1), HB.out⟩
  · have HX := Lib.hid (show l ≠ l' from fun e => hnm (by rw [← HL.out, ← HL'.out, e]))
    go_enter Try.func27, Try.ntmps27
    go_wp2
    go_ret
    exact ⟨ret_bool (by simpa using HX.out), Below.refl _ _⟩
theorem sameBranches_any (x y : Option Addr) (n m c d : Nat) (l l' : List Ent) (B : Nat) (w : World) (h : Ents w B x n c l) (h' : Ents w B y m d l') : Calls Try.prog 18 #[.slice x n c, .slice y m d] w (QuietB (decide (l = l')) w) := by
  have HL := Lib.hid h.len
  have HL' := Lib.hid h'.len
  have hmx := h.max
  have hle := h.le
  have hmx' := h'.max
  have hle' := h'.le
  unfold maxLen at hmx hmx'
  by_cases hnm : n = m
  · subst hnm
    have HH := Lib.hid h
    have HH' := Lib.hid h'
    clear h h'
    go_enter Try.func18, Try.ntmps18
    go_wp2
    go_loopw [5] (fun i wr => ∃ k : Nat, k ≤ n ∧ i = .int .i64 k ∧ l.take k = l'.take k ∧ ∃ q, wr = w.drewN q) (fun i _ => n - (intOf i).toNat)
    case atStart => exact ⟨0, by omega, rfl, rfl, 0, rfl⟩
    case round =>
      obtain ⟨k, hk, rfl, he, q, rfl⟩ := hrel
      have HE := Lib.hid he; clear he
      by_cases hlt : k < n
      · obtain ⟨b, off, rfl, hb, hc0, hc1⟩ := HH.out.atE hlt
        obtain ⟨b', off', rfl, hb', hc0', hc1'⟩ := HH'.out.atE hlt
        by_cases hx : nthE l k = nthE l' k
        · have HX := Lib.hid hx
          go_wp2
          go_quiet (fail)
          go_wp2
          go_roundw
          case rel => exact ⟨k + 1, by omega, by go_num, take_eq_stepE (by have := HL.out; omega) (by have := HL'.out; omega) HE.out HX.out, _, by first | rfl | rw [World.drewN_drewN]⟩
          case measure => simp [intOf]; omega
        · have HX := Lib.hid (ne_atE hx)
          rcases ne_en hx with h1 | ⟨h1, h2⟩
          · have hd1 : ((nthE l k).1.toList == (nthE l' k).1.toList) = false := by rw [str_beq]; simpa using h1
            clear hx h1
            go_wp2
            go_quiet (fail)
            go_wp2
            go_ret
            exact ⟨ret_bool (by simpa using HX.out), _, by first | rfl | rw [World.drewN_drewN]⟩
          · have hd1 : ((nthE l k).1.toList == (nthE l' k).1.toList) = true := by rw [h1]; simp
            have hd2 : ((nthE l k).2 == (nthE l' k).2) = false := by simpa using h2
            clear hx h1 h2
            go_wp2
            go_quiet (fail)
            go_wp2
            go_ret
            exact ⟨ret_bool (by simpa using HX.out), _, by first | rfl | rw [World.drewN_drewN]⟩
      · go_wp2
        go_ret
        have h1 := HE.out
        rw [List.take_of_length_le (by have := HL.out; omega), List.take_of_length_le (by have := HL'.out; omega)] at h1
        exact ⟨ret_bool (by simpa using h1), _, rfl⟩
  · have HX := Lib.hid (show l ≠ l' from fun e => hnm (by rw [← HL.out, ← HL'.out, e]))
    go_enter Try.func18, Try.ntmps18
    go_wp2
    go_ret
    exact ⟨ret_bool (by simpa using HX.out), 0, rfl⟩
theorem markBranchS_any (x : Option Addr) (n cap : Nat) (l : List Ent) (base : Nat) (k : Int) (w : World) (h : OwnBr w base (.slice x n cap) l) (hl : l.length = n) (hk : 0 ≤ k) (hk1 : k ≤ 100000000) (hn : n ≤ 10000000) :
    Calls Try.prog 30 #[.slice x n cap, .int .i64 k] w fun e w' => e = .returned (.int .i64 (k + 2 * n)) ∧ OwnBr w' base (.slice x n cap) (marksE k n) ∧ w.grownBy w' (Value.slice x n cap).ownBlock := by
  have HL := Lib.hid hl
  have hmx : cap ≤ maxLen ∧ n ≤ cap := by obtain ⟨x', c', e, h1, h2, _⟩ := own_reads h; simp only [Value.slice.injEq] at e; obtain ⟨rfl, rfl, rfl⟩ := e; omega
  obtain ⟨hmx, hle⟩ := hmx
  unfold maxLen at hmx
  rcases h.2 with ⟨e, _⟩ | ⟨g, cap', cur, e, hrest⟩
  · simp only [Value.slice.injEq] at e
    obtain ⟨rfl, rfl, rfl⟩ := e
    have HF := Lib.hid h
    clear h hl
    go_enter Try.func30, Try.ntmps30
    go_wp2
    go_loopw [1, 5] (fun kk i wr => i = .int .i64 0 ∧ kk = .int .i64 k ∧ wr = w) (fun _ i _ => (intOf i).toNat)
    case atStart => exact ⟨rfl, rfl, rfl⟩
    case round =>
      obtain ⟨rfl, rfl, rfl⟩ := hrel
      go_wp2
      go_ret
      exact ⟨ret_int (by simp), OwnL.nil _ _ _ _ _, rfl, rfl, rfl, Nat.le_refl _, fun _ _ _ => rfl⟩
  · simp only [Value.slice.injEq] at e
    obtain ⟨rfl, e2, rfl⟩ := e
    clear hrest
    have h' : w.ownsRow base 29 2 (.slice (some ⟨g, 0, none⟩) n cap) n (l.flatMap enG) := by have := h; unfold OwnBr OwnL at this; rwa [hl] at this
    have HW0 := Lib.hid h'
    have hgw : g < w.heap.size := (h'.lt g rfl).2
    clear h h' hl e2
    go_enter Try.func30, Try.ntmps30
    go_wp2
    go_loopw [1, 5] (fun kk i wr => ∃ j : Nat, j ≤ n ∧ i = .int .i64 j ∧ kk = .int .i64 (k + 2 * j) ∧ wr.ownsRow base 29 2 (.slice (some ⟨g, 0, none⟩) n cap) n ((marksE k j).flatMap enG ++ (l.drop j).flatMap enG) ∧ w.grownBy wr (some g)) (fun _ i _ => n - (intOf i).toNat)
    case atStart => exact ⟨0, by omega, rfl, by go_num, HW0.out, rfl, rfl, rfl, Nat.le_refl _, fun _ _ _ => rfl⟩
    case round =>
      obtain ⟨j, hj, rfl, rfl, ho, hg⟩ := hrel
      have HO := Lib.hid ho; have HG := Lib.hid hg; clear ho hg
      by_cases hlt : j < n
      · have hlen : ((marksE k j).flatMap enG ++ (l.drop j).flatMap enG).length = n * 2 := by rw [List.length_append, encEn.length, encEn.length, marksE_len, List.length_drop, HL.out]; omega
        have HLEN := Lib.hid hlen
        clear hlen
        go_wp2_with fail
        refine (markText_any _ _ (by omega)).mono ?_
        rintro e w2 ⟨rfl, hb⟩
        have hO2 := own_below HO.out hb
        have hf := hO2.frozenAt (j * 2)
        have hz := hO2.cellAt (j * 2) (by omega)
        rw [List.getElem?_eq_getElem (by have := HLEN.out; omega)] at hz
        generalize ((marksE k j).flatMap enG ++ (l.drop j).flatMap enG)[j * 2]'(by have := HLEN.out; omega) = z at hz
        have HS1 := Lib.hid (hO2.stored (j * 2) (.string (markB (k + 2 * j))))
        have HG1 := Lib.hid (grownBy_then (grownBy_join HG.out hb) HS1.out.2)
        have hf2 := HS1.out.1.frozenAt (j * 2 + 1)
        have hz2 := HS1.out.1.cellAt (j * 2 + 1) (by omega)
        rw [List.getElem?_eq_getElem (by have := HLEN.out; rw [List.length_set]; omega)] at hz2
        generalize (((marksE k j).flatMap enG ++ (l.drop j).flatMap enG).set (j * 2) (.string (markB (k + 2 * j))))[j * 2 + 1]'(by have := HLEN.out; rw [List.length_set]; omega) = z2 at hz2
        clear hO2 hb
        go_wp2_with fail
        go_roundw
        case rel =>
          have HST := HS1.out.1.stored (j * 2 + 1) (.int .i64 (k + 2 * j + 1))
          refine ⟨j + 1, by omega, by go_num, by go_num, ?_, ?_⟩
          · have := HST.1
            rw [marksE_step (by have := HL.out; omega)] at this
            exact this
          · exact grownBy_then HG1.out HST.2
        case measure => simp [intOf]; omega
      · obtain rfl : j = n := by omega
        go_wp2
        go_ret
        refine ⟨rfl, ?_, HG.out⟩
        have h1 := HO.out
        rw [List.drop_of_length_le (by have := HL.out; omega)] at h1
        show World.ownsRow _ _ _ _ _ _ _
        rw [marksE_len]
        simpa using h1
theorem heldBranchS_any (x : Option Addr) (n cap : Nat) (k : Int) (B : Nat) (w : World) (h : Ents w B x n cap (marksE k n)) (hB : B ≤ w.heap.size) (hk : 0 ≤ k) (hk1 : k ≤ 100000000) (hn : n ≤ 10000000) :
    Calls Try.prog 31 #[.slice x n cap, .int .i64 k] w (BelowI (k + 2 * n) w) := by
  have HH := Lib.hid h
  have hmx := h.max
  have hle := h.le
  clear h
  unfold maxLen at hmx
  go_enter Try.func31, Try.ntmps31
  go_wp2
  go_loopw [1, 5] (fun kk i wr => ∃ j : Nat, j ≤ n ∧ i = .int .i64 j ∧ kk = .int .i64 (k + 2 * j) ∧ Below w.heap.size w wr) (fun _ i _ => n - (intOf i).toNat)
  case atStart => exact ⟨0, by omega, rfl, by go_num, Below.refl _ _⟩
  case round =>
    obtain ⟨j, hj, rfl, rfl, hb⟩ := hrel
    have HB := Lib.hid hb; clear hb
    by_cases hlt : j < n
    · obtain ⟨b, off, rfl, hb, hc0, hc1⟩ := (HH.out.below HB.out hB).atE hlt
      rw [marksE_at hlt] at hc0 hc1
      have hbw : b < wr.heap.size := by have := HB.out.size; omega
      go_wp2
      go_region_with (go_at_call 46; refine (markText_any _ _ (by omega)).mono ?_; rintro e w2 ⟨rfl, hb2⟩; have hc2 := cell_drewn hc0 hb2 hbw; have hc3 := cell_drewn hc1 hb2 hbw; have HB2 := Lib.hid (below_drewn HB.out hb2 HB.out.size); clear hb2)
      all_goals
        go_wp2
        go_roundw
        case rel => exact ⟨j + 1, by omega, by go_num, by go_num, HB2.out⟩
        case measure => simp [intOf]; omega
    · obtain rfl : j = n := by omega
      go_wp2
      go_ret
      exact ⟨rfl, HB.out⟩
theorem run_mkBr (n : Nat) (hn : n ≤ 2000000) (w : World) : (Instr.makeSlice 23 (.int .i64 (n : Int)) (.int .i64 (n : Int))).run Try.prog w = .ok (.slice (some ⟨w.heap.size, 0, none⟩) n n) (w.alloc (.cells (madeCells #[.string ByteArray.empty, .int .i64 0] (n * 2)) 29)) := run_mk eltBr n hn w
theorem own_mkBr (w : World) (n : Nat) (hn : n ≤ 2000000) {base : Nat} (hb : base ≤ w.heap.size) :
    (w.alloc (.cells (madeCells #[.string ByteArray.empty, .int .i64 0] (n * 2)) 29)).ownsRow base 29 2 (.slice (some ⟨w.heap.size, 0, none⟩) n n) n (madeCells #[.string ByteArray.empty, .int .i64 0] (n * 2)).toList := own_mk eltBr w n hn hb
theorem toBranchS_any (x : Option Addr) (n cap : Nat) (l : List Ent) (w : World) (h : Ents w w.heap.size x n cap l) (hn : n ≤ 1048576) : Calls Try.prog 26 #[.slice x n cap] w (NewBr l w) := by
  have HL := Lib.hid h.len
  have HH := Lib.hid h
  have hmx := h.max
  have hle := h.le
  clear h
  unfold maxLen at hmx
  have hmk := run_mkBr n (by omega)
  have HO := Lib.hid (own_mkBr w n (by omega) (Nat.le_refl _))
  go_enter Try.func26, Try.ntmps26
  go_wp2
  clear hmk
  go_loopw [4] (fun i wr => ∃ (k : Nat) (R : List Value), k ≤ n ∧ i = .int .i64 k ∧ R.length = (n - k) * 2 ∧ wr.ownsRow w.heap.size 29 2 (.slice (some ⟨w.heap.size, 0, none⟩) n n) n ((l.take k).flatMap enG ++ R) ∧ Below w.heap.size w wr) (fun i _ => n - (intOf i).toNat)
  case atStart =>
    refine ⟨0, _, by omega, rfl, ?_, HO.out, (Below.refl _ _).alloc (Nat.le_refl _) _⟩
    rw [Array.length_toList, size_madeCells]
    simp
  case round =>
    obtain ⟨k, R, hk, rfl, hR, ho, hb⟩ := hrel
    have HB := Lib.hid hb; clear hb
    have HW := Lib.hid ho; clear ho
    have HR := Lib.hid hR; clear hR
    by_cases hlt : k < n
    · obtain ⟨b, off, rfl, hb, hc0, hc1⟩ := (HH.out.below HB.out (Nat.le_refl _)).atE hlt
      obtain ⟨z0, z1, R', rfl⟩ : ∃ z0 z1 R', R = z0 :: z1 :: R' := by
        match R, HR.out with
        | a :: b :: R', _ => exact ⟨a, b, R', rfl⟩
        | [a], h => simp at h; omega
        | [], h => simp at h; omega
      have hA : ((l.take k).flatMap enG).length = k * 2 := by rw [encEn.length, List.length_take, HL.out]; omega
      have HA := Lib.hid hA
      have HI0 := Lib.hid (show ((l.take k).flatMap enG ++ z0 :: z1 :: R')[k * 2]? = some z0 by rw [List.getElem?_append_right (by omega), hA]; simp)
      have HI1 := Lib.hid (show ((l.take k).flatMap enG ++ z0 :: z1 :: R')[k * 2 + 1]? = some z1 by rw [List.getElem?_append_right (by omega), hA]; simp)
      clear hA
      go_wp2_with (first
        | (go_at_call 29; refine (toBranch_any (nthE l k) _).mono ?_; rintro e w2 ⟨rfl, hb2⟩; have hO2 := own_below HW.out hb2; have hf0 := hO2.frozenAt (k * 2); have hf1 := hO2.frozenAt (k * 2 + 1); have hz0 := (hO2.cellAt (k * 2) (by omega)).trans HI0.out; have hz1 := (hO2.cellAt (k * 2 + 1) (by omega)).trans HI1.out; have HO2 := Lib.hid hO2; have HB2 := Lib.hid (HB.out.trans (hb2.mono HB.out.size)); clear hO2 hb2))
      go_roundw
      case rel =>
        have h1 := (HO2.out.stored (k * 2) (.string (nthE l k).1)).1
        have h2 := (h1.stored (k * 2 + 1) (.int .i64 (nthE l k).2)).1
        rw [set2 _ _ HA.out (by simp)] at h2
        refine ⟨k + 1, R', by omega, by go_num, ?_, ?_, (HB2.out.setCell (p := ⟨w.heap.size, k * 2, none⟩) (Nat.le_refl _) _).setCell (p := ⟨w.heap.size, k * 2 + 1, none⟩) (Nat.le_refl _) _⟩
        · have := HR.out; simp at this; omega
        · rw [take_snocE (by have := HL.out; omega), List.flatMap_append, List.flatMap_singleton]
          exact h2
      case measure => simp [intOf]; omega
    · obtain rfl : k = n := by omega
      go_wp2
      go_ret
      refine ⟨_, rfl, ?_, HB.out⟩
      have h1 := HW.out
      have h0 := HR.out
      rw [Nat.sub_self, Nat.zero_mul] at h0
      rw [List.eq_nil_of_length_eq_zero h0, List.append_nil, List.take_of_length_le (by have := HL.out; omega)] at h1
      show World.ownsRow _ _ _ _ _ _ _
      rw [HL.out]
      exact h1
theorem argBr_of {H : Type} {enc : TypeId × Value → H} {W : World} {a : Option Addr} {len cap : Nat} {d : DataW H} {p : List MemPlace} (h : DataW.Trod enc Try.prog W 0 (fun _ => true) true 40 (.slice a len cap) d p) : ∃ l, ArgE W a len cap l := by
  obtain ⟨fuel, hf⟩ := h
  rcases Deep.open_slice_pairs Try.underlying40 Try.underlying44 (by kernel_rfl) rfl rfl (by kernel_rfl) (by kernel_rfl) hf with ⟨hcs, _⟩ | ⟨x, l, c, m, n, V0, V1, D0, D1, P0, P1, hcs, _, hl, hm, hmm, _, hc⟩
  · simp [Value.cells] at hcs
    obtain ⟨rfl, rfl, rfl⟩ := hcs
    exact ⟨[], ⟨rfl, Nat.le_refl _, by unfold maxLen; omega, Rds.nil _ _ _⟩, fun k => by simp [nthE]⟩
  · simp [Value.cells] at hcs
    obtain ⟨rfl, rfl, rfl⟩ := hcs
    simp at hmm
    subst hmm
    have each : ∀ i, i < m → ∃ q : Ent, V0 i = .string q.1 ∧ V1 i = .int .i64 q.2 ∧ q.1.size ≤ maxLen := fun i hi => by
      obtain ⟨_, _, h0, h1⟩ := hc i hi
      obtain ⟨s, e0, _, hs⟩ := DataW.trod_string Try.underlying9 h0
      obtain ⟨z, e1, _⟩ := DataW.trod_int Try.underlying3 h1
      simp only [List.cons.injEq, and_true] at e0 e1
      exact ⟨(s, z), e0, e1, hs⟩
    obtain ⟨f, hf'⟩ : ∃ f : Nat → Ent, ∀ i, i < m → V0 i = .string (f i).1 ∧ V1 i = .int .i64 (f i).2 ∧ (f i).1.size ≤ maxLen :=
      ⟨fun i => if hi : i < m then Classical.choose (each i hi) else (ByteArray.empty, 0), fun i hi => by simp only [dif_pos hi]; exact Classical.choose_spec (each i hi)⟩
    refine ⟨(List.range len).map f, ⟨by simp, hl, hm, fun j u hu => ?_⟩, fun k => ?_⟩
    · obtain ⟨hj, hu'⟩ := enG_nth hu
      obtain ⟨c0, c1, _, _⟩ := hc (j / 2) (by omega)
      obtain ⟨v0, v1, _⟩ := hf' (j / 2) (by omega)
      obtain ⟨z0, _, _, _⟩ := hc 0 (by omega)
      rw [Nat.zero_mul] at z0
      rw [v0] at c0
      rw [v1] at c1
      have hm2 : j % 2 = 0 ∨ j % 2 = 1 := by omega
      rcases hm2 with e | e
      · rw [e] at hu'
        simp only [enG, List.getElem?_cons_zero, Option.some.injEq] at hu'
        subst hu'
        obtain ⟨b, off, rfl, h1, h2⟩ := nodes_bd c0 z0
        exact ⟨b, off, rfl, h1, (show off + j / 2 * 2 = off + j by omega) ▸ h2⟩
      · rw [e] at hu'
        simp only [enG, List.getElem?_cons_succ, List.getElem?_cons_zero, Option.some.injEq] at hu'
        subst hu'
        obtain ⟨b, off, rfl, h1, h2⟩ := nodes_bd c1 z0
        exact ⟨b, off, rfl, h1, (show off + (j / 2 * 2 + 1) = off + j by omega) ▸ h2⟩
    · unfold nthE
      rw [List.getD_eq_getElem?_getD]
      cases hk : ((List.range len).map f)[k]? with
      | none => simp
      | some t =>
        obtain ⟨i, hi, rfl⟩ := List.mem_map.1 (List.mem_of_getElem? hk)
        have := List.mem_range.1 hi
        exact (hf' i (by omega)).2.2
end Go.Proofs.Ytiniadlpgomgjaa
