/-
  Contracts of the laws' helpers on lists of pieces: copies and marks.
-/
import Derived.Test.YtpjndkiclfoanaaPieces
namespace Go.Proofs.Ytpjndkiclfoanaa
open Go.RowKit
set_option linter.unusedVariables false
theorem grownBy_then {a b c : World} {r : Option Nat} (h : a.grownBy b r) (k : b.grownBy c r) : a.grownBy c r :=
  ⟨k.os.trans h.os, k.tape.trans h.tape, k.output.trans h.output, Nat.le_trans h.size k.size, fun i hi hr => (k.block i (Nat.lt_of_lt_of_le hi h.size) hr).trans (h.block i hi hr)⟩
theorem set2 {α : Type} {A R : List α} {m : Nat} (x y : α) (hA : A.length = m) (hR : 2 ≤ R.length) : ((A ++ R).set m x).set (m + 1) y = A ++ [x, y] ++ R.drop 2 := by
  subst hA
  match R, hR with
  | a :: b :: R, _ => simp
theorem flat_drop {α : Type} {g : α → List Value} {size : Nat} (E : Enc g size) : ∀ (l : List α) (k : Nat), (l.flatMap g).drop (k * size) = (l.drop k).flatMap g
  | l, 0 => by simp
  | [], k + 1 => by simp
  | a :: l, k + 1 => by
    rw [List.flatMap_cons, List.drop_append, E.len, List.drop_of_length_le (by rw [E.len, Nat.succ_mul]; omega), List.nil_append, show (k + 1) * size - size = k * size by rw [Nat.succ_mul]; omega, flat_drop E l k]
    rfl
def marksP (k : Int) (n : Nat) : List Pc := (List.range n).map fun i : Nat => (k + 2 * (i : Int), markB (k + 2 * (i : Int) + 1))
theorem marksP_len (k : Int) (n : Nat) : (marksP k n).length = n := by unfold marksP; simp
theorem marksP_at {k : Int} {n i : Nat} (h : i < n) : nthP (marksP k n) i = (k + 2 * i, markB (k + 2 * i + 1)) := by unfold nthP marksP; rw [List.getD_eq_getElem?_getD, List.getElem?_map, List.getElem?_range h]; rfl
theorem marksP_snoc (k : Int) (n : Nat) : marksP k (n + 1) = marksP k n ++ [(k + 2 * (n : Int), markB (k + 2 * (n : Int) + 1))] := by unfold marksP; rw [List.range_succ, List.map_append]; rfl
theorem marks_step {k : Int} {l : List Pc} {j : Nat} (h : j < l.length) :
    (((marksP k j).flatMap pcG ++ (l.drop j).flatMap pcG).set (j * 2) (.int .i64 (k + 2 * j))).set (j * 2 + 1) (.string (markB (k + 2 * j + 1))) = (marksP k (j + 1)).flatMap pcG ++ (l.drop (j + 1)).flatMap pcG := by
  rw [set2 _ _ (by rw [encPc.length, marksP_len]) (by rw [encPc.length, List.length_drop]; omega), marksP_snoc, List.flatMap_append]
  have e : ((l.drop j).flatMap pcG).drop 2 = (l.drop (j + 1)).flatMap pcG := by
    have := flat_drop encPc (l.drop j) 1
    rw [Nat.one_mul, List.drop_drop] at this
    rw [this]
  rw [e]; rfl
theorem markPieceS_any (x : Option Addr) (n cap : Nat) (l : List Pc) (base : Nat) (k : Int) (w : World) (h : OwnP w base (.slice x n cap) l) (hl : l.length = n) (hk : 0 ≤ k) (hk1 : k ≤ 100000000) (hn : n ≤ 10000000) :
    Calls Try.prog 29 #[.slice x n cap, .int .i64 k] w fun e w' => e = .returned (.int .i64 (k + 2 * n)) ∧ OwnP w' base (.slice x n cap) (marksP k n) ∧ w.grownBy w' (Value.slice x n cap).ownBlock := by
  have HL := Lib.hid hl
  have hmx : cap ≤ maxLen ∧ n ≤ cap := by obtain ⟨x', c', e, h1, h2, _⟩ := own_reads h; simp only [Value.slice.injEq] at e; obtain ⟨rfl, rfl, rfl⟩ := e; omega
  obtain ⟨hmx, hle⟩ := hmx
  unfold maxLen at hmx
  rcases h.2 with ⟨e, _⟩ | ⟨g, cap', cur, e, hrest⟩
  · simp only [Value.slice.injEq] at e
    obtain ⟨rfl, rfl, rfl⟩ := e
    have HF := Lib.hid h
    clear h hl
    go_enter Try.func29, Try.ntmps29
    go_wp2
    go_loopw [1, 5] (fun kk i wr => i = .int .i64 0 ∧ kk = .int .i64 k ∧ wr = w) (fun _ i _ => (intOf i).toNat)
    case atStart => exact ⟨rfl, rfl, rfl⟩
    case round =>
      obtain ⟨rfl, rfl, rfl⟩ := hrel
      go_wp2
      go_ret
      exact ⟨ret_int (by simp), OwnL.nil _ _ _ _ _, rfl, rfl, rfl, Nat.le_refl _, fun _ _ _ => rfl⟩
  · simp only [Value.slice.injEq] at e
    obtain ⟨rfl, e2, rfl⟩ := e
    clear hrest
    have h' : w.ownsRow base 28 2 (.slice (some ⟨g, 0, none⟩) n cap) n (l.flatMap pcG) := by have := h; unfold OwnP OwnL at this; rwa [hl] at this
    have HW0 := Lib.hid h'
    have hgw : g < w.heap.size := (h'.lt g rfl).2
    clear h h' hl e2
    go_enter Try.func29, Try.ntmps29
    go_wp2
    go_loopw [1, 5] (fun kk i wr => ∃ j : Nat, j ≤ n ∧ i = .int .i64 j ∧ kk = .int .i64 (k + 2 * j) ∧ wr.ownsRow base 28 2 (.slice (some ⟨g, 0, none⟩) n cap) n ((marksP k j).flatMap pcG ++ (l.drop j).flatMap pcG) ∧ w.grownBy wr (some g)) (fun _ i _ => n - (intOf i).toNat)
    case atStart => exact ⟨0, by omega, rfl, by go_num, HW0.out, rfl, rfl, rfl, Nat.le_refl _, fun _ _ _ => rfl⟩
    case round =>
      obtain ⟨j, hj, rfl, rfl, ho, hg⟩ := hrel
      have HO := Lib.hid ho; have HG := Lib.hid hg; clear ho hg
      by_cases hlt : j < n
      · have hlen : ((marksP k j).flatMap pcG ++ (l.drop j).flatMap pcG).length = n * 2 := by rw [List.length_append, encPc.length, encPc.length, marksP_len, List.length_drop, HL.out]; omega
        have HLEN := Lib.hid hlen
        clear hlen
        have hf0 := HO.out.frozenAt (j * 2)
        have hz0 := HO.out.cellAt (j * 2) (by omega)
        rw [List.getElem?_eq_getElem (by have := HLEN.out; omega)] at hz0
        generalize ((marksP k j).flatMap pcG ++ (l.drop j).flatMap pcG)[j * 2]'(by have := HLEN.out; omega) = z at hz0
        have HS1 := Lib.hid (HO.out.stored (j * 2) (.int .i64 (k + 2 * j)))
        go_wp2_with (first
          | (go_at_call 50; refine (markText_any _ _ (by omega)).mono ?_; rintro e w2 ⟨rfl, hb⟩; have hO2 := own_below HS1.out.1 hb; have hf := hO2.frozenAt (j * 2 + 1); have hz := hO2.cellAt (j * 2 + 1) (by omega); rw [List.getElem?_eq_getElem (by have := HLEN.out; rw [List.length_set]; omega)] at hz; generalize (((marksP k j).flatMap pcG ++ (l.drop j).flatMap pcG).set (j * 2) (.int .i64 (k + 2 * j)))[j * 2 + 1]'(by have := HLEN.out; rw [List.length_set]; omega) = z2 at hz; have HO2 := Lib.hid hO2; have HG2 := Lib.hid (grownBy_join (grownBy_then HG.out HS1.out.2) hb); clear hO2 hb))
        go_roundw
        case rel =>
          have HST := HO2.out.stored (j * 2 + 1) (.string (markB (k + 2 * j + 1)))
          refine ⟨j + 1, by omega, by go_num, by go_num, ?_, ?_⟩
          · have := HST.1
            rw [marks_step (by have := HL.out; omega)] at this
            exact this
          · exact ⟨HG2.out.os, HG2.out.tape, HG2.out.output, by simpa using HG2.out.size, fun q hq hne => (HST.2.block q (by have := HG2.out.size; omega) hne).trans (HG2.out.block q hq hne)⟩
        case measure => simp [intOf]; omega
      · obtain rfl : j = n := by omega
        go_wp2
        go_ret
        refine ⟨rfl, ?_, HG.out⟩
        have h1 := HO.out
        rw [List.drop_of_length_le (by have := HL.out; omega)] at h1
        show World.ownsRow _ _ _ _ _ _ _
        rw [marksP_len]
        simpa using h1
theorem heldPieceS_any (x : Option Addr) (n cap : Nat) (k : Int) (B : Nat) (w : World) (h : Pcs w B x n cap (marksP k n)) (hB : B ≤ w.heap.size) (hk : 0 ≤ k) (hk1 : k ≤ 100000000) (hn : n ≤ 10000000) :
    Calls Try.prog 30 #[.slice x n cap, .int .i64 k] w (BelowI (k + 2 * n) w) := by
  have HH := Lib.hid h
  have hmx := h.max
  have hle := h.le
  clear h
  unfold maxLen at hmx
  go_enter Try.func30, Try.ntmps30
  go_wp2
  go_loopw [1, 5] (fun kk i wr => ∃ j : Nat, j ≤ n ∧ i = .int .i64 j ∧ kk = .int .i64 (k + 2 * j) ∧ Below w.heap.size w wr) (fun _ i _ => n - (intOf i).toNat)
  case atStart => exact ⟨0, by omega, rfl, by go_num, Below.refl _ _⟩
  case round =>
    obtain ⟨j, hj, rfl, rfl, hb⟩ := hrel
    have HB := Lib.hid hb; clear hb
    by_cases hlt : j < n
    · obtain ⟨b, off, rfl, hb, hc0, hc1⟩ := (HH.out.below HB.out hB).atP hlt
      rw [marksP_at hlt] at hc0 hc1
      have hbw : b < wr.heap.size := by have := HB.out.size; omega
      go_wp2
      go_region_with (go_at_call 50; refine (markText_any _ _ (by omega)).mono ?_; rintro e w2 ⟨rfl, hb2⟩; have hc2 := cell_drewn hc1 hb2 hbw; have HB2 := Lib.hid (below_drewn HB.out hb2 HB.out.size); clear hb2)
      all_goals
        go_wp2
        go_roundw
        case rel => exact ⟨j + 1, by omega, by go_num, by go_num, HB2.out⟩
        case measure => simp [intOf]; omega
    · obtain rfl : j = n := by omega
      go_wp2
      go_ret
      exact ⟨rfl, HB.out⟩
theorem run_mkPc (n : Nat) (hn : n ≤ 2000000) (w : World) : (Instr.makeSlice 23 (.int .i64 (n : Int)) (.int .i64 (n : Int))).run Try.prog w = .ok (.slice (some ⟨w.heap.size, 0, none⟩) n n) (w.alloc (.cells (madeCells #[.int .i64 0, .string ByteArray.empty] (n * 2)) 28)) := run_mk eltPc n hn w
theorem own_mkPc (w : World) (n : Nat) (hn : n ≤ 2000000) {base : Nat} (hb : base ≤ w.heap.size) :
    (w.alloc (.cells (madeCells #[.int .i64 0, .string ByteArray.empty] (n * 2)) 28)).ownsRow base 28 2 (.slice (some ⟨w.heap.size, 0, none⟩) n n) n (madeCells #[.int .i64 0, .string ByteArray.empty] (n * 2)).toList := own_mk eltPc w n hn hb
theorem toPieceS_any (x : Option Addr) (n cap : Nat) (l : List Pc) (w : World) (h : Pcs w w.heap.size x n cap l) (hn : n ≤ 1048576) : Calls Try.prog 27 #[.slice x n cap] w (NewP l w) := by
  have HL := Lib.hid h.len
  have HH := Lib.hid h
  have hmx := h.max
  have hle := h.le
  clear h
  unfold maxLen at hmx
  have hmk := run_mkPc n (by omega)
  have HO := Lib.hid (own_mkPc w n (by omega) (Nat.le_refl _))
  go_enter Try.func27, Try.ntmps27
  go_wp2
  clear hmk
  go_loopw [4] (fun i wr => ∃ (k : Nat) (R : List Value), k ≤ n ∧ i = .int .i64 k ∧ R.length = (n - k) * 2 ∧ wr.ownsRow w.heap.size 28 2 (.slice (some ⟨w.heap.size, 0, none⟩) n n) n ((l.take k).flatMap pcG ++ R) ∧ Below w.heap.size w wr) (fun i _ => n - (intOf i).toNat)
  case atStart =>
    refine ⟨0, _, by omega, rfl, ?_, HO.out, (Below.refl _ _).alloc (Nat.le_refl _) _⟩
    rw [Array.length_toList, size_madeCells]
    simp
  case round =>
    obtain ⟨k, R, hk, rfl, hR, ho, hb⟩ := hrel
    have HB := Lib.hid hb; clear hb
    have HW := Lib.hid ho; clear ho
    have HR := Lib.hid hR; clear hR
    by_cases hlt : k < n
    · obtain ⟨b, off, rfl, hb, hc0, hc1⟩ := (HH.out.below HB.out (Nat.le_refl _)).atP hlt
      obtain ⟨z0, z1, R', rfl⟩ : ∃ z0 z1 R', R = z0 :: z1 :: R' := by
        match R, HR.out with
        | a :: b :: R', _ => exact ⟨a, b, R', rfl⟩
        | [a], h => simp at h; omega
        | [], h => simp at h; omega
      have hA : ((l.take k).flatMap pcG).length = k * 2 := by rw [encPc.length, List.length_take, HL.out]; omega
      have HA := Lib.hid hA
      have HI0 := Lib.hid (show ((l.take k).flatMap pcG ++ z0 :: z1 :: R')[k * 2]? = some z0 by rw [List.getElem?_append_right (by omega), hA]; simp)
      have HI1 := Lib.hid (show ((l.take k).flatMap pcG ++ z0 :: z1 :: R')[k * 2 + 1]? = some z1 by rw [List.getElem?_append_right (by omega), hA]; simp)
      clear hA
      go_wp2_with (first
        | (go_at_call 48; refine (toPiece_any (nthP l k) _).mono ?_; rintro e w2 ⟨rfl, hb2⟩; have hO2 := own_below HW.out hb2; have hf0 := hO2.frozenAt (k * 2); have hf1 := hO2.frozenAt (k * 2 + 1); have hz0 := (hO2.cellAt (k * 2) (by omega)).trans HI0.out; have hz1 := (hO2.cellAt (k * 2 + 1) (by omega)).trans HI1.out; have HO2 := Lib.hid hO2; have HB2 := Lib.hid (HB.out.trans (hb2.mono HB.out.size)); clear hO2 hb2))
      go_roundw
      case rel =>
        have h1 := (HO2.out.stored (k * 2) (.int .i64 (nthP l k).1)).1
        have h2 := (h1.stored (k * 2 + 1) (.string (nthP l k).2)).1
        rw [set2 _ _ HA.out (by simp)] at h2
        refine ⟨k + 1, R', by omega, by go_num, ?_, ?_, (HB2.out.setCell (p := ⟨w.heap.size, k * 2, none⟩) (Nat.le_refl _) _).setCell (p := ⟨w.heap.size, k * 2 + 1, none⟩) (Nat.le_refl _) _⟩
        · have := HR.out; simp at this; omega
        · rw [take_snocP (by have := HL.out; omega), List.flatMap_append, List.flatMap_singleton]
          exact h2
      case measure => simp [intOf]; omega
    · obtain rfl : k = n := by omega
      go_wp2
      go_ret
      refine ⟨_, rfl, ?_, HB.out⟩
      have h1 := HW.out
      have h0 := HR.out
      rw [Nat.sub_self, Nat.zero_mul] at h0
      rw [List.eq_nil_of_length_eq_zero h0, List.append_nil, List.take_of_length_le (by have := HL.out; omega)] at h1
      show World.ownsRow _ _ _ _ _ _ _
      rw [HL.out]
      exact h1
end Go.Proofs.Ytpjndkiclfoanaa
