/-
  Pieces in memory, and the contracts of the laws' helpers on lists of pieces.
-/
import Derived.Test.YtpjndkiclfoanaaMarksS
import Derived.Deep.Strs
namespace Go.Proofs.Ytpjndkiclfoanaa
open Go.RowKit
set_option linter.unusedVariables false
/-- A print and a text. -/
abbrev Pc := Int × ByteArray
def pcG (p : Pc) : List Value := [.int .i64 p.1, .string p.2]
theorem encPc : Enc pcG 2 := ⟨fun _ => rfl, fun p u hu => by
  simp only [pcG, List.mem_cons, List.not_mem_nil, or_false] at hu
  rcases hu with rfl | rfl <;> rfl, by decide⟩
def nthP (l : List Pc) (k : Nat) : Pc := l.getD k (0, ByteArray.empty)
theorem nthP_get {l : List Pc} {k : Nat} (h : k < l.length) : nthP l k = l[k] := by unfold nthP; rw [List.getD_eq_getElem?_getD, List.getElem?_eq_getElem h]; rfl
theorem take_snocP {l : List Pc} {k : Nat} (h : k < l.length) : l.take (k + 1) = l.take k ++ [nthP l k] := by
  rw [List.take_succ_eq_append_getElem h, nthP_get h]
abbrev Pcs (w : World) (B : Nat) (x : Option Addr) (n cap : Nat) (l : List Pc) : Prop := Lst pcG w B x n cap l
theorem Lst.atP {w : World} {B : Nat} {x : Option Addr} {n cap : Nat} {l : List Pc} (h : Pcs w B x n cap l) {k : Nat} (hk : k < n) :
    ∃ b off, x = some ⟨b, off, none⟩ ∧ b < B ∧ w.cell? ⟨b, off + k * 2, none⟩ = some (.int .i64 (nthP l k).1) ∧ w.cell? ⟨b, off + k * 2 + 1, none⟩ = some (.string (nthP l k).2) := by
  obtain ⟨b, off, rfl, hb, h0⟩ := Lst.at encPc h (k := k) (j := 0) (v := .int .i64 (nthP l k).1) (0, ByteArray.empty) hk (by decide) rfl
  obtain ⟨b', off', e, _, h1⟩ := Lst.at encPc h (k := k) (j := 1) (v := .string (nthP l k).2) (0, ByteArray.empty) hk (by decide) rfl
  simp only [Option.some.injEq, Addr.mk.injEq, and_true] at e
  obtain ⟨rfl, rfl⟩ := e
  exact ⟨b, off, rfl, hb, h0, h1⟩
def sumP (l : List Pc) : Nat := (l.map fun p => p.2.size).sum
theorem sumP_snoc (l : List Pc) (t : Pc) : sumP (l ++ [t]) = sumP l + t.2.size := by unfold sumP; simp
theorem sumP_split (l : List Pc) (k : Nat) : sumP l = sumP (l.take k) + sumP (l.drop k) := by
  have h : sumP l = sumP (l.take k ++ l.drop k) := by rw [List.take_append_drop]
  rw [h]; unfold sumP; rw [List.map_append, List.sum_append]
/-- What is left behind a list; -1 if it is too much. -/
def leftP (l : List Pc) (left : Int) : Int := if (l.length + sumP l : Int) ≤ left then left - l.length - sumP l else -1
theorem szPiece_any (p : Pc) (left : Int) (w : World) (h0 : 0 ≤ left) (h1 : left ≤ 100000000) (hz : p.2.size ≤ maxLen) : Calls Try.prog 47 #[.agg #[.int .i64 p.1, .string p.2], .int .i64 left] w (BelowI (if (p.2.size : Int) ≤ left then left - p.2.size else -1) w) := by
  unfold maxLen at hz
  by_cases h : (p.2.size : Int) ≤ left
  · have HF := Lib.hid (show (if (p.2.size : Int) ≤ left then left - p.2.size else -1) = left - p.2.size from if_pos h)
    go_enter Try.func47, Try.ntmps47
    go_wp2
    go_ret
    exact ⟨ret_int (by first | rfl | exact HF.out.symm), (Below.refl _ _).alloc (Nat.le_refl _) _⟩
  · have HF := Lib.hid (show (if (p.2.size : Int) ≤ left then left - p.2.size else -1) = -1 from if_neg h)
    go_enter Try.func47, Try.ntmps47
    go_wp2
    go_ret
    exact ⟨ret_int (by first | rfl | exact HF.out.symm), (Below.refl _ _).alloc (Nat.le_refl _) _⟩
theorem szPieceS_any (x : Option Addr) (n cap : Nat) (l : List Pc) (left : Int) (B : Nat) (w : World) (h : Pcs w B x n cap l) (hB : B ≤ w.heap.size) (hz : ∀ k, (nthP l k).2.size ≤ maxLen) (h0 : 0 ≤ left) (h1 : left ≤ 100000000) :
    Calls Try.prog 26 #[.slice x n cap, .int .i64 left] w (BelowI (leftP l left) w) := by
  have HL := Lib.hid h.len
  have HH := Lib.hid h
  have HZ := Lib.hid hz
  have hmx := h.max
  have hle := h.le
  clear h hz
  unfold maxLen at hmx
  by_cases hn : left < (n : Int)
  · have HF := Lib.hid (show leftP l left = -1 by unfold leftP; rw [if_neg (by have := HL.out; omega)])
    go_enter Try.func26, Try.ntmps26
    go_wp2
    go_ret
    exact ⟨ret_int HF.out.symm, Below.refl _ _⟩
  · go_enter Try.func26, Try.ntmps26
    go_wp2
    go_loopw [1, 5] (fun q i wr => ∃ k : Nat, k ≤ n ∧ i = .int .i64 k ∧ q = .int .i64 (left - n - sumP (l.take k)) ∧ (sumP (l.take k) : Int) ≤ left - n ∧ Below w.heap.size w wr) (fun _ i _ => n - (intOf i).toNat)
    case atStart => exact ⟨0, by omega, rfl, by simp [sumP], by simp [sumP]; omega, Below.refl _ _⟩
    case round =>
      obtain ⟨k, hk, rfl, rfl, hs, hb⟩ := hrel
      have HB := Lib.hid hb; clear hb
      by_cases hlt : k < n
      · have HT := Lib.hid (show sumP (l.take (k + 1)) = sumP (l.take k) + (nthP l k).2.size by rw [take_snocP (by have := HL.out; omega), sumP_snoc])
        obtain ⟨b0, off, rfl, hb0, hc0, hc1⟩ := (HH.out.below HB.out hB).atP hlt
        have hzk := HZ.out k
        have hd := sumP_split l (k + 1)
        rw [HT.out] at hd
        have HD := Lib.hid hd
        clear hd
        by_cases hneg : left - (n : Int) - (sumP (l.take k) : Int) < ((nthP l k).2.size : Int)
        · have HF := Lib.hid (show leftP l left = -1 by unfold leftP; rw [if_neg (by have := HL.out; have := HD.out; omega)])
          go_wp2_with fail
          refine (szPiece_any (nthP l k) _ _ (by omega) (by omega) hzk).mono ?_
          rintro e w2 ⟨rfl, hb⟩
          have HB2 := Lib.hid (HB.out.trans (hb.mono HB.out.size)); clear hb
          rw [if_neg (by omega)]
          go_wp2_with fail
          go_ret
          exact ⟨ret_int HF.out.symm, HB2.out⟩
        · go_wp2_with fail
          refine (szPiece_any (nthP l k) _ _ (by omega) (by omega) hzk).mono ?_
          rintro e w2 ⟨rfl, hb⟩
          have HB2 := Lib.hid (HB.out.trans (hb.mono HB.out.size)); clear hb
          rw [if_pos (by omega)]
          go_wp2_with fail
          go_roundw
          case rel => exact ⟨k + 1, by omega, by go_num, by have := HT.out; go_num, by have := HT.out; omega, HB2.out⟩
          case measure => simp [intOf]; omega
      · have e : l.take k = l := List.take_of_length_le (by have := HL.out; omega)
        rw [e] at hs ⊢
        have HF := Lib.hid (show leftP l left = left - n - sumP l by unfold leftP; rw [if_pos (by have := HL.out; omega), HL.out])
        clear e
        go_wp2
        go_ret
        exact ⟨ret_int HF.out.symm, HB.out⟩
/-! ### copies -/
abbrev OwnP (w : World) (base : Nat) (v : Value) (l : List Pc) : Prop := OwnL pcG 28 2 w base v l
theorem Try.infoPc : (Try.prog.info? 28).map (fun i => (i.zero, i.size, i.bytes)) = some (some (.agg #[.int .i64 0, .string ByteArray.empty]), 2, 24) := by kernel_rfl
theorem eltPc : Elt 23 28 2 (.agg #[.int .i64 0, .string ByteArray.empty]) := elt_of Try.underlying23 Try.infoPc (by decide) rfl (by decide)
/-- A new row of pieces is handed back. -/
def NewP (l : List Pc) (w : World) (e : Ending) (w' : World) : Prop := ∃ v, e = .returned v ∧ OwnP w' w.heap.size v l ∧ Below w.heap.size w w'
theorem toPiece_any (p : Pc) (w : World) : Calls Try.prog 48 #[.agg #[.int .i64 p.1, .string p.2]] w fun e w' => e = .returned (.agg #[.int .i64 p.1, .string p.2]) ∧ Below w.heap.size w w' := by
  go_enter Try.func48, Try.ntmps48
  go_wp2
  refine bodyPost_ret (v := .agg #[.int .i64 p.1, .string p.2]) (by simp [results, Try.results48, go_sem]) rfl ⟨rfl, (((Below.refl _ _).alloc (Nat.le_refl _) _).alloc (by simp) _).alloc (by simp; omega) _⟩
theorem eqPiece_any (p q : Pc) (w : World) : Calls Try.prog 49 #[.agg #[.int .i64 p.1, .string p.2], .agg #[.int .i64 q.1, .string q.2]] w (BelowB (decide (p = q)) w) := by
  by_cases h1 : p.1 = q.1
  · by_cases h2 : p.2 = q.2
    · have HF := Lib.hid (show decide (p = q) = true by simpa using Prod.ext h1 h2)
      have hd : (p.2.toList == q.2.toList) = true := by rw [h2]; simp
      clear h2
      go_enter Try.func49, Try.ntmps49
      go_wp2
      go_ret
      exact ⟨ret_bool HF.out.symm, ((Below.refl _ _).alloc (Nat.le_refl _) _).alloc (by simp) _⟩
    · have HF := Lib.hid (show decide (p = q) = false by simp; intro e; exact h2 (by rw [e]))
      have hd : (p.2.toList == q.2.toList) = false := by rw [str_beq]; simpa using h2
      clear h2
      go_enter Try.func49, Try.ntmps49
      go_wp2
      go_ret
      exact ⟨ret_bool HF.out.symm, ((Below.refl _ _).alloc (Nat.le_refl _) _).alloc (by simp) _⟩
  · have HF := Lib.hid (show decide (p = q) = false by simp; intro e; exact h1 (by rw [e]))
    go_enter Try.func49, Try.ntmps49
    go_wp2
    go_ret
    exact ⟨ret_bool HF.out.symm, ((Below.refl _ _).alloc (Nat.le_refl _) _).alloc (by simp) _⟩
/-- Two lists of pieces are compared. -/
theorem take_eq_stepP {l l' : List Pc} {k : Nat} (h : k < l.length) (h' : k < l'.length) (he : l.take k = l'.take k) (hx : nthP l k = nthP l' k) : l.take (k + 1) = l'.take (k + 1) := by
  rw [take_snocP h, take_snocP h', he, hx]
theorem ne_atP {l l' : List Pc} {k : Nat} (hx : nthP l k ≠ nthP l' k) : l ≠ l' := fun h => hx (by rw [h])
theorem eqPieceS_any (x y : Option Addr) (n m c d : Nat) (l l' : List Pc) (B : Nat) (w : World) (h : Pcs w B x n c l) (h' : Pcs w B y m d l') (hB : B ≤ w.heap.size) : Calls Try.prog 28 #[.slice x n c, .slice y m d] w (BelowB (decide (l = l')) w) := by
  have HL := Lib.hid h.len
  have HL' := Lib.hid h'.len
  have hmx := h.max
  have hle := h.le
  have hmx' := h'.max
  have hle' := h'.le
  unfold maxLen at hmx hmx'
  by_cases hnm : n = m
  · subst hnm
    have HH := Lib.hid h
    have HH' := Lib.hid h'
    clear h h'
    go_enter Try.func28, Try.ntmps28
    go_wp2
    go_loopw [5] (fun i wr => ∃ k : Nat, k ≤ n ∧ i = .int .i64 k ∧ l.take k = l'.take k ∧ Below w.heap.size w wr) (fun i _ => n - (intOf i).toNat)
    case atStart => exact ⟨0, by omega, rfl, rfl, Below.refl _ _⟩
    case round =>
      obtain ⟨k, hk, rfl, he, hb⟩ := hrel
      have HE := Lib.hid he; clear he
      have HB := Lib.hid hb; clear hb
      by_cases hlt : k < n
      · obtain ⟨b, off, rfl, hb, hc0, hc1⟩ := (HH.out.below HB.out hB).atP hlt
        obtain ⟨b', off', rfl, hb', hc0', hc1'⟩ := (HH'.out.below HB.out hB).atP hlt
        by_cases hx : nthP l k = nthP l' k
        · have HX := Lib.hid hx
          have hdd := decide_eq_true hx
          clear hx
          go_wp2
          go_region_with (go_at_call 49; refine (eqPiece_any _ _ _).mono ?_; rintro e w2 ⟨rfl, hb2⟩; have HB2 := Lib.hid (below_drewn HB.out hb2 HB.out.size); clear hb2)
          all_goals
            go_wp2
            go_roundw
            case rel => exact ⟨k + 1, by omega, by go_num, take_eq_stepP (by have := HL.out; omega) (by have := HL'.out; omega) HE.out HX.out, HB2.out⟩
            case measure => simp [intOf]; omega
        · have HX := Lib.hid (ne_atP hx)
          have hdd := decide_eq_false hx
          clear hx
          go_wp2
          go_region_with (go_at_call 49; refine (eqPiece_any _ _ _).mono ?_; rintro e w2 ⟨rfl, hb2⟩; have HB2 := Lib.hid (below_drewn HB.out hb2 HB.out.size); clear hb2)
          all_goals
            go_wp2
            go_ret
            exact ⟨ret_bool (by simpa using HX.out), HB2.out⟩
      · go_wp2
        go_ret
        have h1 := HE.out
        rw [List.take_of_length_le (by have := HL.out; omega), List.take_of_length_le (by have := HL'.out; omega)] at h1
        exact ⟨ret_bool (by simpa using h1), HB.out⟩
  · have HX := Lib.hid (show l ≠ l' from fun e => hnm (by rw [← HL.out, ← HL'.out, e]))
    go_enter Try.func28, Try.ntmps28
    go_wp2
    go_ret
    exact ⟨ret_bool (by simpa using HX.out), Below.refl _ _⟩
theorem ne_pc {p q : Pc} (h : p ≠ q) : p.1 ≠ q.1 ∨ (p.1 = q.1 ∧ p.2 ≠ q.2) := by
  by_cases h1 : p.1 = q.1
  · exact .inr ⟨h1, fun h2 => h (Prod.ext h1 h2)⟩
  · exact .inl h1
theorem samePieces_any (x y : Option Addr) (n m c d : Nat) (l l' : List Pc) (B : Nat) (w : World) (h : Pcs w B x n c l) (h' : Pcs w B y m d l') : Calls Try.prog 18 #[.slice x n c, .slice y m d] w (QuietB (decide (l = l')) w) := by
  have HL := Lib.hid h.len
  have HL' := Lib.hid h'.len
  have hmx := h.max
  have hle := h.le
  have hmx' := h'.max
  have hle' := h'.le
  unfold maxLen at hmx hmx'
  by_cases hnm : n = m
  · subst hnm
    have HH := Lib.hid h
    have HH' := Lib.hid h'
    clear h h'
    go_enter Try.func18, Try.ntmps18
    go_wp2
    go_loopw [5] (fun i wr => ∃ k : Nat, k ≤ n ∧ i = .int .i64 k ∧ l.take k = l'.take k ∧ ∃ q, wr = w.drewN q) (fun i _ => n - (intOf i).toNat)
    case atStart => exact ⟨0, by omega, rfl, rfl, 0, rfl⟩
    case round =>
      obtain ⟨k, hk, rfl, he, q, rfl⟩ := hrel
      have HE := Lib.hid he; clear he
      by_cases hlt : k < n
      · obtain ⟨b, off, rfl, hb, hc0, hc1⟩ := HH.out.atP hlt
        obtain ⟨b', off', rfl, hb', hc0', hc1'⟩ := HH'.out.atP hlt
        by_cases hx : nthP l k = nthP l' k
        · have HX := Lib.hid hx
          go_wp2
          go_quiet (fail)
          go_wp2
          go_roundw
          case rel => exact ⟨k + 1, by omega, by go_num, take_eq_stepP (by have := HL.out; omega) (by have := HL'.out; omega) HE.out HX.out, _, by first | rfl | rw [World.drewN_drewN]⟩
          case measure => simp [intOf]; omega
        · have HX := Lib.hid (ne_atP hx)
          rcases ne_pc hx with h1 | ⟨h1, h2⟩
          · have hd1 : ((nthP l k).1 == (nthP l' k).1) = false := by simpa using h1
            clear hx h1
            go_wp2
            go_quiet (fail)
            go_wp2
            go_ret
            exact ⟨ret_bool (by simpa using HX.out), _, by first | rfl | rw [World.drewN_drewN]⟩
          · have hd1 : ((nthP l k).1 == (nthP l' k).1) = true := by simpa using h1
            have hd2 : ((nthP l k).2.toList == (nthP l' k).2.toList) = false := by rw [str_beq]; simpa using h2
            clear hx h1 h2
            go_wp2
            go_quiet (fail)
            go_wp2
            go_ret
            exact ⟨ret_bool (by simpa using HX.out), _, by first | rfl | rw [World.drewN_drewN]⟩
      · go_wp2
        go_ret
        have h1 := HE.out
        rw [List.take_of_length_le (by have := HL.out; omega), List.take_of_length_le (by have := HL'.out; omega)] at h1
        exact ⟨ret_bool (by simpa using h1), _, rfl⟩
  · have HX := Lib.hid (show l ≠ l' from fun e => hnm (by rw [← HL.out, ← HL'.out, e]))
    go_enter Try.func18, Try.ntmps18
    go_wp2
    go_ret
    exact ⟨ret_bool (by simpa using HX.out), 0, rfl⟩
end Go.Proofs.Ytpjndkiclfoanaa
