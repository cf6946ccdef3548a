/-
  What an argument that came in reads as, for the laws' walks.
-/
import Derived.Test.YtglajbmopiolhaaGreatDoorMem
import Derived.Test.YtglajbmopiolhaaGreatDoorDraw0
import Derived.ProofKit
import Derived.OpenShut
import Derived.ChangeOld
import Derived.Deep.Strs
import Derived.Test.YtglajbmopiolhaaGreatDoorHelp
import Derived.Deep.SlicePairs
namespace Go.Proofs.YtglajbmopiolhaaGreatDoor
open Go.RowKit Go.ChangeShapes Go.WideShapes Go.ChangeAt
set_option linter.unusedVariables false
theorem nodes_bd {W : World} {a : Addr} {i : Nat} {v v0 : Value} (h : W.cell? (a.add i) = some v) (h0 : W.cell? (a.add 0) = some v0) : ∃ b off, a = ⟨b, off, none⟩ ∧ b < W.heap.size ∧ W.cell? ⟨b, off + i, none⟩ = some v := by
  obtain ⟨b, off, spot⟩ := a
  have hspot : spot = none := by simpa [Addr.add] using World.cell?_spot h0
  subst hspot
  rw [addr_add] at h
  exact ⟨b, off, rfl, World.block_lt_of_cell? W ⟨b, off + i, none⟩ h, h⟩
/-- A slice of bytes that came in. -/
def ArgB (w : World) (a : Option Addr) (len cap : Nat) (_ : List Int) : Prop := Bytes w.heap.size w a len ∧ len ≤ cap ∧ cap ≤ maxLen
theorem argB_of {H : Type} {enc : TypeId × Value → H} {W : World} {a : Option Addr} {len cap : Nat} {d : DataW H} {p : List MemPlace} (h : DataW.Trod enc Tryz.prog W 0 (fun _ => true) true 22 (.slice a len cap) d p) : ∃ l, ArgB W a len cap l := by
  obtain ⟨fuel, hf⟩ := h
  rcases open_ints Tryz.underlying22 Tryz.underlying5 (by kernel_rfl) hf with ⟨hcs, _⟩ | ⟨x, l, c, zs, hcs, _, hl, hm, hz, _, hcell, hwz⟩
  · simp [Value.cells] at hcs
    obtain ⟨rfl, rfl, rfl⟩ := hcs
    exact ⟨[], fun i hi => by omega, Nat.le_refl _, by unfold maxLen; omega⟩
  · simp [Value.cells] at hcs
    obtain ⟨rfl, rfl, rfl⟩ := hcs
    have hz' : zs.length = cap := by simpa using hz
    refine ⟨[], fun i hi => ?_, hl, hm⟩
    obtain ⟨b, off, rfl, h1, h2⟩ := nodes_bd (hcell i (by omega)) (hcell 0 (by omega))
    have hmem : zs.getD i 0 ∈ zs := by rw [List.getD_eq_getElem?_getD, List.getElem?_eq_getElem (by omega)]; simp
    have hw := hwz _ hmem
    have hb : 0 ≤ zs.getD i 0 ∧ zs.getD i 0 ≤ 255 := by simpa [Lit.wf, IntKind.min, IntKind.max, IntKind.signed, IntKind.bits] using hw
    exact ⟨b, off, _, rfl, h1, h2, hb.1, hb.2⟩
end Go.Proofs.YtglajbmopiolhaaGreatDoor
/-
  Pieces in memory, and the contracts of the laws' helpers on lists of pieces.
-/
namespace Go.Proofs.YtglajbmopiolhaaGreatDoor
open Go.RowKit
set_option linter.unusedVariables false
/-- A print and a text. -/
abbrev Pc := Int × ByteArray
def pcG (p : Pc) : List Value := [.int .i64 p.1, .string p.2]
theorem encPc : Enc pcG 2 := ⟨fun _ => rfl, fun p u hu => by
  simp only [pcG, List.mem_cons, List.not_mem_nil, or_false] at hu
  rcases hu with rfl | rfl <;> rfl, by decide⟩
def nthP (l : List Pc) (k : Nat) : Pc := l.getD k (0, ByteArray.empty)
theorem nthP_get {l : List Pc} {k : Nat} (h : k < l.length) : nthP l k = l[k] := by unfold nthP; rw [List.getD_eq_getElem?_getD, List.getElem?_eq_getElem h]; rfl
theorem take_snocP {l : List Pc} {k : Nat} (h : k < l.length) : l.take (k + 1) = l.take k ++ [nthP l k] := by
  rw [List.take_succ_eq_append_getElem h, nthP_get h]
abbrev Pcs (w : World) (B : Nat) (x : Option Addr) (n cap : Nat) (l : List Pc) : Prop := Lst pcG w B x n cap l
theorem Lst.atP {w : World} {B : Nat} {x : Option Addr} {n cap : Nat} {l : List Pc} (h : Pcs w B x n cap l) {k : Nat} (hk : k < n) :
    ∃ b off, x = some ⟨b, off, none⟩ ∧ b < B ∧ w.cell? ⟨b, off + k * 2, none⟩ = some (.int .i64 (nthP l k).1) ∧ w.cell? ⟨b, off + k * 2 + 1, none⟩ = some (.string (nthP l k).2) := by
  obtain ⟨b, off, rfl, hb, h0⟩ := Lst.at encPc h (k := k) (j := 0) (v := .int .i64 (nthP l k).1) (0, ByteArray.empty) hk (by decide) rfl
  obtain ⟨b', off', e, _, h1⟩ := Lst.at encPc h (k := k) (j := 1) (v := .string (nthP l k).2) (0, ByteArray.empty) hk (by decide) rfl
  simp only [Option.some.injEq, Addr.mk.injEq, and_true] at e
  obtain ⟨rfl, rfl⟩ := e
  exact ⟨b, off, rfl, hb, h0, h1⟩
def sumP (l : List Pc) : Nat := (l.map fun p => p.2.size).sum
theorem sumP_snoc (l : List Pc) (t : Pc) : sumP (l ++ [t]) = sumP l + t.2.size := by unfold sumP; simp
theorem sumP_split (l : List Pc) (k : Nat) : sumP l = sumP (l.take k) + sumP (l.drop k) := by
  have h : sumP l = sumP (l.take k ++ l.drop k) := by rw [List.take_append_drop]
  rw [h]; unfold sumP; rw [List.map_append, List.sum_append]
/-- What is left behind a list; -1 if it is too much. -/
def leftP (l : List Pc) (left : Int) : Int := if (l.length + sumP l : Int) ≤ left then left - l.length - sumP l else -1
theorem szPiece_any (p : Pc) (left : Int) (w : World) (h0 : 0 ≤ left) (h1 : left ≤ 100000000) (hz : p.2.size ≤ maxLen) : Calls Tryz.prog 56 #[.agg #[.int .i64 p.1, .string p.2], .int .i64 left] w (BelowI (if (p.2.size : Int) ≤ left then left - p.2.size else -1) w) := by
  unfold maxLen at hz
  by_cases h : (p.2.size : Int) ≤ left
  · have HF := Lib.hid (show (if (p.2.size : Int) ≤ left then left - p.2.size else -1) = left - p.2.size from if_pos h)
    go_enter Tryz.func56, Tryz.ntmps56
    go_wp2
    go_ret
    exact ⟨ret_int (by first | rfl | exact HF.out.symm), (Below.refl _ _).alloc (Nat.le_refl _) _⟩
  · have HF := Lib.hid (show (if (p.2.size : Int) ≤ left then left - p.2.size else -1) = -1 from if_neg h)
    go_enter Tryz.func56, Tryz.ntmps56
    go_wp2
    go_ret
    exact ⟨ret_int (by first | rfl | exact HF.out.symm), (Below.refl _ _).alloc (Nat.le_refl _) _⟩
theorem szPieceS_any (x : Option Addr) (n cap : Nat) (l : List Pc) (left : Int) (B : Nat) (w : World) (h : Pcs w B x n cap l) (hB : B ≤ w.heap.size) (hz : ∀ k, (nthP l k).2.size ≤ maxLen) (h0 : 0 ≤ left) (h1 : left ≤ 100000000) :
    Calls Tryz.prog 24 #[.slice x n cap, .int .i64 left] w (BelowI (leftP l left) w) := by
  have HL := Lib.hid h.len
  have HH := Lib.hid h
  have HZ := Lib.hid hz
  have hmx := h.max
  have hle := h.le
  clear h hz
  unfold maxLen at hmx
  by_cases hn : left < (n : Int)
  · have HF := Lib.hid (show leftP l left = -1 by unfold leftP; rw [if_neg (by have := HL.out; omega)])
    go_enter Tryz.func24, Tryz.ntmps24
    go_wp2
    go_ret
    exact ⟨ret_int HF.out.symm, Below.refl _ _⟩
  · go_enter Tryz.func24, Tryz.ntmps24
    go_wp2
    go_loopw [1, 5] (fun q i wr => ∃ k : Nat, k ≤ n ∧ i = .int .i64 k ∧ q = .int .i64 (left - n - sumP (l.take k)) ∧ (sumP (l.take k) : Int) ≤ left - n ∧ Below w.heap.size w wr) (fun _ i _ => n - (intOf i).toNat)
    case atStart => exact ⟨0, by omega, rfl, by simp [sumP], by simp [sumP]; omega, Below.refl _ _⟩
    case round =>
      obtain ⟨k, hk, rfl, rfl, hs, hb⟩ := hrel
      have HB := Lib.hid hb; clear hb
      by_cases hlt : k < n
      · have HT := Lib.hid (show sumP (l.take (k + 1)) = sumP (l.take k) + (nthP l k).2.size by rw [take_snocP (by have := HL.out; omega), sumP_snoc])
        obtain ⟨b0, off, rfl, hb0, hc0, hc1⟩ := (HH.out.below HB.out hB).atP hlt
        have hzk := HZ.out k
        have hd := sumP_split l (k + 1)
        rw [HT.out] at hd
        have HD := Lib.hid hd
        clear hd
        by_cases hneg : left - (n : Int) - (sumP (l.take k) : Int) < ((nthP l k).2.size : Int)
        · have HF := Lib.hid (show leftP l left = -1 by unfold leftP; rw [if_neg (by have := HL.out; have := HD.out; omega)])
          go_wp2_with fail
          refine (szPiece_any (nthP l k) _ _ (by omega) (by omega) hzk).mono ?_
          rintro e w2 ⟨rfl, hb⟩
          have HB2 := Lib.hid (HB.out.trans (hb.mono HB.out.size)); clear hb
          rw [if_neg (by omega)]
          go_wp2_with fail
          go_ret
          exact ⟨ret_int HF.out.symm, HB2.out⟩
        · go_wp2_with fail
          refine (szPiece_any (nthP l k) _ _ (by omega) (by omega) hzk).mono ?_
          rintro e w2 ⟨rfl, hb⟩
          have HB2 := Lib.hid (HB.out.trans (hb.mono HB.out.size)); clear hb
          rw [if_pos (by omega)]
          go_wp2_with fail
          go_roundw
          case rel => exact ⟨k + 1, by omega, by go_num, by have := HT.out; go_num, by have := HT.out; omega, HB2.out⟩
          case measure => simp [intOf]; omega
      · have e : l.take k = l := List.take_of_length_le (by have := HL.out; omega)
        rw [e] at hs ⊢
        have HF := Lib.hid (show leftP l left = left - n - sumP l by unfold leftP; rw [if_pos (by have := HL.out; omega), HL.out])
        clear e
        go_wp2
        go_ret
        exact ⟨ret_int HF.out.symm, HB.out⟩
/-! ### copies -/
abbrev OwnP (w : World) (base : Nat) (v : Value) (l : List Pc) : Prop := OwnL pcG 57 2 w base v l
theorem Tryz.infoPc : (Tryz.prog.info? 57).map (fun i => (i.zero, i.size, i.bytes)) = some (some (.agg #[.int .i64 0, .string ByteArray.empty]), 2, 24) := by kernel_rfl
theorem eltPc : Elt 23 57 2 (.agg #[.int .i64 0, .string ByteArray.empty]) := elt_of Tryz.underlying23 Tryz.infoPc (by decide) rfl (by decide)
/-- A new row of pieces is handed back. -/
def NewP (l : List Pc) (w : World) (e : Ending) (w' : World) : Prop := ∃ v, e = .returned v ∧ OwnP w' w.heap.size v l ∧ Below w.heap.size w w'
theorem toPiece_any (p : Pc) (w : World) : Calls Tryz.prog 57 #[.agg #[.int .i64 p.1, .string p.2]] w fun e w' => e = .returned (.agg #[.int .i64 p.1, .string p.2]) ∧ Below w.heap.size w w' := by
  go_enter Tryz.func57, Tryz.ntmps57
  go_wp2
  refine bodyPost_ret (v := .agg #[.int .i64 p.1, .string p.2]) (by simp [results, Tryz.results57, go_sem]) rfl ⟨rfl, (((Below.refl _ _).alloc (Nat.le_refl _) _).alloc (by simp) _).alloc (by simp; omega) _⟩
theorem eqPiece_any (p q : Pc) (w : World) : Calls Tryz.prog 59 #[.agg #[.int .i64 p.1, .string p.2], .agg #[.int .i64 q.1, .string q.2]] w (BelowB (decide (p = q)) w) := by
  by_cases h1 : p.1 = q.1
  · by_cases h2 : p.2 = q.2
    · have HF := Lib.hid (show decide (p = q) = true by simpa using Prod.ext h1 h2)
      have hd : (p.2.toList == q.2.toList) = true := by rw [h2]; simp
      clear h2
      go_enter Tryz.func59, Tryz.ntmps59
      go_wp2
      go_ret
      exact ⟨ret_bool HF.out.symm, ((Below.refl _ _).alloc (Nat.le_refl _) _).alloc (by simp) _⟩
    · have HF := Lib.hid (show decide (p = q) = false by simp; intro e; exact h2 (by rw [e]))
      have hd : (p.2.toList == q.2.toList) = false := by rw [str_beq]; simpa using h2
      clear h2
      go_enter Tryz.func59, Tryz.ntmps59
      go_wp2
      go_ret
      exact ⟨ret_bool HF.out.symm, ((Below.refl _ _).alloc (Nat.le_refl _) _).alloc (by simp) _⟩
  · have HF := Lib.hid (show decide (p = q) = false by simp; intro e; exact h1 (by rw [e]))
    go_enter Tryz.func59, Tryz.ntmps59
    go_wp2
    go_ret
    exact ⟨ret_bool HF.out.symm, ((Below.refl _ _).alloc (Nat.le_refl _) _).alloc (by simp) _⟩
/-- Two lists of pieces are compared. -/
theorem take_eq_stepP {l l' : List Pc} {k : Nat} (h : k < l.length) (h' : k < l'.length) (he : l.take k = l'.take k) (hx : nthP l k = nthP l' k) : l.take (k + 1) = l'.take (k + 1) := by
  rw [take_snocP h, take_snocP h', he, hx]
theorem ne_atP {l l' : List Pc} {k : Nat} (hx : nthP l k ≠ nthP l' k) : l ≠ l' := fun h => hx (by rw [h])
theorem eqPieceS_any (x y : Option Addr) (n m c d : Nat) (l l' : List Pc) (B : Nat) (w : World) (h : Pcs w B x n c l) (h' : Pcs w B y m d l') (hB : B ≤ w.heap.size) : Calls Tryz.prog 27 #[.slice x n c, .slice y m d] w (BelowB (decide (l = l')) w) := by
  have HL := Lib.hid h.len
  have HL' := Lib.hid h'.len
  have hmx := h.max
  have hle := h.le
  have hmx' := h'.max
  have hle' := h'.le
  unfold maxLen at hmx hmx'
  by_cases hnm : n = m
  · subst hnm
    have HH := Lib.hid h
    have HH' := Lib.hid h'
    clear h h'
    go_enter Tryz.func27, Tryz.ntmps27
    go_wp2
    go_loopw [5] (fun i wr => ∃ k : Nat, k ≤ n ∧ i = .int .i64 k ∧ l.take k = l'.take k ∧ Below w.heap.size w wr) (fun i _ => n - (intOf i).toNat)
    case atStart => exact ⟨0, by omega, rfl, rfl, Below.refl _ _⟩
    case round =>
      obtain ⟨k, hk, rfl, he, hb⟩ := hrel
      have HE := Lib.hid he; clear he
      have HB := Lib.hid hb; clear hb
      by_cases hlt : k < n
      · obtain ⟨b, off, rfl, hb, hc0, hc1⟩ := (HH.out.below HB.out hB).atP hlt
        obtain ⟨b', off', rfl, hb', hc0', hc1'⟩ := (HH'.out.below HB.out hB).atP hlt
        by_cases hx : nthP l k = nthP l' k
        · have HX := Lib.hid hx
          have hdd := decide_eq_true hx
          clear hx
          go_wp2
          go_region_with (go_at_call 59; refine (eqPiece_any _ _ _).mono ?_; rintro e w2 ⟨rfl, hb2⟩; have HB2 := Lib.hid (below_drewn HB.out hb2 HB.out.size); clear hb2)
          all_goals
            go_wp2
            go_roundw
            case rel => exact ⟨k + 1, by omega, by go_num, take_eq_stepP (by have := HL.out; omega) (by have := HL'.out; omega) HE.out HX.out, HB2.out⟩
            case measure => simp [intOf]; omega
        · have HX := Lib.hid (ne_atP hx)
          have hdd := decide_eq_false hx
          clear hx
          go_wp2
          go_region_with (go_at_call 59; refine (eqPiece_any _ _ _).mono ?_; rintro e w2 ⟨rfl, hb2⟩; have HB2 := Lib.hid (below_drewn HB.out hb2 HB.out.size); clear hb2)
          all_goals
            go_wp2
            go_ret
            exact ⟨ret_bool (by simpa using HX.out), HB2.out⟩
      · go_wp2
        go_ret
        have h1 := HE.out
        rw [List.take_of_length_le (by have := HL.out; omega), List.take_of_length_le (by have := HL'.out; omega)] at h1
        exact ⟨ret_bool (by simpa using h1), HB.out⟩
  · have HX := Lib.hid (show l ≠ l' from fun e => hnm (by rw [← HL.out, ← HL'.out, e]))
    go_enter Tryz.func27, Tryz.ntmps27
    go_wp2
    go_ret
    exact ⟨ret_bool (by simpa using HX.out), Below.refl _ _⟩
theorem ne_pc {p q : Pc} (h : p ≠ q) : p.1 ≠ q.1 ∨ (p.1 = q.1 ∧ p.2 ≠ q.2) := by
  by_cases h1 : p.1 = q.1
  · exact .inr ⟨h1, fun h2 => h (Prod.ext h1 h2)⟩
  · exact .inl h1
theorem samePieces_any (x y : Option Addr) (n m c d : Nat) (l l' : List Pc) (B : Nat) (w : World) (h : Pcs w B x n c l) (h' : Pcs w B y m d l') : Calls Tryz.prog 22 #[.slice x n c, .slice y m d] w (QuietB (decide (l = l')) w) := by
  have HL := Lib.hid h.len
  have HL' := Lib.hid h'.len
  have hmx := h.max
  have hle := h.le
  have hmx' := h'.max
  have hle' := h'.le
  unfold maxLen at hmx hmx'
  by_cases hnm : n = m
  · subst hnm
    have HH := Lib.hid h
    have HH' := Lib.hid h'
    clear h h'
    go_enter Tryz.func22, Tryz.ntmps22
    go_wp2
    go_loopw [5] (fun i wr => ∃ k : Nat, k ≤ n ∧ i = .int .i64 k ∧ l.take k = l'.take k ∧ ∃ q, wr = w.drewN q) (fun i _ => n - (intOf i).toNat)
    case atStart => exact ⟨0, by omega, rfl, rfl, 0, rfl⟩
    case round =>
      obtain ⟨k, hk, rfl, he, q, rfl⟩ := hrel
      have HE := Lib.hid he; clear he
      by_cases hlt : k < n
      · obtain ⟨b, off, rfl, hb, hc0, hc1⟩ := HH.out.atP hlt
        obtain ⟨b', off', rfl, hb', hc0', hc1'⟩ := HH'.out.atP hlt
        by_cases hx : nthP l k = nthP l' k
        · have HX := Lib.hid hx
          go_wp2
          go_quiet (fail)
          go_wp2
          go_roundw
          case rel => exact ⟨k + 1, by omega, by go_num, take_eq_stepP (by have := HL.out; omega) (by have := HL'.out; omega) HE.out HX.out, _, by first | rfl | rw [World.drewN_drewN]⟩
          case measure => simp [intOf]; omega
        · have HX := Lib.hid (ne_atP hx)
          rcases ne_pc hx with h1 | ⟨h1, h2⟩
          · have hd1 : ((nthP l k).1 == (nthP l' k).1) = false := by simpa using h1
            clear hx h1
            go_wp2
            go_quiet (fail)
            go_wp2
            go_ret
            exact ⟨ret_bool (by simpa using HX.out), _, by first | rfl | rw [World.drewN_drewN]⟩
          · have hd1 : ((nthP l k).1 == (nthP l' k).1) = true := by simpa using h1
            have hd2 : ((nthP l k).2.toList == (nthP l' k).2.toList) = false := by rw [str_beq]; simpa using h2
            clear hx h1 h2
            go_wp2
            go_quiet (fail)
            go_wp2
            go_ret
            exact ⟨ret_bool (by simpa using HX.out), _, by first | rfl | rw [World.drewN_drewN]⟩
      · go_wp2
        go_ret
        have h1 := HE.out
        rw [List.take_of_length_le (by have := HL.out; omega), List.take_of_length_le (by have := HL'.out; omega)] at h1
        exact ⟨ret_bool (by simpa using h1), _, rfl⟩
  · have HX := Lib.hid (show l ≠ l' from fun e => hnm (by rw [← HL.out, ← HL'.out, e]))
    go_enter Tryz.func22, Tryz.ntmps22
    go_wp2
    go_ret
    exact ⟨ret_bool (by simpa using HX.out), 0, rfl⟩
end Go.Proofs.YtglajbmopiolhaaGreatDoor
/-
  Contracts of the laws' helpers on lists of pieces: copies and marks.
-/
namespace Go.Proofs.YtglajbmopiolhaaGreatDoor
open Go.RowKit
set_option linter.unusedVariables false
theorem grownBy_then {a b c : World} {r : Option Nat} (h : a.grownBy b r) (k : b.grownBy c r) : a.grownBy c r :=
  ⟨k.os.trans h.os, k.tape.trans h.tape, k.output.trans h.output, Nat.le_trans h.size k.size, fun i hi hr => (k.block i (Nat.lt_of_lt_of_le hi h.size) hr).trans (h.block i hi hr)⟩
theorem set2 {α : Type} {A R : List α} {m : Nat} (x y : α) (hA : A.length = m) (hR : 2 ≤ R.length) : ((A ++ R).set m x).set (m + 1) y = A ++ [x, y] ++ R.drop 2 := by
  subst hA
  match R, hR with
  | a :: b :: R, _ => simp
theorem flat_drop {α : Type} {g : α → List Value} {size : Nat} (E : Enc g size) : ∀ (l : List α) (k : Nat), (l.flatMap g).drop (k * size) = (l.drop k).flatMap g
  | l, 0 => by simp
  | [], k + 1 => by simp
  | a :: l, k + 1 => by
    rw [List.flatMap_cons, List.drop_append, E.len, List.drop_of_length_le (by rw [E.len, Nat.succ_mul]; omega), List.nil_append, show (k + 1) * size - size = k * size by rw [Nat.succ_mul]; omega, flat_drop E l k]
    rfl
def marksP (k : Int) (n : Nat) : List Pc := (List.range n).map fun i : Nat => (k + 2 * (i : Int), markB (k + 2 * (i : Int) + 1))
theorem marksP_len (k : Int) (n : Nat) : (marksP k n).length = n := by unfold marksP; simp
theorem marksP_at {k : Int} {n i : Nat} (h : i < n) : nthP (marksP k n) i = (k + 2 * i, markB (k + 2 * i + 1)) := by unfold nthP marksP; rw [List.getD_eq_getElem?_getD, List.getElem?_map, List.getElem?_range h]; rfl
theorem marksP_snoc (k : Int) (n : Nat) : marksP k (n + 1) = marksP k n ++ [(k + 2 * (n : Int), markB (k + 2 * (n : Int) + 1))] := by unfold marksP; rw [List.range_succ, List.map_append]; rfl
theorem marks_step {k : Int} {l : List Pc} {j : Nat} (h : j < l.length) :
    (((marksP k j).flatMap pcG ++ (l.drop j).flatMap pcG).set (j * 2) (.int .i64 (k + 2 * j))).set (j * 2 + 1) (.string (markB (k + 2 * j + 1))) = (marksP k (j + 1)).flatMap pcG ++ (l.drop (j + 1)).flatMap pcG := by
  rw [set2 _ _ (by rw [encPc.length, marksP_len]) (by rw [encPc.length, List.length_drop]; omega), marksP_snoc, List.flatMap_append]
  have e : ((l.drop j).flatMap pcG).drop 2 = (l.drop (j + 1)).flatMap pcG := by
    have := flat_drop encPc (l.drop j) 1
    rw [Nat.one_mul, List.drop_drop] at this
    rw [this]
  rw [e]; rfl
theorem markPieceS_any (x : Option Addr) (n cap : Nat) (l : List Pc) (base : Nat) (k : Int) (w : World) (h : OwnP w base (.slice x n cap) l) (hl : l.length = n) (hk : 0 ≤ k) (hk1 : k ≤ 100000000) (hn : n ≤ 10000000) :
    Calls Tryz.prog 28 #[.slice x n cap, .int .i64 k] w fun e w' => e = .returned (.int .i64 (k + 2 * n)) ∧ OwnP w' base (.slice x n cap) (marksP k n) ∧ w.grownBy w' (Value.slice x n cap).ownBlock := by
  have HL := Lib.hid hl
  have hmx : cap ≤ maxLen ∧ n ≤ cap := by obtain ⟨x', c', e, h1, h2, _⟩ := own_reads h; simp only [Value.slice.injEq] at e; obtain ⟨rfl, rfl, rfl⟩ := e; omega
  obtain ⟨hmx, hle⟩ := hmx
  unfold maxLen at hmx
  rcases h.2 with ⟨e, _⟩ | ⟨g, cap', cur, e, hrest⟩
  · simp only [Value.slice.injEq] at e
    obtain ⟨rfl, rfl, rfl⟩ := e
    have HF := Lib.hid h
    clear h hl
    go_enter Tryz.func28, Tryz.ntmps28
    go_wp2
    go_loopw [1, 5] (fun kk i wr => i = .int .i64 0 ∧ kk = .int .i64 k ∧ wr = w) (fun _ i _ => (intOf i).toNat)
    case atStart => exact ⟨rfl, rfl, rfl⟩
    case round =>
      obtain ⟨rfl, rfl, rfl⟩ := hrel
      go_wp2
      go_ret
      exact ⟨ret_int (by simp), OwnL.nil _ _ _ _ _, rfl, rfl, rfl, Nat.le_refl _, fun _ _ _ => rfl⟩
  · simp only [Value.slice.injEq] at e
    obtain ⟨rfl, e2, rfl⟩ := e
    clear hrest
    have h' : w.ownsRow base 57 2 (.slice (some ⟨g, 0, none⟩) n cap) n (l.flatMap pcG) := by have := h; unfold OwnP OwnL at this; rwa [hl] at this
    have HW0 := Lib.hid h'
    have hgw : g < w.heap.size := (h'.lt g rfl).2
    clear h h' hl e2
    go_enter Tryz.func28, Tryz.ntmps28
    go_wp2
    go_loopw [1, 5] (fun kk i wr => ∃ j : Nat, j ≤ n ∧ i = .int .i64 j ∧ kk = .int .i64 (k + 2 * j) ∧ wr.ownsRow base 57 2 (.slice (some ⟨g, 0, none⟩) n cap) n ((marksP k j).flatMap pcG ++ (l.drop j).flatMap pcG) ∧ w.grownBy wr (some g)) (fun _ i _ => n - (intOf i).toNat)
    case atStart => exact ⟨0, by omega, rfl, by go_num, HW0.out, rfl, rfl, rfl, Nat.le_refl _, fun _ _ _ => rfl⟩
    case round =>
      obtain ⟨j, hj, rfl, rfl, ho, hg⟩ := hrel
      have HO := Lib.hid ho; have HG := Lib.hid hg; clear ho hg
      by_cases hlt : j < n
      · have hlen : ((marksP k j).flatMap pcG ++ (l.drop j).flatMap pcG).length = n * 2 := by rw [List.length_append, encPc.length, encPc.length, marksP_len, List.length_drop, HL.out]; omega
        have HLEN := Lib.hid hlen
        clear hlen
        have hf0 := HO.out.frozenAt (j * 2)
        have hz0 := HO.out.cellAt (j * 2) (by omega)
        rw [List.getElem?_eq_getElem (by have := HLEN.out; omega)] at hz0
        generalize ((marksP k j).flatMap pcG ++ (l.drop j).flatMap pcG)[j * 2]'(by have := HLEN.out; omega) = z at hz0
        have HS1 := Lib.hid (HO.out.stored (j * 2) (.int .i64 (k + 2 * j)))
        go_wp2_with (first
          | (go_at_call 60; refine (markText_any _ _ (by omega)).mono ?_; rintro e w2 ⟨rfl, hb⟩; have hO2 := own_below HS1.out.1 hb; have hf := hO2.frozenAt (j * 2 + 1); have hz := hO2.cellAt (j * 2 + 1) (by omega); rw [List.getElem?_eq_getElem (by have := HLEN.out; rw [List.length_set]; omega)] at hz; generalize (((marksP k j).flatMap pcG ++ (l.drop j).flatMap pcG).set (j * 2) (.int .i64 (k + 2 * j)))[j * 2 + 1]'(by have := HLEN.out; rw [List.length_set]; omega) = z2 at hz; have HO2 := Lib.hid hO2; have HG2 := Lib.hid (grownBy_join (grownBy_then HG.out HS1.out.2) hb); clear hO2 hb))
        go_roundw
        case rel =>
          have HST := HO2.out.stored (j * 2 + 1) (.string (markB (k + 2 * j + 1)))
          refine ⟨j + 1, by omega, by go_num, by go_num, ?_, ?_⟩
          · have := HST.1
            rw [marks_step (by have := HL.out; omega)] at this
            exact this
          · exact ⟨HG2.out.os, HG2.out.tape, HG2.out.output, by simpa using HG2.out.size, fun q hq hne => (HST.2.block q (by have := HG2.out.size; omega) hne).trans (HG2.out.block q hq hne)⟩
        case measure => simp [intOf]; omega
      · obtain rfl : j = n := by omega
        go_wp2
        go_ret
        refine ⟨rfl, ?_, HG.out⟩
        have h1 := HO.out
        rw [List.drop_of_length_le (by have := HL.out; omega)] at h1
        show World.ownsRow _ _ _ _ _ _ _
        rw [marksP_len]
        simpa using h1
theorem heldPieceS_any (x : Option Addr) (n cap : Nat) (k : Int) (B : Nat) (w : World) (h : Pcs w B x n cap (marksP k n)) (hB : B ≤ w.heap.size) (hk : 0 ≤ k) (hk1 : k ≤ 100000000) (hn : n ≤ 10000000) :
    Calls Tryz.prog 33 #[.slice x n cap, .int .i64 k] w (BelowI (k + 2 * n) w) := by
  have HH := Lib.hid h
  have hmx := h.max
  have hle := h.le
  clear h
  unfold maxLen at hmx
  go_enter Tryz.func33, Tryz.ntmps33
  go_wp2
  go_loopw [1, 5] (fun kk i wr => ∃ j : Nat, j ≤ n ∧ i = .int .i64 j ∧ kk = .int .i64 (k + 2 * j) ∧ Below w.heap.size w wr) (fun _ i _ => n - (intOf i).toNat)
  case atStart => exact ⟨0, by omega, rfl, by go_num, Below.refl _ _⟩
  case round =>
    obtain ⟨j, hj, rfl, rfl, hb⟩ := hrel
    have HB := Lib.hid hb; clear hb
    by_cases hlt : j < n
    · obtain ⟨b, off, rfl, hb, hc0, hc1⟩ := (HH.out.below HB.out hB).atP hlt
      rw [marksP_at hlt] at hc0 hc1
      have hbw : b < wr.heap.size := by have := HB.out.size; omega
      go_wp2
      go_region_with (go_at_call 60; refine (markText_any _ _ (by omega)).mono ?_; rintro e w2 ⟨rfl, hb2⟩; have hc2 := cell_drewn hc1 hb2 hbw; have HB2 := Lib.hid (below_drewn HB.out hb2 HB.out.size); clear hb2)
      all_goals
        go_wp2
        go_roundw
        case rel => exact ⟨j + 1, by omega, by go_num, by go_num, HB2.out⟩
        case measure => simp [intOf]; omega
    · obtain rfl : j = n := by omega
      go_wp2
      go_ret
      exact ⟨rfl, HB.out⟩
theorem run_mkPc (n : Nat) (hn : n ≤ 2000000) (w : World) : (Instr.makeSlice 23 (.int .i64 (n : Int)) (.int .i64 (n : Int))).run Tryz.prog w = .ok (.slice (some ⟨w.heap.size, 0, none⟩) n n) (w.alloc (.cells (madeCells #[.int .i64 0, .string ByteArray.empty] (n * 2)) 57)) := run_mk eltPc n hn w
theorem own_mkPc (w : World) (n : Nat) (hn : n ≤ 2000000) {base : Nat} (hb : base ≤ w.heap.size) :
    (w.alloc (.cells (madeCells #[.int .i64 0, .string ByteArray.empty] (n * 2)) 57)).ownsRow base 57 2 (.slice (some ⟨w.heap.size, 0, none⟩) n n) n (madeCells #[.int .i64 0, .string ByteArray.empty] (n * 2)).toList := own_mk eltPc w n hn hb
theorem toPieceS_any (x : Option Addr) (n cap : Nat) (l : List Pc) (w : World) (h : Pcs w w.heap.size x n cap l) (hn : n ≤ 1048576) : Calls Tryz.prog 25 #[.slice x n cap] w (NewP l w) := by
  have HL := Lib.hid h.len
  have HH := Lib.hid h
  have hmx := h.max
  have hle := h.le
  clear h
  unfold maxLen at hmx
  have hmk := run_mkPc n (by omega)
  have HO := Lib.hid (own_mkPc w n (by omega) (Nat.le_refl _))
  go_enter Tryz.func25, Tryz.ntmps25
  go_wp2
  clear hmk
  go_loopw [4] (fun i wr => ∃ (k : Nat) (R : List Value), k ≤ n ∧ i = .int .i64 k ∧ R.length = (n - k) * 2 ∧ wr.ownsRow w.heap.size 57 2 (.slice (some ⟨w.heap.size, 0, none⟩) n n) n ((l.take k).flatMap pcG ++ R) ∧ Below w.heap.size w wr) (fun i _ => n - (intOf i).toNat)
  case atStart =>
    refine ⟨0, _, by omega, rfl, ?_, HO.out, (Below.refl _ _).alloc (Nat.le_refl _) _⟩
    rw [Array.length_toList, size_madeCells]
    simp
  case round =>
    obtain ⟨k, R, hk, rfl, hR, ho, hb⟩ := hrel
    have HB := Lib.hid hb; clear hb
    have HW := Lib.hid ho; clear ho
    have HR := Lib.hid hR; clear hR
    by_cases hlt : k < n
    · obtain ⟨b, off, rfl, hb, hc0, hc1⟩ := (HH.out.below HB.out (Nat.le_refl _)).atP hlt
      obtain ⟨z0, z1, R', rfl⟩ : ∃ z0 z1 R', R = z0 :: z1 :: R' := by
        match R, HR.out with
        | a :: b :: R', _ => exact ⟨a, b, R', rfl⟩
        | [a], h => simp at h; omega
        | [], h => simp at h; omega
      have hA : ((l.take k).flatMap pcG).length = k * 2 := by rw [encPc.length, List.length_take, HL.out]; omega
      have HA := Lib.hid hA
      have HI0 := Lib.hid (show ((l.take k).flatMap pcG ++ z0 :: z1 :: R')[k * 2]? = some z0 by rw [List.getElem?_append_right (by omega), hA]; simp)
      have HI1 := Lib.hid (show ((l.take k).flatMap pcG ++ z0 :: z1 :: R')[k * 2 + 1]? = some z1 by rw [List.getElem?_append_right (by omega), hA]; simp)
      clear hA
      go_wp2_with (first
        | (go_at_call 57; refine (toPiece_any (nthP l k) _).mono ?_; rintro e w2 ⟨rfl, hb2⟩; have hO2 := own_below HW.out hb2; have hf0 := hO2.frozenAt (k * 2); have hf1 := hO2.frozenAt (k * 2 + 1); have hz0 := (hO2.cellAt (k * 2) (by omega)).trans HI0.out; have hz1 := (hO2.cellAt (k * 2 + 1) (by omega)).trans HI1.out; have HO2 := Lib.hid hO2; have HB2 := Lib.hid (HB.out.trans (hb2.mono HB.out.size)); clear hO2 hb2))
      go_roundw
      case rel =>
        have h1 := (HO2.out.stored (k * 2) (.int .i64 (nthP l k).1)).1
        have h2 := (h1.stored (k * 2 + 1) (.string (nthP l k).2)).1
        rw [set2 _ _ HA.out (by simp)] at h2
        refine ⟨k + 1, R', by omega, by go_num, ?_, ?_, (HB2.out.setCell (p := ⟨w.heap.size, k * 2, none⟩) (Nat.le_refl _) _).setCell (p := ⟨w.heap.size, k * 2 + 1, none⟩) (Nat.le_refl _) _⟩
        · have := HR.out; simp at this; omega
        · rw [take_snocP (by have := HL.out; omega), List.flatMap_append, List.flatMap_singleton]
          exact h2
      case measure => simp [intOf]; omega
    · obtain rfl : k = n := by omega
      go_wp2
      go_ret
      refine ⟨_, rfl, ?_, HB.out⟩
      have h1 := HW.out
      have h0 := HR.out
      rw [Nat.sub_self, Nat.zero_mul] at h0
      rw [List.eq_nil_of_length_eq_zero h0, List.append_nil, List.take_of_length_le (by have := HL.out; omega)] at h1
      show World.ownsRow _ _ _ _ _ _ _
      rw [HL.out]
      exact h1
end Go.Proofs.YtglajbmopiolhaaGreatDoor
/-
  A slice of pieces that came in.
-/
namespace Go.Proofs.YtglajbmopiolhaaGreatDoor
open Go.RowKit Go.ChangeShapes Go.WideShapes Go.ChangeAt
set_option linter.unusedVariables false
def ArgP (w : World) (a : Option Addr) (len cap : Nat) (l : List Pc) : Prop := Pcs w w.heap.size a len cap l ∧ ∀ k, (nthP l k).2.size ≤ maxLen
theorem pcG_nth {f : Nat → Pc} {n j : Nat} {u : Value} (h : (((List.range n).map f).flatMap pcG)[j]? = some u) : j / 2 < n ∧ (pcG (f (j / 2)))[j % 2]? = some u := by
  have hl := (List.getElem?_eq_some_iff.1 h).1
  rw [encPc.length, List.length_map, List.length_range] at hl
  have hj : j = j / 2 * 2 + j % 2 := by omega
  have hlt : j / 2 < n := by omega
  rw [hj, encPc.get _ _ _ (0, ByteArray.empty) (by simpa using hlt) (by omega)] at h
  refine ⟨hlt, ?_⟩
  rw [List.getD_eq_getElem?_getD, List.getElem?_map, List.getElem?_range hlt] at h
  exact h
theorem argP_of {H : Type} {enc : TypeId × Value → H} {W : World} {a : Option Addr} {len cap : Nat} {d : DataW H} {p : List MemPlace} (h : DataW.Trod enc Tryz.prog W 0 (fun _ => true) true 43 (.slice a len cap) d p) : ∃ l, ArgP W a len cap l := by
  obtain ⟨fuel, hf⟩ := h
  rcases Deep.open_slice_pairs Tryz.underlying43 Tryz.underlying75 (by kernel_rfl) rfl rfl (by kernel_rfl) (by kernel_rfl) hf with ⟨hcs, _⟩ | ⟨x, l, c, m, n, V0, V1, D0, D1, P0, P1, hcs, _, hl, hm, hmm, _, hc⟩
  · simp [Value.cells] at hcs
    obtain ⟨rfl, rfl, rfl⟩ := hcs
    exact ⟨[], ⟨rfl, Nat.le_refl _, by unfold maxLen; omega, Rds.nil _ _ _⟩, fun k => by simp [nthP]⟩
  · simp [Value.cells] at hcs
    obtain ⟨rfl, rfl, rfl⟩ := hcs
    simp at hmm
    subst hmm
    have each : ∀ i, i < m → ∃ q : Pc, V0 i = .int .i64 q.1 ∧ V1 i = .string q.2 ∧ q.2.size ≤ maxLen := fun i hi => by
      obtain ⟨_, _, h0, h1⟩ := hc i hi
      obtain ⟨z, e0, _⟩ := DataW.trod_int Tryz.underlying3 h0
      obtain ⟨s, e1, _, hs⟩ := DataW.trod_string Tryz.underlying9 h1
      simp only [List.cons.injEq, and_true] at e0 e1
      exact ⟨(z, s), e0, e1, hs⟩
    obtain ⟨f, hf'⟩ : ∃ f : Nat → Pc, ∀ i, i < m → V0 i = .int .i64 (f i).1 ∧ V1 i = .string (f i).2 ∧ (f i).2.size ≤ maxLen :=
      ⟨fun i => if hi : i < m then Classical.choose (each i hi) else (0, ByteArray.empty), fun i hi => by simp only [dif_pos hi]; exact Classical.choose_spec (each i hi)⟩
    refine ⟨(List.range len).map f, ⟨by simp, hl, hm, fun j u hu => ?_⟩, fun k => ?_⟩
    · obtain ⟨hj, hu'⟩ := pcG_nth hu
      obtain ⟨c0, c1, _, _⟩ := hc (j / 2) (by omega)
      obtain ⟨v0, v1, _⟩ := hf' (j / 2) (by omega)
      obtain ⟨z0, _, _, _⟩ := hc 0 (by omega)
      rw [Nat.zero_mul] at z0
      rw [v0] at c0
      rw [v1] at c1
      have hm2 : j % 2 = 0 ∨ j % 2 = 1 := by omega
      rcases hm2 with e | e
      · rw [e] at hu'
        simp only [pcG, List.getElem?_cons_zero, Option.some.injEq] at hu'
        subst hu'
        obtain ⟨b, off, rfl, h1, h2⟩ := nodes_bd c0 z0
        exact ⟨b, off, rfl, h1, (show off + j / 2 * 2 = off + j by omega) ▸ h2⟩
      · rw [e] at hu'
        simp only [pcG, List.getElem?_cons_succ, List.getElem?_cons_zero, Option.some.injEq] at hu'
        subst hu'
        obtain ⟨b, off, rfl, h1, h2⟩ := nodes_bd c1 z0
        exact ⟨b, off, rfl, h1, (show off + (j / 2 * 2 + 1) = off + j by omega) ▸ h2⟩
    · unfold nthP
      rw [List.getD_eq_getElem?_getD]
      cases hk : ((List.range len).map f)[k]? with
      | none => simp
      | some t =>
        obtain ⟨i, hi, rfl⟩ := List.mem_map.1 (List.mem_of_getElem? hk)
        have := List.mem_range.1 hi
        exact (hf' i (by omega)).2.2
/-! ### for the exact laws -/
theorem leftP_no {l : List Pc} {left : Int} (h : ¬ (l.length + sumP l : Int) ≤ left) : leftP l left = -1 := by unfold leftP; rw [if_neg h]
theorem leftP_yes {l : List Pc} {left : Int} (h : (l.length + sumP l : Int) ≤ left) : 0 ≤ leftP l left ∧ leftP l left ≤ left ∧ (l.length : Int) ≤ left := by unfold leftP; rw [if_pos h]; omega
theorem OwnL.keptLt {α : Type} {g : α → List Value} {e : TypeId} {size : Nat} {w w' : World} {base : Nat} {v : Value} {l : List α} {r : Option Nat} (h : OwnL g e size w base v l) (hg : w.grownBy w' r) (hr : ∀ k, r = some k → k < base) : OwnL g e size w' base v l :=
  World.ownsRow.kept h hg (by
    cases hv : v.ownBlock with
    | none => exact .inl rfl
    | some k => exact .inr fun e => by have h1 := own_at h hv; have h2 := hr k e.symm; omega)
theorem OwnL.ltSize {α : Type} {g : α → List Value} {e : TypeId} {size : Nat} {w : World} {base : Nat} {v : Value} {l : List α} (h : OwnL g e size w base v l) {k : Nat} (hk : v.ownBlock = some k) : k < w.heap.size := (World.ownsRow.lt h k hk).2
end Go.Proofs.YtglajbmopiolhaaGreatDoor
