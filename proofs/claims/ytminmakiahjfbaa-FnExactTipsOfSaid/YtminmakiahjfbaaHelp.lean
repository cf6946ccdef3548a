/-
  Contracts of the laws' helpers on lists of numbers.
-/
import Derived.Test.YtminmakiahjfbaaMem
import Derived.Test.YtminmakiahjfbaaWords
import Derived.Laws.BytesArg
import Derived.Deep.RegionWith
import Derived.WalkSpells
namespace Go.Proofs.Ytminmakiahjfbaa
open Go.RowKit
set_option linter.unusedVariables false
/-- A new row of numbers is handed back. -/
def NewI (l : List Int) (w : World) (e : Ending) (w' : World) : Prop := ∃ v, e = .returned v ∧ OwnI w' w.heap.size v l ∧ Below w.heap.size w w'
theorem OwnI.keptLt {w w' : World} {base : Nat} {v : Value} {l : List Int} {r : Option Nat} (h : OwnI w base v l) (hg : w.grownBy w' r) (hr : ∀ k, r = some k → k < base) : OwnI w' base v l :=
  World.ownsRow.kept h hg (by
    cases hv : v.ownBlock with
    | none => exact .inl rfl
    | some k => exact .inr fun e => by have h1 := own_at h hv; have h2 := hr k e.symm; omega)
theorem OwnI.ltSize {w : World} {base : Nat} {v : Value} {l : List Int} (h : OwnI w base v l) {k : Nat} (hk : v.ownBlock = some k) : k < w.heap.size := (World.ownsRow.lt h k hk).2
/-- A bool is handed back; nothing but draws. -/
def QuietB (b : Bool) (w : World) (e : Ending) (w' : World) : Prop := e = .returned (.bool b) ∧ ∃ m, w' = w.drewN m
theorem QuietB.below {b : Bool} {w w' : World} {e : Ending} (h : QuietB b w e w') : Below w.heap.size w w' := by obtain ⟨_, m, rfl⟩ := h; exact below_drewN (Below.refl _ _) m
theorem take_eq_step {l l' : List Int} {k : Nat} (h : k < l.length) (h' : k < l'.length) (he : l.take k = l'.take k) (hx : nthI l k = nthI l' k) : l.take (k + 1) = l'.take (k + 1) := by
  rw [List.take_succ_eq_append_getElem h, List.take_succ_eq_append_getElem h', he, ← nthI_get h, ← nthI_get h', hx]
theorem ne_at {l l' : List Int} {k : Nat} (hx : nthI l k ≠ nthI l' k) : l ≠ l' := fun h => hx (by rw [h])
theorem eqIntS_any (x y : Option Addr) (n m c d : Nat) (l l' : List Int) (B : Nat) (w : World) (h : Ints w B x n c l) (h' : Ints w B y m d l') : Calls Try.prog 39 #[.slice x n c, .slice y m d] w (QuietB (decide (l = l')) w) := by
  have HL := Lib.hid h.len
  have HL' := Lib.hid h'.len
  have hmx := h.max
  have hle := h.le
  have hmx' := h'.max
  have hle' := h'.le
  unfold maxLen at hmx hmx'
  by_cases hnm : n = m
  · subst hnm
    go_enter Try.func39, Try.ntmps39
    go_wp2
    go_loopw [5] (fun i wr => ∃ k : Nat, k ≤ n ∧ i = .int .i64 k ∧ l.take k = l'.take k ∧ ∃ q, wr = w.drewN q) (fun i _ => n - (intOf i).toNat)
    case atStart => exact ⟨0, by omega, rfl, rfl, 0, rfl⟩
    case round =>
      obtain ⟨k, hk, rfl, he, q, rfl⟩ := hrel
      have HE := Lib.hid he; clear he
      by_cases hlt : k < n
      · obtain ⟨b, off, rfl, hb, hcell⟩ := h.at hlt
        obtain ⟨b', off', rfl, hb', hcell'⟩ := h'.at hlt
        by_cases hx : nthI l k = nthI l' k
        · have HX := Lib.hid hx
          have hd : (decide (nthI l k = nthI l' k)) = true := by simpa using hx
          go_wp2
          go_quiet (fail)
          go_wp2
          go_roundw
          case rel => exact ⟨k + 1, by omega, by go_num, take_eq_step (by have := HL.out; omega) (by have := HL'.out; omega) HE.out HX.out, _, by first | rfl | rw [World.drewN_drewN]⟩
          case measure => simp [intOf]; omega
        · have HX := Lib.hid (ne_at hx)
          go_wp2
          go_quiet (fail)
          go_wp2
          go_ret
          exact ⟨ret_bool (by simpa using HX.out), _, by first | rfl | rw [World.drewN_drewN]⟩
      · go_wp2
        go_ret
        have h1 := HE.out
        rw [List.take_of_length_le (by have := HL.out; omega), List.take_of_length_le (by have := HL'.out; omega)] at h1
        exact ⟨ret_bool (by simpa using h1), _, rfl⟩
  · have HX := Lib.hid (show l ≠ l' from fun e => hnm (by rw [← HL.out, ← HL'.out, e]))
    go_enter Try.func39, Try.ntmps39
    go_wp2
    go_ret
    exact ⟨ret_bool (by simpa using HX.out), 0, rfl⟩
end Go.Proofs.Ytminmakiahjfbaa
/-
  Contracts of the laws' helpers: marks in results, comparisons, copies.
-/
namespace Go.Proofs.Ytminmakiahjfbaa
open Go.RowKit
set_option linter.unusedVariables false
/-- A number is handed back; nothing that was there has turned. -/
def BelowI (n : Int) (w : World) (e : Ending) (w' : World) : Prop := e = .returned (.int .i64 n) ∧ Below w.heap.size w w'
/-- A bool is handed back; nothing that was there has turned. -/
def BelowB (b : Bool) (w : World) (e : Ending) (w' : World) : Prop := e = .returned (.bool b) ∧ Below w.heap.size w w'
/-! ### numbers -/
def marksI (k : Int) (n : Nat) : List Int := (List.range n).map fun i : Nat => k + (i : Int)
theorem marksI_len (k : Int) (n : Nat) : (marksI k n).length = n := by unfold marksI; simp
theorem marksI_at {k : Int} {n i : Nat} (h : i < n) : nthI (marksI k n) i = k + i := by unfold nthI marksI; rw [List.getD_eq_getElem?_getD, List.getElem?_map, List.getElem?_range h]; rfl
theorem fill_step {α : Type} (f : Nat → α) (l : List α) (i : Nat) (h : i < l.length) : (((List.range i).map f) ++ l.drop i).set i (f i) = ((List.range (i + 1)).map f) ++ l.drop (i + 1) := by
  rw [List.set_append, if_neg (by simp), List.length_map, List.length_range, Nat.sub_self, List.drop_eq_getElem_cons h, List.set_cons_zero, List.range_succ, List.map_append, List.append_assoc]
  rfl
theorem markIntS_any (x : Option Addr) (n cap : Nat) (l : List Int) (base : Nat) (k : Int) (w : World) (h : OwnI w base (.slice x n cap) l) (hl : l.length = n) (hk : 0 ≤ k) (hk1 : k ≤ 1000000) (hn : n ≤ 2000000) :
    Calls Try.prog 40 #[.slice x n cap, .int .i64 k] w fun e w' => e = .returned (.int .i64 (k + n)) ∧ OwnI w' base (.slice x n cap) (marksI k n) ∧ w.grownBy w' (Value.slice x n cap).ownBlock := by
  have HL := Lib.hid hl
  have hmx : cap ≤ maxLen ∧ n ≤ cap := by obtain ⟨x', c', e, h1, h2, _⟩ := own_reads h; simp only [Value.slice.injEq] at e; obtain ⟨rfl, rfl, rfl⟩ := e; omega
  obtain ⟨hmx, hle⟩ := hmx
  unfold maxLen at hmx
  rcases h.2 with ⟨e, _⟩ | ⟨g, cap', cur, e, hrest⟩
  · simp only [Value.slice.injEq] at e
    obtain ⟨rfl, rfl, rfl⟩ := e
    have HF := Lib.hid h
    clear h hl
    go_enter Try.func40, Try.ntmps40
    go_wp2
    go_loopw [1, 5] (fun kk i wr => i = .int .i64 0 ∧ kk = .int .i64 k ∧ wr = w) (fun _ i _ => (intOf i).toNat)
    case atStart => exact ⟨rfl, rfl, rfl⟩
    case round =>
      obtain ⟨rfl, rfl, rfl⟩ := hrel
      go_wp2
      go_ret
      exact ⟨ret_int (by simp), OwnI.nil _ _, rfl, rfl, rfl, Nat.le_refl _, fun _ _ _ => rfl⟩
  · simp only [Value.slice.injEq] at e
    obtain ⟨rfl, e2, rfl⟩ := e
    clear hrest
    have h' : w.ownsRow base 3 1 (.slice (some ⟨g, 0, none⟩) n cap) n (l.map (Value.int .i64)) := by have := h; unfold OwnI at this; rwa [hl] at this
    have HW0 := Lib.hid h'
    have hgw : g < w.heap.size := (h'.lt g rfl).2
    clear h h' hl e2
    go_enter Try.func40, Try.ntmps40
    go_wp2
    go_loopw [1, 5] (fun kk i wr => ∃ j : Nat, j ≤ n ∧ i = .int .i64 j ∧ kk = .int .i64 (k + j) ∧ wr.ownsRow base 3 1 (.slice (some ⟨g, 0, none⟩) n cap) n (((List.range j).map (fun i : Nat => Value.int .i64 (k + i))) ++ (l.map (Value.int .i64)).drop j) ∧ w.grownBy wr (some g)) (fun _ i _ => n - (intOf i).toNat)
    case atStart => exact ⟨0, by omega, rfl, by go_num, by simpa using HW0.out, rfl, rfl, rfl, Nat.le_refl _, fun _ _ _ => rfl⟩
    case round =>
      obtain ⟨j, hj, rfl, rfl, ho, hg⟩ := hrel
      have HO := Lib.hid ho; have HG := Lib.hid hg; clear ho hg
      by_cases hlt : j < n
      · have hf := HO.out.frozenAt j
        have hz := HO.out.cellAt j (by omega)
        have hlen : (((List.range j).map (fun i : Nat => Value.int .i64 (k + i))) ++ (l.map (Value.int .i64)).drop j).length = n := by have := HL.out; simp; omega
        rw [List.getElem?_eq_getElem (by omega)] at hz
        generalize (((List.range j).map (fun i : Nat => Value.int .i64 (k + i))) ++ (l.map (Value.int .i64)).drop j)[j]'(by omega) = z at hz
        clear hlen
        have HST := Lib.hid (HO.out.stored j (.int .i64 (k + j)))
        go_wp2
        go_roundw
        case rel =>
          refine ⟨j + 1, by omega, by go_num, by go_num, ?_, ?_⟩
          · have := HST.out.1
            rw [fill_step (fun i : Nat => Value.int .i64 (k + i)) _ j (by have := HL.out; simp; omega)] at this
            exact this
          · exact ⟨HG.out.os, HG.out.tape, HG.out.output, by simpa using HG.out.size, fun q hq hne => (HST.out.2.block q (by have := HG.out.size; omega) hne).trans (HG.out.block q hq hne)⟩
        case measure => simp [intOf]; omega
      · obtain rfl : j = n := by omega
        go_wp2
        go_ret
        refine ⟨rfl, ?_, HG.out⟩
        have h1 := HO.out
        rw [List.drop_of_length_le (by have := HL.out; simp; omega), List.append_nil] at h1
        unfold OwnI
        rw [marksI_len]
        unfold marksI
        rw [List.map_map]
        exact h1
theorem heldIntS_any (x : Option Addr) (n cap : Nat) (k : Int) (B : Nat) (w : World) (h : Ints w B x n cap (marksI k n)) (hk : 0 ≤ k) (hk1 : k ≤ 1000000) (hn : n ≤ 1000000) :
    Calls Try.prog 41 #[.slice x n cap, .int .i64 k] w fun e w' => e = .returned (.int .i64 (k + n)) ∧ w = w' := by
  have HH := Lib.hid h
  have hmx := h.max
  have hle := h.le
  clear h
  unfold maxLen at hmx
  go_enter Try.func41, Try.ntmps41
  go_wp2
  go_loopw [1, 5] (fun kk i wr => ∃ j : Nat, j ≤ n ∧ i = .int .i64 j ∧ kk = .int .i64 (k + j) ∧ wr = w) (fun _ i _ => n - (intOf i).toNat)
  case atStart => exact ⟨0, by omega, rfl, by go_num, rfl⟩
  case round =>
    obtain ⟨j, hj, rfl, rfl, rfl⟩ := hrel
    by_cases hlt : j < n
    · obtain ⟨b, off, rfl, hb, hcell⟩ := HH.out.at hlt
      rw [marksI_at hlt] at hcell
      go_wp2
      go_roundw
      case rel => exact ⟨j + 1, by omega, by go_num, by go_num, by first | rfl | trivial⟩
      case measure => simp [intOf]; omega
    · obtain rfl : j = n := by omega
      go_wp2
      go_ret
      exact ⟨rfl, rfl⟩
theorem sameInts_any (x y : Option Addr) (n m c d : Nat) (l l' : List Int) (B : Nat) (w : World) (h : Ints w B x n c l) (h' : Ints w B y m d l') : Calls Try.prog 22 #[.slice x n c, .slice y m d] w (QuietB (decide (l = l')) w) := by
  have HL := Lib.hid h.len
  have HL' := Lib.hid h'.len
  have hmx := h.max
  have hle := h.le
  have hmx' := h'.max
  have hle' := h'.le
  unfold maxLen at hmx hmx'
  by_cases hnm : n = m
  · subst hnm
    go_enter Try.func22, Try.ntmps22
    go_wp2
    go_loopw [5] (fun i wr => ∃ k : Nat, k ≤ n ∧ i = .int .i64 k ∧ l.take k = l'.take k ∧ ∃ q, wr = w.drewN q) (fun i _ => n - (intOf i).toNat)
    case atStart => exact ⟨0, by omega, rfl, rfl, 0, rfl⟩
    case round =>
      obtain ⟨k, hk, rfl, he, q, rfl⟩ := hrel
      have HE := Lib.hid he; clear he
      by_cases hlt : k < n
      · obtain ⟨b, off, rfl, hb, hcell⟩ := h.at hlt
        obtain ⟨b', off', rfl, hb', hcell'⟩ := h'.at hlt
        by_cases hx : nthI l k = nthI l' k
        · have HX := Lib.hid hx
          have hd : (decide (nthI l k = nthI l' k)) = true := by simpa using hx
          go_wp2
          go_quiet (fail)
          go_wp2
          go_roundw
          case rel => exact ⟨k + 1, by omega, by go_num, take_eq_step (by have := HL.out; omega) (by have := HL'.out; omega) HE.out HX.out, _, by first | rfl | rw [World.drewN_drewN]⟩
          case measure => simp [intOf]; omega
        · have HX := Lib.hid (ne_at hx)
          go_wp2
          go_quiet (fail)
          go_wp2
          go_ret
          exact ⟨ret_bool (by simpa using HX.out), _, by first | rfl | rw [World.drewN_drewN]⟩
      · go_wp2
        go_ret
        have h1 := HE.out
        rw [List.take_of_length_le (by have := HL.out; omega), List.take_of_length_le (by have := HL'.out; omega)] at h1
        exact ⟨ret_bool (by simpa using h1), _, rfl⟩
  · have HX := Lib.hid (show l ≠ l' from fun e => hnm (by rw [← HL.out, ← HL'.out, e]))
    go_enter Try.func22, Try.ntmps22
    go_wp2
    go_ret
    exact ⟨ret_bool (by simpa using HX.out), 0, rfl⟩
/-! ### texts -/
end Go.Proofs.Ytminmakiahjfbaa
/-
  Contracts of the laws' helpers: marks in texts; how much lists of texts hold.
-/
namespace Go.Proofs.Ytminmakiahjfbaa
open Go.RowKit
set_option linter.unusedVariables false
def oneB (z : Int) : ByteArray := ⟨#[UInt8.ofNat z.toNat]⟩
theorem oneB_size (z : Int) : (oneB z).size = 1 := rfl
/-- 'string([]byte{z})'. -/
theorem run_oneB (w : World) (z : Int) : (convert 22 9 (.slice (some ⟨w.heap.size, 0, none⟩) 1 1)).run Try.prog (w.alloc (.cells #[.int .u8 z] 5)) = .ok (.string (oneB z)) (w.alloc (.cells #[.int .u8 z] 5)) := by
  have := run_convert_bytes_arg (P := Try.prog) (w.alloc (.cells #[.int .u8 z] 5)) 22 5 Try.underlying22 Try.underlying5 w.heap.size 0 1 1 [z] rfl (fun i hi => by
    obtain rfl : i = 0 := by omega
    have e := heap_alloc_new w (Obj.cells #[.int .u8 z] 5)
    unfold World.cell?
    rw [e]
    simp) 9 Try.underlying9
  rw [this]
  rfl
def markGo : Nat → Nat → ByteArray → ByteArray
  | 0, _, t => t
  | f + 1, k, t => if 0 < k then markGo f (k / 10) (oneB (48 + ((k % 10 : Nat) : Int)) ++ t) else t
/-- The text of a mark. -/
def markB (k : Int) : ByteArray := if k ≤ 0 then ⟨#[109, 48]⟩ else ⟨#[109]⟩ ++ markGo 20 k.toNat ByteArray.empty
theorem markB_no {k : Int} (h : k ≤ 0) : markB k = ⟨#[109, 48]⟩ := by unfold markB; rw [if_pos h]
/-- k is left, t is done. -/
def MarkRel (n : Int) (k : Nat) (t : ByteArray) : Prop := ∃ f, markB n = ⟨#[109]⟩ ++ markGo (f + 1) k t ∧ k < 10 ^ f ∧ t.size + f = 19
theorem markRel_start {n : Int} (h : ¬ n ≤ 0) (h' : n ≤ 1000000000) : MarkRel n n.toNat ByteArray.empty := ⟨19, by unfold markB; rw [if_neg h], by omega, rfl⟩
theorem markRel_step {n : Int} {k : Nat} {t : ByteArray} (h : MarkRel n k t) (hk : 0 < k) : MarkRel n (k / 10) (oneB (48 + ((k % 10 : Nat) : Int)) ++ t) := by
  obtain ⟨f, h1, h2, h3⟩ := h
  cases f with
  | zero => omega
  | succ f =>
    refine ⟨f, ?_, ?_, ?_⟩
    · rw [h1, markGo, if_pos hk]
    · rw [Nat.pow_succ] at h2; omega
    · rw [ByteArray.size_append, oneB_size]; omega
theorem markRel_end {n : Int} {t : ByteArray} (h : MarkRel n 0 t) : markB n = ⟨#[109]⟩ ++ t := by
  obtain ⟨f, h1, _⟩ := h
  rw [h1, markGo, if_neg (by omega)]
theorem markRel_size {n : Int} {k : Nat} {t : ByteArray} (h : MarkRel n k t) : t.size ≤ 19 := by obtain ⟨f, _, _, h3⟩ := h; omega
theorem markText_any (n : Int) (w : World) (hn : n ≤ 1000000000) : Calls Try.prog 56 #[.int .i64 n] w fun e w' => e = .returned (.string (markB n)) ∧ Below w.heap.size w w' := by
  by_cases h0 : n ≤ 0
  · have HF := Lib.hid (markB_no h0)
    go_enter Try.func56, Try.ntmps56
    go_wp2
    go_ret
    exact ⟨ret_str HF.out.symm, Below.refl _ _⟩
  · have HS := Lib.hid (markRel_start h0 hn)
    obtain ⟨k, rfl⟩ : ∃ k : Nat, n = k := ⟨n.toNat, by omega⟩
    have hcv := run_oneB
    go_enter Try.func56, Try.ntmps56
    go_wp2
    go_loopw [0, 3] (fun n' t wr => ∃ (m : Nat) (s : ByteArray), m ≤ 1000000000 ∧ n' = .int .i64 m ∧ t = .string s ∧ MarkRel k m s ∧ Below w.heap.size w wr) (fun n' _ _ => (intOf n').toNat)
    case atStart => exact ⟨k, _, by omega, rfl, rfl, HS.out, Below.refl _ _⟩
    case round =>
      obtain ⟨m, s, hm, rfl, rfl, hr, hb⟩ := hrel
      have HR := Lib.hid hr; have HB := Lib.hid hb; clear hr hb
      have hsz := markRel_size HR.out
      by_cases hlt : 0 < m
      · have HE := Lib.hid (markRel_step HR.out hlt)
        have hone := oneB_size
        go_wp2
        go_roundw
        case rel => exact ⟨m / 10, _, by omega, by go_num, rfl, HE.out, HB.out.alloc (by have := HB.out.size; omega) _⟩
        case measure => simp [intOf]; omega
      · obtain rfl : m = 0 := by omega
        have HE := Lib.hid (markRel_end HR.out)
        go_wp2
        go_ret
        exact ⟨ret_str HE.out.symm, HB.out⟩
theorem own_below {w w' : World} {base : Nat} {e : TypeId} {size n : Nat} {v : Value} {xs : List Value} (h : w.ownsRow base e size v n xs) (hb : Below w.heap.size w w') : w'.ownsRow base e size v n xs :=
  World.ownsRow.kept (row := none) h ⟨hb.os, hb.tape, hb.output, hb.size, fun k hk _ => hb.block k hk⟩ (by cases hv : v.ownBlock <;> simp)
theorem grownBy_join {a b c : World} {r : Option Nat} (h : a.grownBy b r) (hb : Below b.heap.size b c) : a.grownBy c r :=
  ⟨hb.os.trans h.os, hb.tape.trans h.tape, hb.output.trans h.output, Nat.le_trans h.size hb.size, fun k hk hne => (hb.block k (Nat.lt_of_lt_of_le hk h.size)).trans (h.block k hk hne)⟩
theorem below_drewn {B : Nat} {a w w2 : World} (h : Below B a w) (hb : Below w.drew.heap.size w.drew w2) (hB : B ≤ w.heap.size) : Below B a w2 :=
  ⟨hb.os.trans h.os, hb.tape.trans h.tape, hb.output.trans h.output, Nat.le_trans h.size hb.size, fun k hk => (hb.block k (Nat.lt_of_lt_of_le hk hB)).trans (h.block k hk)⟩
theorem cell_drewn {w w2 : World} {b o : Nat} {v : Value} (hc : w.cell? ⟨b, o, none⟩ = some v) (hb : Below w.drew.heap.size w.drew w2) (hlt : b < w.heap.size) : w2.cell? ⟨b, o, none⟩ = some v :=
  (World.cell?_of_block (w := w) (w' := w2) (a := ⟨b, o, none⟩) (hb.block b hlt)).trans hc
/-! ### how much a list holds -/
end Go.Proofs.Ytminmakiahjfbaa
