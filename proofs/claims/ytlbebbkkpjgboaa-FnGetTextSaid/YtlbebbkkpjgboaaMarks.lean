/-
  Contracts of the laws' helpers: marks in results, comparisons, copies.
-/
import Derived.Test.YtlbebbkkpjgboaaLst
import Derived.Test.YtlbebbkkpjgboaaHelp
import Derived.Laws.BytesArg
import Derived.Deep.RegionWith
namespace Go.Proofs.Ytlbebbkkpjgboaa
open Go.RowKit
set_option linter.unusedVariables false
/-- A number is handed back; nothing but draws. -/
def QuietI (n : Int) (w : World) (e : Ending) (w' : World) : Prop := e = .returned (.int .i64 n) ∧ ∃ m, w' = w.drewN m
/-- A number is handed back; nothing that was there has turned. -/
def BelowI (n : Int) (w : World) (e : Ending) (w' : World) : Prop := e = .returned (.int .i64 n) ∧ Below w.heap.size w w'
/-- A bool is handed back; nothing that was there has turned. -/
def BelowB (b : Bool) (w : World) (e : Ending) (w' : World) : Prop := e = .returned (.bool b) ∧ Below w.heap.size w w'
/-! ### numbers -/
def marksI (k : Int) (n : Nat) : List Int := (List.range n).map fun i : Nat => k + (i : Int)
theorem marksI_len (k : Int) (n : Nat) : (marksI k n).length = n := by unfold marksI; simp
theorem marksI_at {k : Int} {n i : Nat} (h : i < n) : nthI (marksI k n) i = k + i := by unfold nthI marksI; rw [List.getD_eq_getElem?_getD, List.getElem?_map, List.getElem?_range h]; rfl
theorem fill_step {α : Type} (f : Nat → α) (l : List α) (i : Nat) (h : i < l.length) : (((List.range i).map f) ++ l.drop i).set i (f i) = ((List.range (i + 1)).map f) ++ l.drop (i + 1) := by
  rw [List.set_append, if_neg (by simp), List.length_map, List.length_range, Nat.sub_self, List.drop_eq_getElem_cons h, List.set_cons_zero, List.range_succ, List.map_append, List.append_assoc]
  rfl
theorem own_size {w : World} {base : Nat} {e : TypeId} {size n : Nat} {v : Value} {xs : List Value} (h : w.ownsRow base e size v n xs) : base ≤ w.heap.size ∨ v = .slice none 0 0 := by
  rcases h.2 with ⟨rfl, _⟩ | ⟨g, cap, cur, rfl, hb, hg, _⟩
  · exact .inr rfl
  · have := (Array.getElem?_eq_some_iff.1 hg).1; exact .inl (by omega)
theorem markIntS_any (x : Option Addr) (n cap : Nat) (l : List Int) (base : Nat) (k : Int) (w : World) (h : OwnI w base (.slice x n cap) l) (hl : l.length = n) (hk : 0 ≤ k) (hk1 : k ≤ 1000000) (hn : n ≤ 2000000) :
    Calls Try.prog 27 #[.slice x n cap, .int .i64 k] w fun e w' => e = .returned (.int .i64 (k + n)) ∧ OwnI w' base (.slice x n cap) (marksI k n) ∧ w.grownBy w' (Value.slice x n cap).ownBlock := by
  have HL := Lib.hid hl
  have hmx : cap ≤ maxLen ∧ n ≤ cap := by obtain ⟨x', c', e, h1, h2, _⟩ := own_reads h; simp only [Value.slice.injEq] at e; obtain ⟨rfl, rfl, rfl⟩ := e; omega
  obtain ⟨hmx, hle⟩ := hmx
  unfold maxLen at hmx
  rcases h.2 with ⟨e, _⟩ | ⟨g, cap', cur, e, hrest⟩
  · simp only [Value.slice.injEq] at e
    obtain ⟨rfl, rfl, rfl⟩ := e
    have HF := Lib.hid h
    clear h hl
    go_enter Try.func27, Try.ntmps27
    go_wp2
    go_loopw [1, 5] (fun kk i wr => i = .int .i64 0 ∧ kk = .int .i64 k ∧ wr = w) (fun _ i _ => (intOf i).toNat)
    case atStart => exact ⟨rfl, rfl, rfl⟩
    case round =>
      obtain ⟨rfl, rfl, rfl⟩ := hrel
      go_wp2
      go_ret
      exact ⟨ret_int (by simp), OwnI.nil _ _, rfl, rfl, rfl, Nat.le_refl _, fun _ _ _ => rfl⟩
  · simp only [Value.slice.injEq] at e
    obtain ⟨rfl, e2, rfl⟩ := e
    clear hrest
    have h' : w.ownsRow base 3 1 (.slice (some ⟨g, 0, none⟩) n cap) n (l.map (Value.int .i64)) := by have := h; unfold OwnI at this; rwa [hl] at this
    have HW0 := Lib.hid h'
    have hgw : g < w.heap.size := (h'.lt g rfl).2
    clear h h' hl e2
    go_enter Try.func27, Try.ntmps27
    go_wp2
    go_loopw [1, 5] (fun kk i wr => ∃ j : Nat, j ≤ n ∧ i = .int .i64 j ∧ kk = .int .i64 (k + j) ∧ wr.ownsRow base 3 1 (.slice (some ⟨g, 0, none⟩) n cap) n (((List.range j).map (fun i : Nat => Value.int .i64 (k + i))) ++ (l.map (Value.int .i64)).drop j) ∧ w.grownBy wr (some g)) (fun _ i _ => n - (intOf i).toNat)
    case atStart => exact ⟨0, by omega, rfl, by go_num, by simpa using HW0.out, rfl, rfl, rfl, Nat.le_refl _, fun _ _ _ => rfl⟩
    case round =>
      obtain ⟨j, hj, rfl, rfl, ho, hg⟩ := hrel
      have HO := Lib.hid ho; have HG := Lib.hid hg; clear ho hg
      by_cases hlt : j < n
      · have hf := HO.out.frozenAt j
        have hz := HO.out.cellAt j (by omega)
        have hlen : (((List.range j).map (fun i : Nat => Value.int .i64 (k + i))) ++ (l.map (Value.int .i64)).drop j).length = n := by have := HL.out; simp; omega
        rw [List.getElem?_eq_getElem (by omega)] at hz
        generalize (((List.range j).map (fun i : Nat => Value.int .i64 (k + i))) ++ (l.map (Value.int .i64)).drop j)[j]'(by omega) = z at hz
        clear hlen
        have HST := Lib.hid (HO.out.stored j (.int .i64 (k + j)))
        go_wp2
        go_roundw
        case rel =>
          refine ⟨j + 1, by omega, by go_num, by go_num, ?_, ?_⟩
          · have := HST.out.1
            rw [fill_step (fun i : Nat => Value.int .i64 (k + i)) _ j (by have := HL.out; simp; omega)] at this
            exact this
          · exact ⟨HG.out.os, HG.out.tape, HG.out.output, by simpa using HG.out.size, fun q hq hne => (HST.out.2.block q (by have := HG.out.size; omega) hne).trans (HG.out.block q hq hne)⟩
        case measure => simp [intOf]; omega
      · obtain rfl : j = n := by omega
        go_wp2
        go_ret
        refine ⟨rfl, ?_, HG.out⟩
        have h1 := HO.out
        rw [List.drop_of_length_le (by have := HL.out; simp; omega), List.append_nil] at h1
        unfold OwnI
        rw [marksI_len]
        unfold marksI
        rw [List.map_map]
        exact h1
theorem heldIntS_any (x : Option Addr) (n cap : Nat) (k : Int) (B : Nat) (w : World) (h : Ints w B x n cap (marksI k n)) (hk : 0 ≤ k) (hk1 : k ≤ 1000000) (hn : n ≤ 1000000) :
    Calls Try.prog 28 #[.slice x n cap, .int .i64 k] w fun e w' => e = .returned (.int .i64 (k + n)) ∧ w = w' := by
  have HH := Lib.hid h
  have hmx := h.max
  have hle := h.le
  clear h
  unfold maxLen at hmx
  go_enter Try.func28, Try.ntmps28
  go_wp2
  go_loopw [1, 5] (fun kk i wr => ∃ j : Nat, j ≤ n ∧ i = .int .i64 j ∧ kk = .int .i64 (k + j) ∧ wr = w) (fun _ i _ => n - (intOf i).toNat)
  case atStart => exact ⟨0, by omega, rfl, by go_num, rfl⟩
  case round =>
    obtain ⟨j, hj, rfl, rfl, rfl⟩ := hrel
    by_cases hlt : j < n
    · obtain ⟨b, off, rfl, hb, hcell⟩ := HH.out.at hlt
      rw [marksI_at hlt] at hcell
      go_wp2
      go_roundw
      case rel => exact ⟨j + 1, by omega, by go_num, by go_num, by first | rfl | trivial⟩
      case measure => simp [intOf]; omega
    · obtain rfl : j = n := by omega
      go_wp2
      go_ret
      exact ⟨rfl, rfl⟩
theorem sameInts_any (x y : Option Addr) (n m c d : Nat) (l l' : List Int) (B : Nat) (w : World) (h : Ints w B x n c l) (h' : Ints w B y m d l') : Calls Try.prog 20 #[.slice x n c, .slice y m d] w (QuietB (decide (l = l')) w) := by
  have HL := Lib.hid h.len
  have HL' := Lib.hid h'.len
  have hmx := h.max
  have hle := h.le
  have hmx' := h'.max
  have hle' := h'.le
  unfold maxLen at hmx hmx'
  by_cases hnm : n = m
  · subst hnm
    go_enter Try.func20, Try.ntmps20
    go_wp2
    go_loopw [5] (fun i wr => ∃ k : Nat, k ≤ n ∧ i = .int .i64 k ∧ l.take k = l'.take k ∧ ∃ q, wr = w.drewN q) (fun i _ => n - (intOf i).toNat)
    case atStart => exact ⟨0, by omega, rfl, rfl, 0, rfl⟩
    case round =>
      obtain ⟨k, hk, rfl, he, q, rfl⟩ := hrel
      have HE := Lib.hid he; clear he
      by_cases hlt : k < n
      · obtain ⟨b, off, rfl, hb, hcell⟩ := h.at hlt
        obtain ⟨b', off', rfl, hb', hcell'⟩ := h'.at hlt
        by_cases hx : nthI l k = nthI l' k
        · have HX := Lib.hid hx
          have hd : (decide (nthI l k = nthI l' k)) = true := by simpa using hx
          go_wp2
          go_quiet (fail)
          go_wp2
          go_roundw
          case rel => exact ⟨k + 1, by omega, by go_num, take_eq_step (by have := HL.out; omega) (by have := HL'.out; omega) HE.out HX.out, _, by first | rfl | rw [World.drewN_drewN]⟩
          case measure => simp [intOf]; omega
        · have HX := Lib.hid (ne_at hx)
          go_wp2
          go_quiet (fail)
          go_wp2
          go_ret
          exact ⟨ret_bool (by simpa using HX.out), _, by first | rfl | rw [World.drewN_drewN]⟩
      · go_wp2
        go_ret
        have h1 := HE.out
        rw [List.take_of_length_le (by have := HL.out; omega), List.take_of_length_le (by have := HL'.out; omega)] at h1
        exact ⟨ret_bool (by simpa using h1), _, rfl⟩
  · have HX := Lib.hid (show l ≠ l' from fun e => hnm (by rw [← HL.out, ← HL'.out, e]))
    go_enter Try.func20, Try.ntmps20
    go_wp2
    go_ret
    exact ⟨ret_bool (by simpa using HX.out), 0, rfl⟩
/-! ### texts -/
theorem take_eq_stepS {l l' : List ByteArray} {k : Nat} (h : k < l.length) (h' : k < l'.length) (he : l.take k = l'.take k) (hx : nthS l k = nthS l' k) : l.take (k + 1) = l'.take (k + 1) := by
  rw [take_snocS h, take_snocS h', he, hx]
theorem ne_atS {l l' : List ByteArray} {k : Nat} (hx : nthS l k ≠ nthS l' k) : l ≠ l' := fun h => hx (by rw [h])
theorem fillS {l : List ByteArray} {k : Nat} (h : k < l.length) : (l.take k ++ List.replicate (l.length - k) ByteArray.empty).set k (nthS l k) = l.take (k + 1) ++ List.replicate (l.length - (k + 1)) ByteArray.empty := by
  rw [List.set_append, if_neg (by simp; omega), List.length_take, Nat.min_eq_left (by omega), Nat.sub_self, show l.length - k = (l.length - (k + 1)) + 1 by omega, List.replicate_succ, List.set_cons_zero, nthS_get h, List.take_succ_eq_append_getElem h, List.append_assoc]
  rfl
end Go.Proofs.Ytlbebbkkpjgboaa
