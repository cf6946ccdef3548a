/-
  Contracts of the laws' helpers on lists of numbers.
-/
import Derived.Test.YtiniadlpgomgjaaMem
import Derived.Test.YtiniadlpgomgjaaWords
import Derived.Laws.BytesArg
import Derived.Deep.RegionWith
import Derived.WalkSpells
namespace Go.Proofs.Ytiniadlpgomgjaa
open Go.RowKit
set_option linter.unusedVariables false
theorem OwnI.keptLt {w w' : World} {base : Nat} {v : Value} {l : List Int} {r : Option Nat} (h : OwnI w base v l) (hg : w.grownBy w' r) (hr : ∀ k, r = some k → k < base) : OwnI w' base v l :=
  World.ownsRow.kept h hg (by
    cases hv : v.ownBlock with
    | none => exact .inl rfl
    | some k => exact .inr fun e => by have h1 := own_at h hv; have h2 := hr k e.symm; omega)
theorem OwnI.ltSize {w : World} {base : Nat} {v : Value} {l : List Int} (h : OwnI w base v l) {k : Nat} (hk : v.ownBlock = some k) : k < w.heap.size := (World.ownsRow.lt h k hk).2
/-- A bool is handed back; nothing but draws. -/
def QuietB (b : Bool) (w : World) (e : Ending) (w' : World) : Prop := e = .returned (.bool b) ∧ ∃ m, w' = w.drewN m
theorem QuietB.below {b : Bool} {w w' : World} {e : Ending} (h : QuietB b w e w') : Below w.heap.size w w' := by obtain ⟨_, m, rfl⟩ := h; exact below_drewN (Below.refl _ _) m
end Go.Proofs.Ytiniadlpgomgjaa
/-
  Contracts of the laws' helpers: marks in results, comparisons, copies.
-/
namespace Go.Proofs.Ytiniadlpgomgjaa
open Go.RowKit
set_option linter.unusedVariables false
/-- A number is handed back; nothing but draws. -/
def QuietI (n : Int) (w : World) (e : Ending) (w' : World) : Prop := e = .returned (.int .i64 n) ∧ ∃ m, w' = w.drewN m
/-- A number is handed back; nothing that was there has turned. -/
def BelowI (n : Int) (w : World) (e : Ending) (w' : World) : Prop := e = .returned (.int .i64 n) ∧ Below w.heap.size w w'
/-- A bool is handed back; nothing that was there has turned. -/
def BelowB (b : Bool) (w : World) (e : Ending) (w' : World) : Prop := e = .returned (.bool b) ∧ Below w.heap.size w w'
/-! ### numbers -/
/-! ### texts -/
end Go.Proofs.Ytiniadlpgomgjaa
/-
  Contracts of the laws' helpers: marks in texts; how much lists of texts hold.
-/
namespace Go.Proofs.Ytiniadlpgomgjaa
open Go.RowKit
set_option linter.unusedVariables false
def oneB (z : Int) : ByteArray := ⟨#[UInt8.ofNat z.toNat]⟩
theorem oneB_size (z : Int) : (oneB z).size = 1 := rfl
/-- 'string([]byte{z})'. -/
theorem run_oneB (w : World) (z : Int) : (convert 22 9 (.slice (some ⟨w.heap.size, 0, none⟩) 1 1)).run Try.prog (w.alloc (.cells #[.int .u8 z] 5)) = .ok (.string (oneB z)) (w.alloc (.cells #[.int .u8 z] 5)) := by
  have := run_convert_bytes_arg (P := Try.prog) (w.alloc (.cells #[.int .u8 z] 5)) 22 5 Try.underlying22 Try.underlying5 w.heap.size 0 1 1 [z] rfl (fun i hi => by
    obtain rfl : i = 0 := by omega
    have e := heap_alloc_new w (Obj.cells #[.int .u8 z] 5)
    unfold World.cell?
    rw [e]
    simp) 9 Try.underlying9
  rw [this]
  rfl
def markGo : Nat → Nat → ByteArray → ByteArray
  | 0, _, t => t
  | f + 1, k, t => if 0 < k then markGo f (k / 10) (oneB (48 + ((k % 10 : Nat) : Int)) ++ t) else t
/-- The text of a mark. -/
def markB (k : Int) : ByteArray := if k ≤ 0 then ⟨#[109, 48]⟩ else ⟨#[109]⟩ ++ markGo 20 k.toNat ByteArray.empty
theorem markB_no {k : Int} (h : k ≤ 0) : markB k = ⟨#[109, 48]⟩ := by unfold markB; rw [if_pos h]
/-- k is left, t is done. -/
def MarkRel (n : Int) (k : Nat) (t : ByteArray) : Prop := ∃ f, markB n = ⟨#[109]⟩ ++ markGo (f + 1) k t ∧ k < 10 ^ f ∧ t.size + f = 19
theorem markRel_start {n : Int} (h : ¬ n ≤ 0) (h' : n ≤ 1000000000) : MarkRel n n.toNat ByteArray.empty := ⟨19, by unfold markB; rw [if_neg h], by omega, rfl⟩
theorem markRel_step {n : Int} {k : Nat} {t : ByteArray} (h : MarkRel n k t) (hk : 0 < k) : MarkRel n (k / 10) (oneB (48 + ((k % 10 : Nat) : Int)) ++ t) := by
  obtain ⟨f, h1, h2, h3⟩ := h
  cases f with
  | zero => omega
  | succ f =>
    refine ⟨f, ?_, ?_, ?_⟩
    · rw [h1, markGo, if_pos hk]
    · rw [Nat.pow_succ] at h2; omega
    · rw [ByteArray.size_append, oneB_size]; omega
theorem markRel_end {n : Int} {t : ByteArray} (h : MarkRel n 0 t) : markB n = ⟨#[109]⟩ ++ t := by
  obtain ⟨f, h1, _⟩ := h
  rw [h1, markGo, if_neg (by omega)]
theorem markRel_size {n : Int} {k : Nat} {t : ByteArray} (h : MarkRel n k t) : t.size ≤ 19 := by obtain ⟨f, _, _, h3⟩ := h; omega
theorem markText_any (n : Int) (w : World) (hn : n ≤ 1000000000) : Calls Try.prog 46 #[.int .i64 n] w fun e w' => e = .returned (.string (markB n)) ∧ Below w.heap.size w w' := by
  by_cases h0 : n ≤ 0
  · have HF := Lib.hid (markB_no h0)
    go_enter Try.func46, Try.ntmps46
    go_wp2
    go_ret
    exact ⟨ret_str HF.out.symm, Below.refl _ _⟩
  · have HS := Lib.hid (markRel_start h0 hn)
    obtain ⟨k, rfl⟩ : ∃ k : Nat, n = k := ⟨n.toNat, by omega⟩
    have hcv := run_oneB
    go_enter Try.func46, Try.ntmps46
    go_wp2
    go_loopw [0, 3] (fun n' t wr => ∃ (m : Nat) (s : ByteArray), m ≤ 1000000000 ∧ n' = .int .i64 m ∧ t = .string s ∧ MarkRel k m s ∧ Below w.heap.size w wr) (fun n' _ _ => (intOf n').toNat)
    case atStart => exact ⟨k, _, by omega, rfl, rfl, HS.out, Below.refl _ _⟩
    case round =>
      obtain ⟨m, s, hm, rfl, rfl, hr, hb⟩ := hrel
      have HR := Lib.hid hr; have HB := Lib.hid hb; clear hr hb
      have hsz := markRel_size HR.out
      by_cases hlt : 0 < m
      · have HE := Lib.hid (markRel_step HR.out hlt)
        have hone := oneB_size
        go_wp2
        go_roundw
        case rel => exact ⟨m / 10, _, by omega, by go_num, rfl, HE.out, HB.out.alloc (by have := HB.out.size; omega) _⟩
        case measure => simp [intOf]; omega
      · obtain rfl : m = 0 := by omega
        have HE := Lib.hid (markRel_end HR.out)
        go_wp2
        go_ret
        exact ⟨ret_str HE.out.symm, HB.out⟩
theorem own_below {w w' : World} {base : Nat} {e : TypeId} {size n : Nat} {v : Value} {xs : List Value} (h : w.ownsRow base e size v n xs) (hb : Below w.heap.size w w') : w'.ownsRow base e size v n xs :=
  World.ownsRow.kept (row := none) h ⟨hb.os, hb.tape, hb.output, hb.size, fun k hk _ => hb.block k hk⟩ (by cases hv : v.ownBlock <;> simp)
theorem grownBy_join {a b c : World} {r : Option Nat} (h : a.grownBy b r) (hb : Below b.heap.size b c) : a.grownBy c r :=
  ⟨hb.os.trans h.os, hb.tape.trans h.tape, hb.output.trans h.output, Nat.le_trans h.size hb.size, fun k hk hne => (hb.block k (Nat.lt_of_lt_of_le hk h.size)).trans (h.block k hk hne)⟩
theorem below_drewn {B : Nat} {a w w2 : World} (h : Below B a w) (hb : Below w.drew.heap.size w.drew w2) (hB : B ≤ w.heap.size) : Below B a w2 :=
  ⟨hb.os.trans h.os, hb.tape.trans h.tape, hb.output.trans h.output, Nat.le_trans h.size hb.size, fun k hk => (hb.block k (Nat.lt_of_lt_of_le hk hB)).trans (h.block k hk)⟩
theorem cell_drewn {w w2 : World} {b o : Nat} {v : Value} (hc : w.cell? ⟨b, o, none⟩ = some v) (hb : Below w.drew.heap.size w.drew w2) (hlt : b < w.heap.size) : w2.cell? ⟨b, o, none⟩ = some v :=
  (World.cell?_of_block (w := w) (w' := w2) (a := ⟨b, o, none⟩) (hb.block b hlt)).trans hc
/-! ### how much a list holds -/
end Go.Proofs.Ytiniadlpgomgjaa
