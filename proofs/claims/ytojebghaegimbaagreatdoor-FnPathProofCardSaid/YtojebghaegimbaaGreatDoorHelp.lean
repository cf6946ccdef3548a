/-
  Contracts of the laws' helpers on lists of numbers.
-/
import Derived.Test.YtojebghaegimbaaGreatDoorMem
import Derived.Test.YtojebghaegimbaaGreatDoorWords
import Derived.Laws.BytesArg
import Derived.Deep.RegionWith
import Derived.WalkSpells
namespace Go.Proofs.YtojebghaegimbaaGreatDoor
open Go.RowKit
set_option linter.unusedVariables false
theorem OwnI.ltSize {w : World} {base : Nat} {v : Value} {l : List Int} (h : OwnI w base v l) {k : Nat} (hk : v.ownBlock = some k) : k < w.heap.size := (World.ownsRow.lt h k hk).2
/-- A bool is handed back; nothing but draws. -/
def QuietB (b : Bool) (w : World) (e : Ending) (w' : World) : Prop := e = .returned (.bool b) ∧ ∃ m, w' = w.drewN m
theorem QuietB.below {b : Bool} {w w' : World} {e : Ending} (h : QuietB b w e w') : Below w.heap.size w w' := by obtain ⟨_, m, rfl⟩ := h; exact below_drewN (Below.refl _ _) m
end Go.Proofs.YtojebghaegimbaaGreatDoor
/-
  Contracts of the laws' helpers: marks in results, comparisons, copies.
-/
namespace Go.Proofs.YtojebghaegimbaaGreatDoor
open Go.RowKit
set_option linter.unusedVariables false
/-- A number is handed back; nothing that was there has turned. -/
def BelowI (n : Int) (w : World) (e : Ending) (w' : World) : Prop := e = .returned (.int .i64 n) ∧ Below w.heap.size w w'
/-- A bool is handed back; nothing that was there has turned. -/
def BelowB (b : Bool) (w : World) (e : Ending) (w' : World) : Prop := e = .returned (.bool b) ∧ Below w.heap.size w w'
/-! ### numbers -/
/-! ### texts -/
theorem take_eq_stepS {l l' : List ByteArray} {k : Nat} (h : k < l.length) (h' : k < l'.length) (he : l.take k = l'.take k) (hx : nthS l k = nthS l' k) : l.take (k + 1) = l'.take (k + 1) := by
  rw [take_snocS h, take_snocS h', he, hx]
theorem ne_atS {l l' : List ByteArray} {k : Nat} (hx : nthS l k ≠ nthS l' k) : l ≠ l' := fun h => hx (by rw [h])
theorem sameTexts_any (x y : Option Addr) (n m c d : Nat) (l l' : List ByteArray) (B : Nat) (w : World) (h : Strs w B x n c l) (h' : Strs w B y m d l') : Calls Tryz.prog 9 #[.slice x n c, .slice y m d] w (QuietB (decide (l = l')) w) := by
  have HL := Lib.hid h.len
  have HL' := Lib.hid h'.len
  have hmx := h.max
  have hle := h.le
  have hmx' := h'.max
  have hle' := h'.le
  unfold maxLen at hmx hmx'
  by_cases hnm : n = m
  · subst hnm
    go_enter Tryz.func9, Tryz.ntmps9
    go_wp2
    go_loopw [5] (fun i wr => ∃ k : Nat, k ≤ n ∧ i = .int .i64 k ∧ l.take k = l'.take k ∧ ∃ q, wr = w.drewN q) (fun i _ => n - (intOf i).toNat)
    case atStart => exact ⟨0, by omega, rfl, rfl, 0, rfl⟩
    case round =>
      obtain ⟨k, hk, rfl, he, q, rfl⟩ := hrel
      have HE := Lib.hid he; clear he
      by_cases hlt : k < n
      · obtain ⟨b, off, rfl, hb, hcell⟩ := h.atS hlt
        obtain ⟨b', off', rfl, hb', hcell'⟩ := h'.atS hlt
        by_cases hx : nthS l k = nthS l' k
        · have HX := Lib.hid hx
          have hd : ((nthS l k).toList == (nthS l' k).toList) = true := by rw [hx]; simp
          clear hx
          go_wp2
          go_quiet (fail)
          go_wp2
          go_roundw
          case rel => exact ⟨k + 1, by omega, by go_num, take_eq_stepS (by have := HL.out; omega) (by have := HL'.out; omega) HE.out HX.out, _, by first | rfl | rw [World.drewN_drewN]⟩
          case measure => simp [intOf]; omega
        · have HX := Lib.hid (ne_atS hx)
          have hd : ((nthS l k).toList == (nthS l' k).toList) = false := by rw [str_beq]; simpa using hx
          clear hx
          go_wp2
          go_quiet (fail)
          go_wp2
          go_ret
          exact ⟨ret_bool (by simpa using HX.out), _, by first | rfl | rw [World.drewN_drewN]⟩
      · go_wp2
        go_ret
        have h1 := HE.out
        rw [List.take_of_length_le (by have := HL.out; omega), List.take_of_length_le (by have := HL'.out; omega)] at h1
        exact ⟨ret_bool (by simpa using h1), _, rfl⟩
  · have HX := Lib.hid (show l ≠ l' from fun e => hnm (by rw [← HL.out, ← HL'.out, e]))
    go_enter Tryz.func9, Tryz.ntmps9
    go_wp2
    go_ret
    exact ⟨ret_bool (by simpa using HX.out), 0, rfl⟩
end Go.Proofs.YtojebghaegimbaaGreatDoor
/-
  Contracts of the laws' helpers: marks in texts; how much lists of texts hold.
-/
namespace Go.Proofs.YtojebghaegimbaaGreatDoor
open Go.RowKit
set_option linter.unusedVariables false
theorem own_below {w w' : World} {base : Nat} {e : TypeId} {size n : Nat} {v : Value} {xs : List Value} (h : w.ownsRow base e size v n xs) (hb : Below w.heap.size w w') : w'.ownsRow base e size v n xs :=
  World.ownsRow.kept (row := none) h ⟨hb.os, hb.tape, hb.output, hb.size, fun k hk _ => hb.block k hk⟩ (by cases hv : v.ownBlock <;> simp)
theorem grownBy_join {a b c : World} {r : Option Nat} (h : a.grownBy b r) (hb : Below b.heap.size b c) : a.grownBy c r :=
  ⟨hb.os.trans h.os, hb.tape.trans h.tape, hb.output.trans h.output, Nat.le_trans h.size hb.size, fun k hk hne => (hb.block k (Nat.lt_of_lt_of_le hk h.size)).trans (h.block k hk hne)⟩
/-! ### how much a list holds -/
end Go.Proofs.YtojebghaegimbaaGreatDoor
