/-
  Chapter 13's program: what happened between two roots, and how many changes are of a kind.
-/
import Derived.Test.YtglajbmopiolhaaModel13b
import Derived.Test.YtglajbmopiolhaaModel11
import Derived.Test.YtglajbmopiolhaaImpl9
import Derived.Lib.LastIndexByte
import Derived.Test.YtglajbmopiolhaaMath13c
import Derived.Test.YtglajbmopiolhaaFold
import Derived.Test.YtglajbmopiolhaaFols
import Derived.Test.YtglajbmopiolhaaFold3
import Derived.Lib.IndexLaws
import Derived.Test.YtglajbmopiolhaaPaths8
import Derived.Deep.CutRange
import Derived.Deep.CutBlock
namespace Go.Proofs.Ytglajbmopiolhaa
open Go.RowKit
set_option linter.unusedVariables false
set_option maxRecDepth 100000 in
theorem implCountKind_any (y : Option Addr) (m d : Nat) (cs : List Ent) (v : Int) (B : Nat) (w : World) (h : Ents w B y m d cs) (hB : B ≤ w.heap.size) :
    Calls Try.prog 6 #[.slice y m d, .int .i64 v] w (BelowI (countK cs v) w) := by
  have HH := Lib.hid h
  have HLEN := Lib.hid h.len
  have hle := h.le
  have hmx := h.max
  unfold maxLen at hmx
  clear h
  go_enter Try.func6, Try.ntmps6
  go_wp2
  go_loopw [5, 7, 10] (fun s _ i wr => ∃ k : Nat, k ≤ m ∧ i = .int .i64 k ∧ s = .int .i64 (countK (cs.take k) v) ∧ Below w.heap.size w wr) (fun _ _ i _ => m - (intOf i).toNat)
  case atStart => exact ⟨0, by omega, rfl, rfl, Below.refl _ _⟩
  case round =>
    obtain ⟨k, hk, rfl, rfl, hb⟩ := hrel
    have HB := Lib.hid hb
    have hsz := hb.size
    clear hb
    by_cases hlt : k < m
    · have hkl : k < cs.length := by have := HLEN.out; omega
      obtain ⟨b, off, rfl, hbb, hc0, hc1⟩ := (HH.out.below HB.out hB).atE hlt
      have HY := Lib.hid (count_yes (v := v) hkl); have HN := Lib.hid (count_no (v := v) hkl)
      have hbd : countK (cs.take k) v ≤ k := Nat.le_trans (countK_le _ _) (by rw [List.length_take]; omega)
      obtain ⟨c, hc⟩ : ∃ c, countK (cs.take k) v = c := ⟨_, rfl⟩
      rw [hc] at HY HN hbd ⊢
      clear hc
      by_cases hv : (nthE cs k).2 = v
      · have HE := Lib.hid (HY.out hv)
        have hd : ((nthE cs k).2 == v) = true := by simpa using hv
        have hw1 : IntKind.i64.wrap ((c : Int) + 1) = ((c + 1 : Nat) : Int) := by rw [IntKind.wrap_i64]; omega
        clear HY HN hv
        go_wp2
        go_roundw
        case rel => exact ⟨k + 1, by omega, by go_num, by rw [HE.out]; first | rfl | go_num, HB.out.alloc hsz _⟩
        case measure => simp [intOf]; omega
      · have HE := Lib.hid (HN.out hv)
        have hd : ((nthE cs k).2 == v) = false := by simpa using hv
        clear HY HN hv
        go_wp2
        go_roundw
        case rel => exact ⟨k + 1, by omega, by go_num, by rw [HE.out], HB.out.alloc hsz _⟩
        case measure => simp [intOf]; omega
    · obtain rfl : k = m := by omega
      have HE := Lib.hid (show cs.take k = cs from List.take_of_length_le (by have := HLEN.out; omega))
      go_wp2
      go_ret
      exact ⟨ret_int (by rw [HE.out]), HB.out⟩
end Go.Proofs.Ytglajbmopiolhaa
