/-
  The walks of chapter 13's laws.
-/
import Derived.Test.YtglajbmopiolhaaImpl13
import Derived.Test.YtglajbmopiolhaaModel11
import Derived.Test.YtglajbmopiolhaaImpl9
import Derived.Lib.LastIndexByte
import Derived.Test.YtglajbmopiolhaaFols
import Derived.Test.YtglajbmopiolhaaFold3
import Derived.Lib.IndexLaws
import Derived.Test.YtglajbmopiolhaaPaths8
import Derived.Deep.CutRange
import Derived.Deep.CutBlock
import Derived.Test.YtglajbmopiolhaaMath13e
import Derived.Test.YtglajbmopiolhaaDraw17
import Derived.Test.YtglajbmopiolhaaArgsC
namespace Go.Proofs.Ytglajbmopiolhaa
open Go.RowKit
set_option linter.unusedVariables false
set_option maxHeartbeats 1000000 in
set_option maxRecDepth 100000 in
theorem fnCountKind_any (x : Option Addr) (n cap : Nat) (w : World) (h : Bytes w.heap.size w x n) (hn : n ≤ cap) (hc : cap ≤ maxLen) :
    Calls Try.prog 3 #[.slice x n cap] w fun e w' => e = .returned (.bool true) ∧ Below w.heap.size w w' := by
  by_cases hlong : 1048576 < (n : Int)
  · go_enter Try.func3, Try.ntmps3
    go_wp2
    go_ret
    exact ⟨rfl, Below.refl _ _⟩
  · have HB0 := Lib.hid h
    have HC := Lib.hid hc
    have HLE := Lib.hid hn
    clear h hc hn
    go_enter Try.func3, Try.ntmps3
    go_wp2_with fail
    refine (drawCountKind_any x n cap w HB0.out HLE.out HC.out).mono ?_
    rintro e w1 ⟨y, m, c, cs, k, rfl, hfew, hkin, hl, hb⟩
    have HB := Lib.hid hb; have HL := Lib.hid hl; have HLEN := Lib.hid hl.len
    have HALL := Lib.hid (count_all hkin); have HLE2 := Lib.hid (countK_le cs k)
    clear hb hl
    go_wp2_with fail
    refine (implCountKind_any y m c cs k _ _ HL.out (Nat.le_refl _)).mono ?_
    rintro e w2 ⟨rfl, hb⟩
    have HB2 := Lib.hid (HB.out.trans (hb.mono HB.out.size)); have HL2 := Lib.hid ((HL.out.below hb (Nat.le_refl _)).more hb.size)
    clear hb
    go_wp2_with fail
    refine (specCountKind_any y m c cs k _ _ HL2.out (Nat.le_refl _)).mono ?_
    rintro e w3 ⟨rfl, hb⟩
    have HB3 := Lib.hid (HB2.out.trans (hb.mono HB2.out.size)); have HL3 := Lib.hid ((HL2.out.below hb (Nat.le_refl _)).more hb.size)
    clear hb HL HL2
    have hle : (countK cs k : Int) ≤ (m : Int) := by have := HLE2.out; have := HLEN.out; omega
    have h54 : m ≤ 54 := by have := HLEN.out; omega
    obtain ⟨c0, hc0⟩ : ∃ c0, countK cs 0 = c0 := ⟨_, rfl⟩
    obtain ⟨c1, hc1⟩ : ∃ c1, countK cs 1 = c1 := ⟨_, rfl⟩
    obtain ⟨c2, hc2⟩ : ∃ c2, countK cs 2 = c2 := ⟨_, rfl⟩
    have HC0 := Lib.hid hc0; have HC1 := Lib.hid hc1; have HC2 := Lib.hid hc2
    rw [hc0, hc1, hc2] at HALL
    have hsum : c0 + c1 + c2 = m := by have := HALL.out; have := HLEN.out; omega
    have HSUM := Lib.hid hsum
    have hw1 : IntKind.i64.wrap ((c0 : Int) + (c1 : Int)) = (c0 : Int) + (c1 : Int) := by rw [IntKind.wrap_i64]; omega
    have hw2 : IntKind.i64.wrap ((c0 : Int) + (c1 : Int) + (c2 : Int)) = (m : Int) := by rw [IntKind.wrap_i64]; omega
    clear hc0 hc1 hc2 HALL hsum hfew
    go_wp2_with (first
      | (go_at_call 6; (with_reducible refine (implCountKind_any _ _ _ cs 0 _ _ HL3.out (Nat.le_refl _)).mono ?_); rintro e w4 ⟨rfl, hb⟩; rw [HC0.out]; have HB4 := Lib.hid (HB3.out.trans (hb.mono HB3.out.size)); have HL4 := Lib.hid ((HL3.out.below hb (Nat.le_refl _)).more hb.size); clear hb)
      | (go_at_call 6; (with_reducible refine (implCountKind_any _ _ _ cs 1 _ _ HL4.out (Nat.le_refl _)).mono ?_); rintro e w5 ⟨rfl, hb⟩; rw [HC1.out]; have HB5 := Lib.hid (HB4.out.trans (hb.mono HB4.out.size)); have HL5 := Lib.hid ((HL4.out.below hb (Nat.le_refl _)).more hb.size); clear hb)
      | (go_at_call 6; (with_reducible refine (implCountKind_any _ _ _ cs 2 _ _ HL5.out (Nat.le_refl _)).mono ?_); rintro e w6 ⟨rfl, hb⟩; rw [HC2.out]; have HB6 := Lib.hid (HB5.out.trans (hb.mono HB5.out.size)); clear hb)
      | (go_at_call 8; (with_reducible refine (alive_any _).mono ?_); rintro e w' ⟨rfl, rfl⟩))
    go_ret
    exact ⟨ret_bool (by simp), HB6.out⟩
end Go.Proofs.Ytglajbmopiolhaa
