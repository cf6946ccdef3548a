/-
  The walks of chapters 7's and 8's exact laws.
-/
import Derived.Test.YtmjhhjnolelheaaImpl7
import Derived.Test.YtmjhhjnolelheaaHelp
namespace Go.Proofs.Ytmjhhjnolelheaa
open Go.RowKit
set_option linter.unusedVariables false
theorem leftS_no {l : List ByteArray} {left : Int} (h : ¬ (l.length + sumS l : Int) ≤ left) : leftS l left = -1 := by unfold leftS; rw [if_neg h]
theorem leftS_yes {l : List ByteArray} {left : Int} (h : (l.length + sumS l : Int) ≤ left) : 0 ≤ leftS l left ∧ leftS l left ≤ left ∧ (l.length : Int) ≤ left := by unfold leftS; rw [if_pos h]; omega
set_option maxHeartbeats 1000000 in
theorem fnExactContentValid_any (a0 : ByteArray) (w : World) (ha0 : a0.size ≤ maxLen) : Calls Try.prog 7 #[.string a0] w fun e w' => e = .returned (.bool true) ∧ Below w.heap.size w w' := by
  by_cases hlonga0 : 1048576 < (a0.size : Int)
  · go_enter Try.func7, Try.ntmps7
    go_wp2
    go_ret
    exact ⟨rfl, Below.refl _ _⟩
  have hsa0 : a0.size ≤ 1048576 := by omega
  have B0 := Lib.hid (Below.refl w.heap.size w)
  go_enter Try.func7, Try.ntmps7
  go_wp2_with fail
  refine (specContentValid_any a0 _ ha0).mono ?_
  rintro e w' ⟨rfl, rfl⟩
  go_wp2_with fail
  refine (implContentValid_any a0 _ ha0).mono ?_
  rintro e w1 ⟨rfl, hb⟩
  have B0_1 := Lib.hid (B0.out.trans (hb.mono B0.out.size))
  clear hb
  go_wp2_with fail
  go_ret
  exact ⟨ret_bool (by simp), B0_1.out⟩
set_option maxHeartbeats 1000000 in
theorem fnExactFileText_any (a0 : ByteArray) (w : World) (ha0 : a0.size ≤ maxLen) : Calls Try.prog 8 #[.string a0] w fun e w' => e = .returned (.bool true) ∧ Below w.heap.size w w' := by
  by_cases hlonga0 : 1048576 < (a0.size : Int)
  · go_enter Try.func8, Try.ntmps8
    go_wp2
    go_ret
    exact ⟨rfl, Below.refl _ _⟩
  have hsa0 : a0.size ≤ 1048576 := by omega
  have B0 := Lib.hid (Below.refl w.heap.size w)
  go_enter Try.func8, Try.ntmps8
  go_wp2_with fail
  refine (specFileText_any a0 _ hsa0).mono ?_
  rintro e w' ⟨rfl, rfl⟩
  go_wp2_with fail
  refine (implFileText_any a0 _ hsa0).mono ?_
  rintro e w1 ⟨rfl, hb⟩
  have B0_1 := Lib.hid (B0.out.trans (hb.mono B0.out.size))
  clear hb
  go_wp2_with fail
  go_ret
  exact ⟨ret_bool (by simp), B0_1.out⟩
set_option maxHeartbeats 1000000 in
theorem fnExactReadFile_any (a0 : ByteArray) (w : World) (ha0 : a0.size ≤ maxLen) : Calls Try.prog 9 #[.string a0] w fun e w' => e = .returned (.bool true) ∧ Below w.heap.size w w' := by
  by_cases hlonga0 : 1048576 < (a0.size : Int)
  · go_enter Try.func9, Try.ntmps9
    go_wp2
    go_ret
    exact ⟨rfl, Below.refl _ _⟩
  have hsa0 : a0.size ≤ 1048576 := by omega
  have B0 := Lib.hid (Below.refl w.heap.size w)
  go_enter Try.func9, Try.ntmps9
  go_wp2_with fail
  refine (specReadFile_any a0 _ ha0).mono ?_
  rintro e w' ⟨rfl, rfl⟩
  go_wp2_with fail
  refine (implReadFile_any a0 _ hsa0).mono ?_
  rintro e w1 ⟨rfl, hb⟩
  have B0_1 := Lib.hid (B0.out.trans (hb.mono B0.out.size))
  clear hb
  go_wp2_with fail
  go_ret
  exact ⟨ret_bool (by simp), B0_1.out⟩
set_option maxHeartbeats 1000000 in
theorem fnExactTextKind_any (a0 : ByteArray) (w : World) (ha0 : a0.size ≤ maxLen) : Calls Try.prog 10 #[.string a0] w fun e w' => e = .returned (.bool true) ∧ Below w.heap.size w w' := by
  by_cases hlonga0 : 1048576 < (a0.size : Int)
  · go_enter Try.func10, Try.ntmps10
    go_wp2
    go_ret
    exact ⟨rfl, Below.refl _ _⟩
  have hsa0 : a0.size ≤ 1048576 := by omega
  have B0 := Lib.hid (Below.refl w.heap.size w)
  go_enter Try.func10, Try.ntmps10
  go_wp2_with fail
  refine (specTextKind_any a0 _ hsa0).mono ?_
  rintro e w1 ⟨rfl, hb⟩
  have B0_1 := Lib.hid (B0.out.trans (hb.mono B0.out.size))
  clear hb
  go_wp2_with fail
  refine (implTextKind_any a0 _ hsa0).mono ?_
  rintro e w2 ⟨rfl, hb⟩
  have B0_2 := Lib.hid (B0_1.out.trans (hb.mono B0_1.out.size))
  clear hb
  go_wp2_with fail
  go_ret
  exact ⟨ret_bool (by simp), B0_2.out⟩
end Go.Proofs.Ytmjhhjnolelheaa
