/-
  Contracts of chapter 7's program: contents, texts of files, kinds of texts.
-/
import Derived.Test.YtglajbmopiolhaaGreatDoorFold4
import Derived.Test.YtglajbmopiolhaaGreatDoorPaths8
namespace Go.Proofs.YtglajbmopiolhaaGreatDoor
open Go.RowKit
set_option linter.unusedVariables false
theorem implContentValid_any (s : ByteArray) (w : World) (hs : s.size ≤ maxLen) : Calls Tryz.prog 103 #[.string s] w (BelowB (contentB s) w) := by
  have hs' := hs
  unfold maxLen at hs'
  by_cases hm : (s.size : Int) ≤ 40
  · have HF := Lib.hid (show contentB s = textB s by unfold contentB; rw [show decide (s.size ≤ 40) = true from decide_eq_true (by omega)]; cases textB s <;> rfl)
    go_enter Tryz.func103, Tryz.ntmps103
    go_wp2_with (go_at_call 41; refine (textValid_any _ _ hs).mono ?_; rintro e w' ⟨rfl, rfl⟩)
    go_ret
    exact ⟨ret_bool HF.out.symm, Below.refl _ _⟩
  · have HF := Lib.hid (show contentB s = false by unfold contentB; rw [show decide (s.size ≤ 40) = false from decide_eq_false (by omega)]; cases textB s <;> rfl)
    go_enter Tryz.func103, Tryz.ntmps103
    go_wp2_with (go_at_call 41; refine (textValid_any _ _ hs).mono ?_; rintro e w' ⟨rfl, rfl⟩)
    go_ret
    exact ⟨ret_bool HF.out.symm, Below.refl _ _⟩
theorem implFileText_any (s : ByteArray) (w : World) (hs : s.size ≤ 1048576) : Calls Tryz.prog 105 #[.string s] w fun e w' => e = .returned (.string (fileB s)) ∧ Below w.heap.size w w' := by
  have hm : s.size ≤ maxLen := by unfold maxLen; omega
  cases hc : contentB s
  · have HF := Lib.hid (fileB_no hc)
    go_enter Tryz.func105, Tryz.ntmps105
    go_wp2_with fail
    refine (implContentValid_any s _ hm).mono ?_
    rintro e w2 ⟨rfl, hb⟩
    rw [hc]
    have HB := Lib.hid hb
    clear hb
    go_wp2_with fail
    go_ret
    exact ⟨ret_str HF.out.symm, HB.out⟩
  · have HF := Lib.hid (fileB_yes hc)
    go_enter Tryz.func105, Tryz.ntmps105
    go_wp2_with fail
    refine (implContentValid_any s _ hm).mono ?_
    rintro e w2 ⟨rfl, hb⟩
    rw [hc]
    have HB := Lib.hid hb
    clear hb
    go_wp2_with fail
    go_ret
    exact ⟨ret_str HF.out.symm, HB.out⟩
theorem prefixC_yes {c : UInt8} {s : ByteArray} {r : List UInt8} (h : s.data.toList = c :: r) : Lib.hasPrefix s.data.toList (ByteArray.mk #[c]).data.toList = true ∧ Lib.trimPrefix s.data.toList (ByteArray.mk #[c]).data.toList = r := by
  have h1 : Lib.hasPrefix s.data.toList (ByteArray.mk #[c]).data.toList = true := by rw [h]; simp [Lib.hasPrefix, List.isPrefixOf]
  refine ⟨h1, ?_⟩
  unfold Lib.trimPrefix
  rw [if_pos h1, h]; rfl
theorem prefixC_no {c : UInt8} {s : ByteArray} (h : ∀ r, s.data.toList ≠ c :: r) : Lib.hasPrefix s.data.toList (ByteArray.mk #[c]).data.toList = false := by
  unfold Lib.hasPrefix
  cases hs : s.data.toList with
  | nil => rfl
  | cons x r =>
    cases hp : List.isPrefixOf (ByteArray.mk #[c]).data.toList (x :: r) with
    | false => rfl
    | true =>
      simp [List.isPrefixOf] at hp
      subst hp
      exact absurd hs (h r)
theorem headC (c : UInt8) (s : ByteArray) : (∃ r, s.data.toList = c :: r) ∨ ∀ r, s.data.toList ≠ c :: r := by
  by_cases h : ∃ r, s.data.toList = c :: r
  · exact .inl h
  · exact .inr fun r hr => h ⟨r, hr⟩
theorem isFile_noHead {s : ByteArray} (h : ∀ r, s.data.toList ≠ 102 :: r) : isFile s = false := by
  unfold isFile
  cases hs : s.data.toList with
  | nil => rfl
  | cons x r =>
    have : x ≠ 102 := fun e => h r (by rw [hs, e])
    simp [this]
theorem rest1 {c : UInt8} {s : ByteArray} {r : List UInt8} (h : s.data.toList = c :: r) : (⟨r.toArray⟩ : ByteArray) = s.extract 1 s.size := by
  have hl := congrArg List.length h
  rw [len_eq, List.length_cons] at hl
  apply data_inj
  rw [extract_list, h, List.drop_succ_cons, List.drop_zero, List.take_of_length_le (by omega)]
theorem isFile_head {s : ByteArray} {r : List UInt8} (h : s.data.toList = 102 :: r) : isFile s = contentB (s.extract 1 s.size) := by
  unfold isFile
  rw [h]; rfl
theorem implReadFile_any (s : ByteArray) (w : World) (hs : s.size ≤ 1048576) : Calls Tryz.prog 90 #[.string s] w fun e w' => e = .returned (.tuple #[.string (fileT s), .bool (isFile s)]) ∧ Below w.heap.size w w' := by
  rcases headC 102 s with ⟨r, h⟩ | hno
  rotate_left
  · have HI := Lib.hid (isFile_noHead hno)
    have HF := Lib.hid (fileT_no HI.out)
    have hp := prefixC_no hno
    clear hno
    go_enter Tryz.func90, Tryz.ntmps90
    go_wp2_with fail
    refine (Tryz.strings_CutPrefix s ⟨#[102]⟩ _).mono ?_
    rintro e w2 ⟨rfl, hw2⟩
    subst w2
    rw [hp]
    go_wp2_with fail
    go_ret2
    exact ⟨by rw [HF.out, HI.out]; rfl, Below.refl _ _⟩
  have hp := prefixC_yes h
  have hr := rest1 h
  have hi := isFile_head h
  have hz : (s.extract 1 s.size).size ≤ s.size := by rw [ByteArray.size_extract]; omega
  obtain ⟨R, hR⟩ : ∃ R, s.extract 1 s.size = R := ⟨_, rfl⟩
  have hm : R.size ≤ maxLen := by rw [← hR]; unfold maxLen; omega
  have hm2 : R.size ≤ 2000000 := by rw [← hR]; omega
  cases hc : contentB R
  · have HI := Lib.hid (show isFile s = false by rw [hi, hR, hc])
    have HF := Lib.hid (fileT_no HI.out)
    rw [hR] at hr
    clear h hi hz hR
    go_enter Tryz.func90, Tryz.ntmps90
    go_wp2_with fail
    refine (Tryz.strings_CutPrefix s ⟨#[102]⟩ _).mono ?_
    rintro e w2 ⟨rfl, hw2⟩
    subst w2
    rw [hp.1, hp.2, hr]
    clear hp hr
    go_wp2_with (go_at_call 103; refine (implContentValid_any _ _ hm).mono ?_; rintro e w3 ⟨rfl, hb⟩; rw [hc]; have HB := Lib.hid hb; clear hb)
    go_ret2
    exact ⟨by rw [HF.out, HI.out]; rfl, HB.out⟩
  · have HI := Lib.hid (show isFile s = true by rw [hi, hR, hc])
    have HF := Lib.hid ((fileT_yes HI.out).trans hR)
    rw [hR] at hr
    clear h hi hz hR
    go_enter Tryz.func90, Tryz.ntmps90
    go_wp2_with fail
    refine (Tryz.strings_CutPrefix s ⟨#[102]⟩ _).mono ?_
    rintro e w2 ⟨rfl, hw2⟩
    subst w2
    rw [hp.1, hp.2, hr]
    clear hp hr
    go_wp2_with (first
      | (go_at_call 103; refine (implContentValid_any _ _ hm).mono ?_; rintro e w3 ⟨rfl, hb⟩; rw [hc]; have HB := Lib.hid hb; clear hb)
      | (go_at_call 97; refine (cloneN_any _ _ hm2).mono ?_; rintro e w4 ⟨rfl, hb⟩; have HB2 := Lib.hid (HB.out.trans (hb.mono HB.out.size)); clear hb))
    go_ret2
    exact ⟨by rw [HF.out, HI.out]; rfl, HB2.out⟩
end Go.Proofs.YtglajbmopiolhaaGreatDoor
