/-
  Chapter 7's model: files.
-/
import Derived.Test.YtlbebbkkpjgboaaWords
import Derived.WalkSpells
namespace Go.Proofs.Ytlbebbkkpjgboaa
open Go.RowKit
set_option linter.unusedVariables false
def contentB (s : ByteArray) : Bool := textB s && decide (s.size ≤ 40)
theorem contentB_no {s : ByteArray} (h : textB s = false) : contentB s = false := by unfold contentB; rw [h]; rfl
theorem contentB_yes {s : ByteArray} (h : textB s = true) : contentB s = decide (s.size ≤ 40) := by unfold contentB; rw [h]; rfl
def fileB (s : ByteArray) : ByteArray := if contentB s = true then ⟨#[102]⟩ ++ s else ByteArray.empty
theorem fileB_no {s : ByteArray} (h : contentB s = false) : fileB s = ByteArray.empty := by unfold fileB; rw [h]; rfl
theorem fileB_yes {s : ByteArray} (h : contentB s = true) : fileB s = ⟨#[102]⟩ ++ s := by unfold fileB; rw [h]; rfl
/-- A text of a file. -/
def isFile (s : ByteArray) : Bool := (s.data.toList.head? == some 102) && contentB (s.extract 1 s.size)
def fileT (s : ByteArray) : ByteArray := if isFile s = true then s.extract 1 s.size else ByteArray.empty
theorem isFile_nil {s : ByteArray} (h : s.size = 0) : isFile s = false := by
  have : s.data.toList = [] := List.length_eq_zero_iff.1 (by rw [len_eq]; exact h)
  unfold isFile; rw [this]; rfl
theorem head_at (s : ByteArray) (h : 0 < s.size) : s.data.toList.head? = some s[0] := by
  rw [List.head?_eq_getElem?, List.getElem?_eq_getElem (by simpa using h)]; rfl
theorem isFile_other {s : ByteArray} (h : 0 < s.size) (h1 : ((s[0]).toNat : Int) ≠ 102) : isFile s = false := by
  unfold isFile
  rw [head_at s h]
  have : s[0] ≠ 102 := fun e => h1 (by rw [e]; rfl)
  simp [this]
theorem isFile_is {s : ByteArray} (h : 0 < s.size) (h1 : ((s[0]).toNat : Int) = 102) : isFile s = contentB (s.extract 1 s.size) := by
  unfold isFile
  rw [head_at s h]
  have : s[0] = 102 := by apply UInt8.toNat_inj.1; show (s[0]).toNat = 102; omega
  rw [this]; rfl
theorem fileT_no {s : ByteArray} (h : isFile s = false) : fileT s = ByteArray.empty := by unfold fileT; rw [h]; rfl
theorem fileT_yes {s : ByteArray} (h : isFile s = true) : fileT s = s.extract 1 s.size := by unfold fileT; rw [h]; rfl
theorem specContentValid_any (s : ByteArray) (w : World) (hs : s.size ≤ maxLen) : Calls Try.prog 76 #[.string s] w fun e w' => e = .returned (.bool (contentB s)) ∧ w = w' := by
  have hs' := hs
  unfold maxLen at hs'
  cases ht : textB s
  · have HF := Lib.hid (contentB_no ht)
    go_enter Try.func76, Try.ntmps76
    go_wp2_with (go_at_call 57; refine (specTextValid_any _ _ hs).mono ?_; rintro e w' ⟨rfl, rfl⟩)
    go_ret
    exact ⟨ret_bool HF.out.symm, rfl⟩
  · have HF := Lib.hid (contentB_yes ht)
    go_enter Try.func76, Try.ntmps76
    go_wp2_with (go_at_call 57; refine (specTextValid_any _ _ hs).mono ?_; rintro e w' ⟨rfl, rfl⟩)
    go_ret
    exact ⟨ret_bool (by rw [HF.out]; simp; omega), rfl⟩
theorem specFileText_any (s : ByteArray) (w : World) (hs : s.size ≤ 1000000) : Calls Try.prog 78 #[.string s] w fun e w' => e = .returned (.string (fileB s)) ∧ w = w' := by
  have hm : s.size ≤ maxLen := by unfold maxLen; omega
  cases hc : contentB s
  · have HF := Lib.hid (fileB_no hc)
    go_enter Try.func78, Try.ntmps78
    go_wp2_with (go_at_call 76; refine (specContentValid_any _ _ hm).mono ?_; rintro e w' ⟨rfl, rfl⟩)
    go_ret
    exact ⟨ret_str HF.out.symm, rfl⟩
  · have HF := Lib.hid (fileB_yes hc)
    go_enter Try.func78, Try.ntmps78
    go_wp2_with (go_at_call 76; refine (specContentValid_any _ _ hm).mono ?_; rintro e w' ⟨rfl, rfl⟩)
    go_ret
    exact ⟨ret_str HF.out.symm, rfl⟩
theorem specReadFile_any (s : ByteArray) (w : World) (hs : s.size ≤ maxLen) : Calls Try.prog 87 #[.string s] w fun e w' => e = .returned (.tuple #[.string (fileT s), .bool (isFile s)]) ∧ w = w' := by
  have hs' := hs
  unfold maxLen at hs'
  by_cases h0 : 0 < s.size
  · have hx : (s.extract 1 s.size).size ≤ maxLen := by rw [ByteArray.size_extract]; unfold maxLen; omega
    have he : s.toList.isEmpty = false := by rw [ByteArray.toList_eq, List.isEmpty_eq_false_iff, ← List.length_pos_iff, len_eq]; exact h0
    by_cases hf : ((s[0]).toNat : Int) = 102
    · have hd : (((s[0]).toNat : Int) != 102) = false := by simpa using hf
      cases hc : contentB (s.extract 1 s.size)
      · have hi : isFile s = false := by rw [isFile_is h0 hf, hc]
        have HI := Lib.hid hi
        have HF := Lib.hid (fileT_no hi)
        clear hf hi
        go_enter Try.func87, Try.ntmps87
        go_wp2_with (go_at_call 76; refine (specContentValid_any _ _ hx).mono ?_; rintro e w' ⟨rfl, rfl⟩)
        go_ret2
        exact ⟨by rw [HF.out, HI.out]; rfl, rfl⟩
      · have hi : isFile s = true := by rw [isFile_is h0 hf, hc]
        have HI := Lib.hid hi
        have HF := Lib.hid (fileT_yes hi)
        clear hf hi
        go_enter Try.func87, Try.ntmps87
        go_wp2_with (go_at_call 76; refine (specContentValid_any _ _ hx).mono ?_; rintro e w' ⟨rfl, rfl⟩)
        go_ret2
        exact ⟨by rw [HF.out, HI.out]; rfl, rfl⟩
    · have HI := Lib.hid (isFile_other h0 hf)
      have HF := Lib.hid (fileT_no HI.out)
      have hd : (((s[0]).toNat : Int) != 102) = true := by simpa using hf
      clear hf
      go_enter Try.func87, Try.ntmps87
      go_wp2
      go_ret2
      exact ⟨by rw [HF.out, HI.out]; rfl, rfl⟩
  · have HI := Lib.hid (isFile_nil (s := s) (by omega))
    have HF := Lib.hid (fileT_no HI.out)
    have he : s.toList.isEmpty = true := by rw [ByteArray.toList_eq, List.isEmpty_iff, ← List.length_eq_zero_iff, len_eq]; omega
    go_enter Try.func87, Try.ntmps87
    go_wp2
    go_ret2
    exact ⟨by rw [HF.out, HI.out]; rfl, rfl⟩
end Go.Proofs.Ytlbebbkkpjgboaa
