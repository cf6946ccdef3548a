/-
  Contracts of chapter 7's program: contents, texts of files, kinds of texts.
-/
import Derived.Test.YtigegjgkjahhaaaFold4
import Derived.Test.YtigegjgkjahhaaaPaths8
namespace Go.Proofs.Ytigegjgkjahhaaa
open Go.RowKit
set_option linter.unusedVariables false
theorem prefixC_yes {c : UInt8} {s : ByteArray} {r : List UInt8} (h : s.data.toList = c :: r) : Lib.hasPrefix s.data.toList (ByteArray.mk #[c]).data.toList = true ∧ Lib.trimPrefix s.data.toList (ByteArray.mk #[c]).data.toList = r := by
  have h1 : Lib.hasPrefix s.data.toList (ByteArray.mk #[c]).data.toList = true := by rw [h]; simp [Lib.hasPrefix, List.isPrefixOf]
  refine ⟨h1, ?_⟩
  unfold Lib.trimPrefix
  rw [if_pos h1, h]; rfl
theorem prefixC_no {c : UInt8} {s : ByteArray} (h : ∀ r, s.data.toList ≠ c :: r) : Lib.hasPrefix s.data.toList (ByteArray.mk #[c]).data.toList = false := by
  unfold Lib.hasPrefix
  cases hs : s.data.toList with
  | nil => rfl
  | cons x r =>
    cases hp : List.isPrefixOf (ByteArray.mk #[c]).data.toList (x :: r) with
    | false => rfl
    | true =>
      simp [List.isPrefixOf] at hp
      subst hp
      exact absurd hs (h r)
theorem headC (c : UInt8) (s : ByteArray) : (∃ r, s.data.toList = c :: r) ∨ ∀ r, s.data.toList ≠ c :: r := by
  by_cases h : ∃ r, s.data.toList = c :: r
  · exact .inl h
  · exact .inr fun r hr => h ⟨r, hr⟩
theorem isFile_noHead {s : ByteArray} (h : ∀ r, s.data.toList ≠ 102 :: r) : isFile s = false := by
  unfold isFile
  cases hs : s.data.toList with
  | nil => rfl
  | cons x r =>
    have : x ≠ 102 := fun e => h r (by rw [hs, e])
    simp [this]
theorem rest1 {c : UInt8} {s : ByteArray} {r : List UInt8} (h : s.data.toList = c :: r) : (⟨r.toArray⟩ : ByteArray) = s.extract 1 s.size := by
  have hl := congrArg List.length h
  rw [len_eq, List.length_cons] at hl
  apply data_inj
  rw [extract_list, h, List.drop_succ_cons, List.drop_zero, List.take_of_length_le (by omega)]
theorem isFile_head {s : ByteArray} {r : List UInt8} (h : s.data.toList = 102 :: r) : isFile s = contentB (s.extract 1 s.size) := by
  unfold isFile
  rw [h]; rfl
end Go.Proofs.Ytigegjgkjahhaaa
