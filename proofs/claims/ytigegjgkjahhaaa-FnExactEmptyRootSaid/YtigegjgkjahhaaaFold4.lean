/-
  Contracts of chapter 6's program: the text of a folder is read.
-/
import Derived.Test.YtigegjgkjahhaaaFold3
import Derived.Lib.IndexLaws
namespace Go.Proofs.Ytigegjgkjahhaaa
open Go.RowKit
set_option linter.unusedVariables false
/-- A text, cut at the first place of a byte. -/
def cutP (c : UInt8) (s : ByteArray) : ByteArray × ByteArray × Bool :=
  if 0 ≤ Lib.indexByte s.data.toList c then (s.extract 0 (Lib.indexByte s.data.toList c).toNat, s.extract ((Lib.indexByte s.data.toList c).toNat + 1) s.size, true) else (s, ByteArray.empty, false)
theorem cutP_at {c : UInt8} {s : ByteArray} {k : Nat} (h : Lib.indexByte s.data.toList c = k) : cutP c s = (s.extract 0 k, s.extract (k + 1) s.size, true) := by
  unfold cutP; rw [h, if_pos (by omega)]; rfl
theorem cutP_not {c : UInt8} {s : ByteArray} (h : Lib.indexByte s.data.toList c = -1) : cutP c s = (s, ByteArray.empty, false) := by
  unfold cutP; rw [h, if_neg (by omega)]
theorem cutP_cases (c : UInt8) (s : ByteArray) : (∃ a b, s.data.toList = a ++ c :: b ∧ (∀ x ∈ a, x ≠ c) ∧ cutP c s = (bytesOf a, bytesOf b, true)) ∨ ((∀ x ∈ s.data.toList, x ≠ c) ∧ cutP c s = (s, ByteArray.empty, false)) := by
  have hge := Lib.indexByte_ge s.data.toList c
  by_cases h : Lib.indexByte s.data.toList c = -1
  · refine .inr ⟨fun x hx e => ?_, cutP_not h⟩
    obtain ⟨j, hj, rfl⟩ := List.mem_iff_getElem.1 hx
    exact Lib.indexByte_none h j (by rw [List.getElem?_eq_getElem hj, e])
  · obtain ⟨k, hk⟩ : ∃ k : Nat, Lib.indexByte s.data.toList c = k := ⟨(Lib.indexByte s.data.toList c).toNat, by omega⟩
    obtain ⟨h1, h2⟩ := Lib.indexByte_some hk
    obtain ⟨hk1, hk2⟩ := List.getElem?_eq_some_iff.1 h1
    have hks : k < s.size := by rwa [len_eq] at hk1
    refine .inl ⟨s.data.toList.take k, s.data.toList.drop (k + 1), ?_, fun x hx e => ?_, ?_⟩
    · rw [← hk2, ← List.drop_eq_getElem_cons hk1, List.take_append_drop]
    · obtain ⟨j, hj, rfl⟩ := List.mem_iff_getElem.1 hx
      rw [List.length_take] at hj
      rw [List.getElem_take] at e
      exact h2 j (by omega) (by rw [List.getElem?_eq_getElem (by omega), e])
    · have e1 : s.extract 0 k = bytesOf (s.data.toList.take k) := data_inj (by rw [extract_list, bytesOf_to, List.drop_zero, Nat.sub_zero])
      have e2 : s.extract (k + 1) s.size = bytesOf (s.data.toList.drop (k + 1)) := data_inj (by rw [extract_list, bytesOf_to, List.take_of_length_le (by rw [List.length_drop, len_eq]; omega)])
      rw [cutP_at hk, e1, e2]
def CutQ (c : UInt8) (s : ByteArray) (w : World) (e : Ending) (w' : World) : Prop := e = .returned (.tuple #[.string (cutP c s).1, .string (cutP c s).2.1, .bool (cutP c s).2.2]) ∧ ∃ q, w' = w.drewN q
theorem cutQ_of {c : UInt8} {s a b : ByteArray} {o : Bool} {w w' : World} (h : cutP c s = (a, b, o)) (hq : ∃ q, w' = w.drewN q) : CutQ c s w (.returned (.tuple #[.string a, .string b, .bool o])) w' := by
  unfold CutQ; rw [h]; exact ⟨rfl, hq⟩
/-! ### an entry of a text -/
theorem entOf_cut {a : ByteArray} : entOf a.data.toList = ((cutP 61 a).1, readB (cutP 61 a).2.1) := by
  rcases cutP_cases 61 a with ⟨x, y, h, hx, hc⟩ | ⟨hx, hc⟩
  · rw [hc]; unfold entOf; rw [h, cutL_at x y hx]
  · rw [hc]; unfold entOf; rw [cutL_no _ hx, bytesOf_list]; rfl
theorem cutP_sizes (c : UInt8) (s : ByteArray) : (cutP c s).1.size ≤ s.size ∧ (cutP c s).2.1.size ≤ s.size := by
  rcases cutP_cases c s with ⟨a, b, h, _, hc⟩ | ⟨_, hc⟩
  · have h1 := congrArg List.length h
    rw [len_eq, List.length_append, List.length_cons] at h1
    have e1 : (bytesOf a).size = a.length := by rw [← len_eq, bytesOf_to]
    have e2 : (bytesOf b).size = b.length := by rw [← len_eq, bytesOf_to]
    rw [hc]
    show (bytesOf a).size ≤ _ ∧ (bytesOf b).size ≤ _
    omega
  · rw [hc]; exact ⟨Nat.le_refl _, by simp⟩
theorem entOf_size (a : List UInt8) : (entOf a).1.size ≤ a.length := by
  have h := entOf_cut (a := bytesOf a)
  have h2 := (cutP_sizes 61 (bytesOf a)).1
  rw [bytesOf_to] at h
  rw [h]
  rw [← len_eq (bytesOf a), bytesOf_to] at h2
  exact h2
theorem prefix_yes {s : ByteArray} {r : List UInt8} (h : s.data.toList = 100 :: r) : Lib.hasPrefix s.data.toList (ByteArray.mk #[100]).data.toList = true ∧ Lib.trimPrefix s.data.toList (ByteArray.mk #[100]).data.toList = r := by
  have h1 : Lib.hasPrefix s.data.toList (ByteArray.mk #[100]).data.toList = true := by rw [h]; simp [Lib.hasPrefix, List.isPrefixOf]
  refine ⟨h1, ?_⟩
  unfold Lib.trimPrefix
  rw [if_pos h1, h]; rfl
theorem prefix_no {s : ByteArray} (h : ∀ r, s.data.toList ≠ 100 :: r) : Lib.hasPrefix s.data.toList (ByteArray.mk #[100]).data.toList = false := by
  unfold Lib.hasPrefix
  cases hs : s.data.toList with
  | nil => rfl
  | cons x r =>
    cases hp : List.isPrefixOf (ByteArray.mk #[100]).data.toList (x :: r) with
    | false => rfl
    | true =>
      simp [List.isPrefixOf] at hp
      subst hp
      exact absurd hs (h r)
theorem head100 (s : ByteArray) : (∃ r, s.data.toList = 100 :: r) ∨ ∀ r, s.data.toList ≠ 100 :: r := by
  by_cases h : ∃ r, s.data.toList = 100 :: r
  · exact .inl h
  · exact .inr fun r hr => h ⟨r, hr⟩
theorem map_app {o : Option (List Ent)} {out : List Ent} {q : Ent} : (o.map (q :: ·)).map (out ++ ·) = o.map ((out ++ [q]) ++ ·) := by
  cases o with
  | none => rfl
  | some l => simp
end Go.Proofs.Ytigegjgkjahhaaa
