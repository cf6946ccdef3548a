/-
  Chapter 10's model: a print is set at names.
-/
import Derived.Test.YtigegjgkjahhaaaEnts
import Derived.Test.YtigegjgkjahhaaaEntries2
import Derived.Deep.CutRange
namespace Go.Proofs.Ytigegjgkjahhaaa
open Go.RowKit
set_option linter.unusedVariables false
/-- A store that can be read, a print and a bool. -/
def RdPut (t : List Pc × Int × Bool) (w : World) (e : Ending) (w' : World) : Prop := ∃ x n c, e = .returned (.tuple #[.slice x n c, .int .i64 t.2.1, .bool t.2.2]) ∧ Pcs w' w'.heap.size x n c t.1 ∧ Below w.heap.size w w'
theorem ents_sizes {l : List Ent} (h : entsB l = true) (k : Nat) : (nthE l k).1.size ≤ 8 := by
  by_cases hk : k < l.length
  · exact word_size (okE_word ((entsB_at h).2 k hk)).1
  · unfold nthE; rw [List.getD_eq_getElem?_getD, List.getElem?_eq_none (by omega)]; simp
theorem textE_size {l : List Ent} (h : entsB l = true) : (textE l).size ≤ 49 := by
  have key : ∀ k, k ≤ l.length → (textE (l.take k)).size ≤ 1 + 16 * k := by
    intro k
    induction k with
    | zero => intro _; rw [List.take_zero]; decide
    | succ k ih =>
      intro hk
      rw [textE_snoc (by omega)]
      unfold addE
      have h1 := ih (by omega)
      have h2 := ents_sizes h k
      have h3 := hexB_size (nthE l k).2
      rw [ByteArray.size_append, ByteArray.size_append, ByteArray.size_append, ByteArray.size_append]
      have e1 : (ByteArray.mk #[61]).size = 1 := rfl
      have e2 : (ByteArray.mk #[59]).size = 1 := rfl
      omega
  have h1 := key l.length (Nat.le_refl _)
  rw [List.take_length] at h1
  have := (entsB_at h).1
  omega
theorem folderB_size (l : List Ent) : (folderB l).size ≤ 49 := by
  cases h : entsB l
  · rw [folderB_no h]; decide
  · rw [folderB_yes h]; exact textE_size h
end Go.Proofs.Ytigegjgkjahhaaa
