/-
  Contracts of chapter 6's program: entries are copied, sought, put in and taken out.
-/
import Derived.Test.YtminmakiahjfbaaEntries2
import Derived.Test.YtminmakiahjfbaaStores
import Derived.Deep.RegionLaw
import Derived.Test.YtminmakiahjfbaaMem
import Derived.Test.YtminmakiahjfbaaChunks
import Derived.Test.YtminmakiahjfbaaArgs
import Derived.Laws.Externs
import Derived.Shelf.RegionOpenPlain
namespace Go.Proofs.Ytminmakiahjfbaa
open Go.RowKit
set_option linter.unusedVariables false
theorem cloneN_any (s : ByteArray) (w : World) (hs : s.size ≤ 2000000) : Calls Try.prog 60 #[.string s] w fun e w' => e = .returned (.string s) ∧ Below w.heap.size w w' := by
  go_enter Try.func60, Try.ntmps60
  go_wp2_with (go_at_call 61; refine (Try.stringslite_Clone s _ (by omega)).mono ?_; rintro e w' ⟨rfl, hb⟩; have HB := Lib.hid hb; clear hb)
  go_ret
  exact ⟨rfl, HB.out⟩
/-! ### the order of names -/
theorem less_trans : ∀ {a b c : List UInt8}, Op.bytesLess a b = true → Op.bytesLess b c = true → Op.bytesLess a c = true
  | _, [], _, h, _ => by simp [Op.bytesLess] at h
  | _, _ :: _, [], _, h => by simp [Op.bytesLess] at h
  | [], _ :: _, _ :: _, _, _ => by simp [Op.bytesLess]
  | x :: a, y :: b, z :: c, h, h' => by
    simp only [Op.bytesLess, Bool.or_eq_true, decide_eq_true_eq, Bool.and_eq_true, beq_iff_eq] at h h' ⊢
    rcases h with h | ⟨rfl, h⟩
    · rcases h' with h' | ⟨rfl, h'⟩
      · exact .inl (UInt8.lt_trans h h')
      · exact .inl h
    · rcases h' with h' | ⟨rfl, h'⟩
      · exact .inl h'
      · exact .inr ⟨rfl, less_trans h h'⟩
theorem less_irrefl : ∀ a : List UInt8, Op.bytesLess a a = false
  | [] => rfl
  | x :: a => by simp [Op.bytesLess, less_irrefl a]
theorem less_conn : ∀ {a b : List UInt8}, Op.bytesLess a b = false → Op.bytesLess b a = false → a = b
  | [], [], _, _ => rfl
  | [], _ :: _, h, _ => by simp [Op.bytesLess] at h
  | _ :: _, [], _, h => by simp [Op.bytesLess] at h
  | x :: a, y :: b, h, h' => by
    simp only [Op.bytesLess, Bool.or_eq_false_iff, decide_eq_false_iff_not, Bool.and_eq_false_iff, beq_eq_false_iff_ne] at h h'
    have e : x = y := UInt8.le_antisymm (UInt8.not_lt.1 h'.1) (UInt8.not_lt.1 h.1)
    subst e
    rw [less_conn (h.2.resolve_left fun k => k rfl) (h'.2.resolve_left fun k => k rfl)]
theorem ltN_trans {a b c : ByteArray} (h : ltN a b = true) (h' : ltN b c = true) : ltN a c = true := less_trans h h'
theorem ltN_irrefl (a : ByteArray) : ltN a a = false := less_irrefl _
theorem ltN_asymm {a b : ByteArray} (h : ltN a b = true) : ltN b a = false := by
  cases h' : ltN b a
  · rfl
  · have := ltN_trans h h'; rw [ltN_irrefl] at this; cases this
/-- Names ascend. -/
def AscE (l : List Ent) : Prop := ∀ i j, i < j → j < l.length → ltN (nthE l i).1 (nthE l j).1 = true
theorem leB_no {a b : ByteArray} (h : leB a b = false) : ltN b a = true := by
  unfold leB at h
  rw [Bool.or_eq_false_iff] at h
  cases h' : ltN b a
  · have := less_conn h.1 h'
    rw [this] at h; simp at h
  · rfl
theorem leB_of {a b : ByteArray} (h : ltN b a = true) : leB a b = false := by
  unfold leB
  have h1 : Op.bytesLess a.toList b.toList = false := ltN_asymm h
  rw [h1, Bool.false_or]
  cases h2 : (a.toList == b.toList)
  · rfl
  · unfold ltN at h; rw [eq_of_beq h2, less_irrefl] at h; cases h
theorem ents_asc {l : List Ent} (h : entsB l = true) : AscE l := by
  have h2 := (entsB_at h).2
  intro i j hij
  induction j with
  | zero => omega
  | succ j ih =>
    intro hj
    have h3 := h2 (j + 1) hj
    unfold okE at h3
    simp only [Bool.and_eq_true, Bool.or_eq_true, decide_eq_true_eq, Nat.add_eq_zero_iff, Nat.one_ne_zero, and_false, false_or, Bool.not_eq_true', Nat.add_sub_cancel] at h3
    have h4 := leB_no h3.2
    rcases Nat.lt_or_eq_of_le (Nat.le_of_lt_succ hij) with h5 | rfl
    · exact ltN_trans (ih h5 (by omega)) h4
    · exact h4
/-! ### rows -/
end Go.Proofs.Ytminmakiahjfbaa
/-
  Contracts of chapter 6's program: an entry is taken out.
-/
namespace Go.Proofs.Ytminmakiahjfbaa
open Go.RowKit
set_option linter.unusedVariables false
end Go.Proofs.Ytminmakiahjfbaa
