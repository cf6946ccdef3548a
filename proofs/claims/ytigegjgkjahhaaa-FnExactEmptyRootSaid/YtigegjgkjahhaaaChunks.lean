/-
  Plain functions of chapter 3 (chunks), and their laws; nothing of the program is imported.
-/
import Derived.Test.YtigegjgkjahhaaaWords
import Derived.Test.YtigegjgkjahhaaaMem
import Derived.Test.YtigegjgkjahhaaaHelp
import Derived.Test.YtigegjgkjahhaaaPrints
import Derived.Test.YtigegjgkjahhaaaShelf
namespace Go.Proofs.Ytigegjgkjahhaaa
set_option linter.unusedVariables false
/-! ### where chunks lie -/
/-- The ends l ascend, from a on, to at most b. -/
def Asc (a b : Int) : List Int → Prop
  | [] => a ≤ b
  | e :: r => a < e ∧ Asc e b r
theorem Asc.le {a b : Int} {l : List Int} (h : Asc a b l) : a ≤ b := by
  induction l generalizing a with
  | nil => exact h
  | cons e r ih => have := ih h.2; have := h.1; omega
theorem Asc.length {a b : Int} {l : List Int} (h : Asc a b l) : (l.length : Int) ≤ b - a := by
  induction l generalizing a with
  | nil => have : a ≤ b := h; simp; omega
  | cons e r ih => have := ih h.2; have := h.1; simp; omega
/-! ### joined -/
end Go.Proofs.Ytigegjgkjahhaaa
/-
  Contracts of chapter 3: chunks.
-/
namespace Go.Proofs.Ytigegjgkjahhaaa
open Go.RowKit
set_option linter.unusedVariables false
end Go.Proofs.Ytigegjgkjahhaaa
/-
  Contracts of chapter 3: the chunks themselves, and their prints.
-/
namespace Go.Proofs.Ytigegjgkjahhaaa
open Go.RowKit
set_option linter.unusedVariables false
theorem clone_any (s : ByteArray) (w : World) (hs : s.size ≤ 1000000) : Calls Try.prog 38 #[.string s] w fun e w' => e = .returned (.string s) ∧ Below w.heap.size w w' := by
  go_enter Try.func38, Try.ntmps38
  go_wp2_with (go_at_call 45; refine (Try.stringslite_Clone s _ (by omega)).mono ?_; rintro e w' ⟨rfl, hb⟩; have HB := Lib.hid hb; clear hb)
  go_ret
  exact ⟨rfl, HB.out⟩
end Go.Proofs.Ytigegjgkjahhaaa
