/-
  Plain functions of chapter 3 (chunks), and their laws; nothing of the program is imported.
-/
import Derived.Test.YtiniadlpgomgjaaWords
import Derived.Test.YtiniadlpgomgjaaMem
import Derived.Test.YtiniadlpgomgjaaHelp
import Derived.Test.YtiniadlpgomgjaaPrints
import Derived.Test.YtiniadlpgomgjaaShelf
namespace Go.Proofs.Ytiniadlpgomgjaa
set_option linter.unusedVariables false
/-! ### where chunks lie -/
/-- The ends l ascend, from a on, to at most b. -/
def Asc (a b : Int) : List Int → Prop
  | [] => a ≤ b
  | e :: r => a < e ∧ Asc e b r
theorem Asc.le {a b : Int} {l : List Int} (h : Asc a b l) : a ≤ b := by
  induction l generalizing a with
  | nil => exact h
  | cons e r ih => have := ih h.2; have := h.1; omega
theorem Asc.length {a b : Int} {l : List Int} (h : Asc a b l) : (l.length : Int) ≤ b - a := by
  induction l generalizing a with
  | nil => have : a ≤ b := h; simp; omega
  | cons e r ih => have := ih h.2; have := h.1; simp; omega
/-! ### joined -/
end Go.Proofs.Ytiniadlpgomgjaa
/-
  Contracts of chapter 3: chunks.
-/
namespace Go.Proofs.Ytiniadlpgomgjaa
open Go.RowKit
set_option linter.unusedVariables false
end Go.Proofs.Ytiniadlpgomgjaa
/-
  Contracts of chapter 3: the chunks themselves, and their prints.
-/
namespace Go.Proofs.Ytiniadlpgomgjaa
open Go.RowKit
set_option linter.unusedVariables false
end Go.Proofs.Ytiniadlpgomgjaa
