/-
  Texts of folders: reading what was written, and only that.
-/
import Derived.Test.YtiniadlpgomgjaaEntries2
namespace Go.Proofs.Ytiniadlpgomgjaa
open Go.RowKit
set_option linter.unusedVariables false
def okP (p : Ent) : Prop := wordB p.1 = true ∧ isPr p.2 = true
theorem ents_ok {l : List Ent} (h : entsB l = true) : ∀ p ∈ l, okP p := by
  intro p hp
  obtain ⟨k, hk, rfl⟩ := List.mem_iff_getElem.1 hp
  have := okE_word ((entsB_at h).2 k hk)
  rw [nthE_get hk] at this
  exact this
/-! ### the model reads what was written -/
/-! ### the program's reading is the model's -/
end Go.Proofs.Ytiniadlpgomgjaa
