/-
  Draws of chapter 6: entries, folders' texts.
-/
import Derived.Test.YtiniadlpgomgjaaFold3
import Derived.Test.YtiniadlpgomgjaaPrints
import Derived.Test.YtiniadlpgomgjaaDraw0
import Derived.Test.YtiniadlpgomgjaaChunks3
namespace Go.Proofs.Ytiniadlpgomgjaa
open Go.RowKit
set_option linter.unusedVariables false
theorem words_size : ∀ s ∈ words1 ++ words2, s.size ≤ 9 := by decide +kernel
/-- Names of at most nine bytes. -/
def Nines (l : List Ent) : Prop := ∀ k, (nthE l k).1.size ≤ 9
theorem nines_nil : Nines [] := fun k => by simp [nthE]
theorem nines_snoc {l : List Ent} {p : Ent} (h : Nines l) (hp : p.1.size ≤ 9) : Nines (l ++ [p]) :=
  nthE_all.2 fun q hq => by
    rcases List.mem_append.1 hq with h1 | h1
    · exact nthE_all.1 h q h1
    · rw [List.mem_singleton] at h1; subst h1; exact hp
/-! ### what is drawn, at the laws -/
theorem nines_max {l : List Ent} (h : Nines l) : ∀ k, (nthE l k).1.size ≤ maxLen := fun k => Nat.le_trans (h k) (by unfold maxLen; omega)
theorem grown_set6 (w : World) (a : Addr) (u : Value) : w.grownBy (w.setCell a u) (some a.block) :=
  ⟨rfl, rfl, rfl, by simp [World.setCell], fun k hk hne => Below.heap_setCell _ _ _ _ (by intro e; exact hne (by rw [e]))⟩
end Go.Proofs.Ytiniadlpgomgjaa
