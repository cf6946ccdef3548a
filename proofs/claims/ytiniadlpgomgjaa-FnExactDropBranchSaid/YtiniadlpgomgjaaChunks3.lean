/-
  Contracts of chapter 3: prints of chunks; joined texts.
-/
import Derived.Test.YtiniadlpgomgjaaChunks
import Derived.Lib.AppendStr
import Derived.Laws.BytesArg
import Derived.Test.YtiniadlpgomgjaaDraw0
import Derived.Test.YtiniadlpgomgjaaHelp
namespace Go.Proofs.Ytiniadlpgomgjaa
open Go.RowKit
set_option linter.unusedVariables false
/-! ### joined texts -/
/-- A row of bytes of a call's own, that reads as the text t. -/
def OwnB (w : World) (base : Nat) (v : Value) (t : ByteArray) : Prop := w.ownsRow base 5 1 v t.size (Lib.strCells t)
theorem OwnB.nil (w : World) (base : Nat) : OwnB w base (.slice none 0 0) ByteArray.empty := World.ownsRow_nil w base _ 1
theorem OwnB.at {w : World} {base : Nat} {v : Value} {t : ByteArray} (h : OwnB w base v t) : ∀ k, v.ownBlock = some k → base ≤ k := fun k hk => own_at h hk
section
variable {ops : Array Oper} {rest : List Oper} {o : Oper} {a : Act} {Q : Exit → Act → World → Prop} {w : World}
end
end Go.Proofs.Ytiniadlpgomgjaa
/-
  Draws of chapter 3.
-/
namespace Go.Proofs.Ytiniadlpgomgjaa
open Go.RowKit
set_option linter.unusedVariables false
theorem own_keptL {α : Type} {g : α → List Value} {e : TypeId} {size : Nat} {w w' : World} {base r : Nat} {v : Value} {l : List α} (h : OwnL g e size w base v l) (hg : w.grownBy w' (some r)) (hr : r < base) : OwnL g e size w' base v l :=
  World.ownsRow.kept h hg (by
    rcases hv : v.ownBlock with _ | k
    · exact .inl rfl
    · right; intro e; injection e with e; have := own_at h hv; omega)
end Go.Proofs.Ytiniadlpgomgjaa
/-
  The walks of chapter 3's exact laws.
-/
namespace Go.Proofs.Ytiniadlpgomgjaa
open Go.RowKit
set_option linter.unusedVariables false
end Go.Proofs.Ytiniadlpgomgjaa
