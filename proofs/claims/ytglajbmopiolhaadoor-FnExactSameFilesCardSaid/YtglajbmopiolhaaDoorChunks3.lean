/-
  Contracts of chapter 3: prints of chunks; joined texts.
-/
import Derived.Test.YtglajbmopiolhaaDoorChunks
import Derived.Lib.AppendStr
import Derived.Laws.BytesArg
import Derived.Test.YtglajbmopiolhaaDoorDraw0
import Derived.Test.YtglajbmopiolhaaDoorHelp
namespace Go.Proofs.YtglajbmopiolhaaDoor
open Go.RowKit
set_option linter.unusedVariables false
/-! ### joined texts -/
/-- A row of bytes of a call's own, that reads as the text t. -/
def OwnB (w : World) (base : Nat) (v : Value) (t : ByteArray) : Prop := w.ownsRow base 5 1 v t.size (Lib.strCells t)
theorem OwnB.nil (w : World) (base : Nat) : OwnB w base (.slice none 0 0) ByteArray.empty := World.ownsRow_nil w base _ 1
theorem OwnB.at {w : World} {base : Nat} {v : Value} {t : ByteArray} (h : OwnB w base v t) : ∀ k, v.ownBlock = some k → base ≤ k := fun k hk => own_at h hk
section
variable {ops : Array Oper} {rest : List Oper} {o : Oper} {a : Act} {Q : Exit → Act → World → Prop} {w : World}
end
end Go.Proofs.YtglajbmopiolhaaDoor
/-
  Draws of chapter 3.
-/
namespace Go.Proofs.YtglajbmopiolhaaDoor
open Go.RowKit
set_option linter.unusedVariables false
end Go.Proofs.YtglajbmopiolhaaDoor
/-
  The walks of chapter 3's exact laws.
-/
namespace Go.Proofs.YtglajbmopiolhaaDoor
open Go.RowKit
set_option linter.unusedVariables false
end Go.Proofs.YtglajbmopiolhaaDoor
