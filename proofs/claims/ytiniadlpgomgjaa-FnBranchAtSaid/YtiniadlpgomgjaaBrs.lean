/-
  Lists of branches: rows of a text and a number, as entries are, of another type.
-/
import Derived.Test.YtiniadlpgomgjaaFold
namespace Go.Proofs.Ytiniadlpgomgjaa
open Go.RowKit
set_option linter.unusedVariables false
abbrev OwnBr (w : World) (base : Nat) (v : Value) (l : List Ent) : Prop := OwnL enG 29 2 w base v l
theorem Try.infoBr : (Try.prog.info? 29).map (fun i => (i.zero, i.size, i.bytes)) = some (some (.agg #[.string ByteArray.empty, .int .i64 0]), 2, 24) := by kernel_rfl
theorem eltBr : Elt 23 29 2 (.agg #[.string ByteArray.empty, .int .i64 0]) := elt_of Try.underlying23 Try.infoBr (by decide) rfl (by decide)
/-- A list of branches of the call's own is handed back. -/
def NewBr (l : List Ent) (w : World) (e : Ending) (w' : World) : Prop := ∃ v, e = .returned v ∧ OwnBr w' w.heap.size v l ∧ Below w.heap.size w w'
/-- .. and whether. -/
def NewBrB (l : List Ent) (b : Bool) (w : World) (e : Ending) (w' : World) : Prop := ∃ v, e = .returned (.tuple #[v, .bool b]) ∧ OwnBr w' w.heap.size v l ∧ Below w.heap.size w w'
theorem newBrB_of {l l' : List Ent} {b b' : Bool} {w w' : World} {e : Ending} (h : l = l' ∧ b = b') (hx : NewBrB l' b' w e w') : NewBrB l b w e w' := by rw [h.1, h.2]; exact hx
end Go.Proofs.Ytiniadlpgomgjaa
