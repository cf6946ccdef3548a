/-
  Lists of changes: rows of a text and a number, as entries are, of another type.
-/
import Derived.Test.YtglajbmopiolhaaGreatDoorFold
namespace Go.Proofs.YtglajbmopiolhaaGreatDoor
open Go.RowKit
set_option linter.unusedVariables false
abbrev OwnC (w : World) (base : Nat) (v : Value) (l : List Ent) : Prop := OwnL enG 40 2 w base v l
theorem Tryz.infoCh : (Tryz.prog.info? 40).map (fun i => (i.zero, i.size, i.bytes)) = some (some (.agg #[.string ByteArray.empty, .int .i64 0]), 2, 24) := by kernel_rfl
theorem eltCh : Elt 29 40 2 (.agg #[.string ByteArray.empty, .int .i64 0]) := elt_of Tryz.underlying29 Tryz.infoCh (by decide) rfl (by decide)
/-- A list of changes of the call's own is handed back. -/
def NewC (l : List Ent) (w : World) (e : Ending) (w' : World) : Prop := ∃ v, e = .returned v ∧ OwnC w' w.heap.size v l ∧ Below w.heap.size w w'
end Go.Proofs.YtglajbmopiolhaaGreatDoor
