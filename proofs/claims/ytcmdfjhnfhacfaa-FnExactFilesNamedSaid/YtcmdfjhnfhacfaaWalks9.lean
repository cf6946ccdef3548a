/-
  Chapter 9's model: WalkTo, ReadAt, NamesAt.
-/
import Derived.Test.YtcmdfjhnfhacfaaDrop
import Derived.Test.YtcmdfjhnfhacfaaPaths8
import Derived.Test.YtcmdfjhnfhacfaaFold3
namespace Go.Proofs.Ytcmdfjhnfhacfaa
open Go.RowKit
set_option linter.unusedVariables false
theorem gotT_size {l : List Pc} {p : Int} {m : Nat} (h : ∀ k, (nthP l k).2.size ≤ m) : (gotT l p).size ≤ m := by
  unfold gotT; split
  · exact getT_size h
  · simp
theorem mil_max {l : List Pc} (h : ∀ k, (nthP l k).2.size ≤ 1048576) : ∀ k, (nthP l k).2.size ≤ maxLen := fun k => Nat.le_trans (h k) (by unfold maxLen; omega)
def BelowTB (p : ByteArray × Bool) (w : World) (e : Ending) (w' : World) : Prop := e = .returned (.tuple #[.string p.1, .bool p.2]) ∧ Below w.heap.size w w'
theorem belowTB_of {p : ByteArray × Bool} {s : ByteArray} {b : Bool} {w w' : World} (h : p = (s, b)) (hb : Below w.heap.size w w') : BelowTB p w (.returned (.tuple #[.string s, .bool b])) w' := by rw [h]; exact ⟨rfl, hb⟩
end Go.Proofs.Ytcmdfjhnfhacfaa
