/-
  Contracts of chapter 8's program: paths of words, their parts, a path below another one.
-/
import Derived.Test.YtcmdfjhnfhacfaaFold4
import Derived.Test.YtcmdfjhnfhacfaaPaths8
import Derived.Test.YtcmdfjhnfhacfaaImpl7
import Derived.Test.YtcmdfjhnfhacfaaShelf
import Derived.Shelf.Strings.SplitCore
import Derived.Lib.SplitLaws
import Derived.Lib.Join
namespace Go.Proofs.Ytcmdfjhnfhacfaa
open Go.RowKit
set_option linter.unusedVariables false
/-! ### a text divided at its signs -/
theorem slashed_add (a b : List ByteArray) : (slashed (a ++ b)).data.toList = (slashed a).data.toList ++ (slashed b).data.toList := by
  induction a with
  | nil => rfl
  | cons s a ih => rw [List.cons_append, slashed_cons, slashed_cons, ih]; simp
theorem slashed_one (p : ByteArray) : (slashed [p]).data.toList = 47 :: p.data.toList := by rw [slashed_cons]; simp [slashed, joinB]
/-- Words that a path may have. -/
def okW (l : List ByteArray) : Bool := l.all wordB && decide (l.length ≤ 3)
theorem path_ok {l : List ByteArray} (h0 : l ≠ []) (h : okW l = true) : pathB l = slashed l := by unfold okW at h; unfold pathB; rw [if_neg h0, if_pos h]
/-! ### the library's functions at texts -/
/-! ### the program's functions -/
end Go.Proofs.Ytcmdfjhnfhacfaa
