/-
  The walk of chapter 6's law: PutEntry.
-/
import Derived.Test.YtiniadlpgomgjaaLaw6
namespace Go.Proofs.Ytiniadlpgomgjaa
open Go.RowKit
set_option linter.unusedVariables false
theorem box_at {w : World} {cs : Array Value} {t : TypeId} : (w.alloc (.cells cs t)).heap[w.heap.size]? = some (.cells cs t (0, 0)) := heap_alloc_new w _
end Go.Proofs.Ytiniadlpgomgjaa
