/-
  The draws of chapters 10 and 11: a store alone; a store, a root and a path, with a content; a store and a root, with a word.
-/
import Derived.Test.YtglajbmopiolhaaDraw14
namespace Go.Proofs.Ytglajbmopiolhaa
open Go.RowKit
set_option linter.unusedVariables false
theorem Bytes.up {w w' : World} {x : Option Addr} {n : Nat} (h : Bytes w.heap.size w x n) (hb : Below w.heap.size w w') : Bytes w'.heap.size w' x n := fun i hi => by
  obtain ⟨b, off, z, e1, e2, e3⟩ := h.keep (fun k hk => hb.block k hk) i hi
  exact ⟨b, off, z, e1, Nat.lt_of_lt_of_le e2 hb.size, e3⟩
/-! ### a store, a root, a path and a content -/
end Go.Proofs.Ytglajbmopiolhaa
