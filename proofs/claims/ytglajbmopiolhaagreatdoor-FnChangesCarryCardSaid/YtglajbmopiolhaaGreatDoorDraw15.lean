/-
  The draws of chapters 10 and 11: a store alone; a store, a root and a path, with a content; a store and a root, with a word.
-/
import Derived.Test.YtglajbmopiolhaaGreatDoorDraw14
namespace Go.Proofs.YtglajbmopiolhaaGreatDoor
open Go.RowKit
set_option linter.unusedVariables false
theorem Bytes.up {w w' : World} {x : Option Addr} {n : Nat} (h : Bytes w.heap.size w x n) (hb : Below w.heap.size w w') : Bytes w'.heap.size w' x n := fun i hi => by
  obtain ⟨b, off, z, e1, e2, e3⟩ := h.keep (fun k hk => hb.block k hk) i hi
  exact ⟨b, off, z, e1, Nat.lt_of_lt_of_le e2 hb.size, e3⟩
/-! ### a store, a root, a path and a content -/
theorem results_four {fn : Func} {t u v x : Tmp} (h : fn.results = #[.tmp t, .tmp u, .tmp v, .tmp x]) (tmps : Array Value) (P : Program) (w : World) :
    (results fn tmps).run P w = .ok (.tuple #[tmps.getD t undef, tmps.getD u undef, tmps.getD v undef, tmps.getD x undef]) w := by
  simp [results, h]
end Go.Proofs.YtglajbmopiolhaaGreatDoor
