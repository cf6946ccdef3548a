/-
  Chapter 9's model: WalkTo, ReadAt, NamesAt.
-/
import Derived.Test.YtcmdfjhnfhacfaaGreatDoorDrop
import Derived.Test.YtcmdfjhnfhacfaaGreatDoorPaths8
import Derived.Test.YtcmdfjhnfhacfaaGreatDoorFold3
namespace Go.Proofs.YtcmdfjhnfhacfaaGreatDoor
open Go.RowKit
set_option linter.unusedVariables false
def wtB (l : List Pc) (root : Int) (path : ByteArray) : Int × Bool := if (isPath path && storeB l) = true then walkB l root (partsB path) else (-1, false)
theorem wtB_no {l : List Pc} {root : Int} {path : ByteArray} (h : isPath path = false ∨ storeB l = false) : wtB l root path = (-1, false) := by
  unfold wtB; rcases h with h | h <;> rw [h] <;> simp
theorem wtB_yes {l : List Pc} {root : Int} {path : ByteArray} (h : isPath path = true) (h' : storeB l = true) : wtB l root path = walkB l root (partsB path) := by unfold wtB; rw [h, h']; rfl
theorem gotT_size {l : List Pc} {p : Int} {m : Nat} (h : ∀ k, (nthP l k).2.size ≤ m) : (gotT l p).size ≤ m := by
  unfold gotT; split
  · exact getT_size h
  · simp
theorem mil_max {l : List Pc} (h : ∀ k, (nthP l k).2.size ≤ 1048576) : ∀ k, (nthP l k).2.size ≤ maxLen := fun k => Nat.le_trans (h k) (by unfold maxLen; omega)
/-- What is read at a path. -/
def rdB (l : List Pc) (root : Int) (path : ByteArray) : ByteArray × Bool := if (wtB l root path).2 = true then (fileT (gotT l (wtB l root path).1), isFile (gotT l (wtB l root path).1)) else (ByteArray.empty, false)
def BelowTB (p : ByteArray × Bool) (w : World) (e : Ending) (w' : World) : Prop := e = .returned (.tuple #[.string p.1, .bool p.2]) ∧ Below w.heap.size w w'
theorem belowTB_of {p : ByteArray × Bool} {s : ByteArray} {b : Bool} {w w' : World} (h : p = (s, b)) (hb : Below w.heap.size w w') : BelowTB p w (.returned (.tuple #[.string s, .bool b])) w' := by rw [h]; exact ⟨rfl, hb⟩
/-- The names at a path. -/
def nmB (l : List Pc) (root : Int) (path : ByteArray) : List ByteArray × Bool := if ((wtB l root path).2 && isFold (gotT l (wtB l root path).1)) = true then ((foldL (gotT l (wtB l root path).1)).map (·.1), true) else ([], false)
theorem newSB_put {L : List ByteArray} {b : Bool} {pr : List ByteArray × Bool} {w w' : World} {v : Value} (h : pr = (L, b)) (ho : OwnS w' w.heap.size v L) (hb : Below w.heap.size w w') : NewSB pr.1 pr.2 w (.returned (.tuple #[v, .bool b])) w' := by rw [h]; exact ⟨v, rfl, ho, hb⟩
theorem names_step {l : List Ent} {k : Nat} (h : k < l.length) : (l.take (k + 1)).map (·.1) = (l.take k).map (·.1) ++ [(nthE l k).1] := by rw [take_snocE h, List.map_append]; rfl
end Go.Proofs.YtcmdfjhnfhacfaaGreatDoor
