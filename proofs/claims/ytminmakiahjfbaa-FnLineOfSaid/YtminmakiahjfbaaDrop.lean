/-
  Chapter 10's model: a name is dropped.
-/
import Derived.Test.YtminmakiahjfbaaEnts
import Derived.Test.YtminmakiahjfbaaEntries2
import Derived.Deep.CutRange
import Derived.Deep.CutBlock
namespace Go.Proofs.Ytminmakiahjfbaa
open Go.RowKit
set_option linter.unusedVariables false
end Go.Proofs.Ytminmakiahjfbaa
/-
  Chapter 10's model: writing and dropping at a path.
-/
namespace Go.Proofs.Ytminmakiahjfbaa
open Go.RowKit
set_option linter.unusedVariables false
section
variable {ops : Array Oper} {rest : List Oper} {o : Oper} {a : Act} {Q : Exit → Act → World → Prop}
variable {t e : TypeId} {size : Nat} {z : Value} {w : World}
/-- A list appended to a new row: a row of the call's own with the list in it. -/
theorem wpList_fresh {α : Type} {g : α → List Value} (T : Elt t e size z) (E : Enc g size) {B m c : Nat} {x : Option Addr} {l : List α} (hr : Lst g w B x m c l) (hB : B ≤ w.heap.size) (hm : m ≤ 2000000)
    (hgd : o.guard = none) (s y : Operand) (ho : o.op = .call { callee := .builtin .append, args := #[s, y], argTypes := #[t, t] }) (hs : a.eval s = .slice (some ⟨w.heap.size, 0, none⟩) 0 0) (hy : a.eval y = .slice x m c)
    (h : ∀ v' w', OwnL g e size w' w.heap.size v' l → Below w.heap.size w w' → wpList Try.prog ops Q rest (a.put o.dst v') w') : wpList Try.prog ops Q (o :: rest) a (w.alloc (.cells #[] e)) :=
  wpList_appL T E (OwnL.newAt g e (size := size) (base := w.heap.size) rfl (Nat.le_refl _)) (hr.alloc hB _) (Nat.zero_le _) hm (le_alloc (Nat.le_refl _) _) hgd s y ho hs hy fun v' w' hown hgr hat =>
    h v' w' (by simpa using hown) (((Below.refl w.heap.size w).alloc (Nat.le_refl _) _).grown hgr (le_alloc (Nat.le_refl _) _) (fun q e' => OwnL.at (OwnL.newAt g e (size := size) (base := w.heap.size) rfl (Nat.le_refl _)) q e'))
end
end Go.Proofs.Ytminmakiahjfbaa
/-
  Chapter 10's model: dropping at a path.
-/
namespace Go.Proofs.Ytminmakiahjfbaa
open Go.RowKit
set_option linter.unusedVariables false
end Go.Proofs.Ytminmakiahjfbaa
