/-
  append in regions that draw their order.
-/
import Derived.Test.YtlbebbkkpjgboaaLst
namespace Go.Proofs.Ytlbebbkkpjgboaa
open Go.RowKit
set_option linter.unusedVariables false
section
variable {ops : Array Oper} {o : Oper} {a : Act} {Q : Exit → Act → World → Prop} {K : Act → World → Prop} {P0 : Prop} {t e : TypeId} {size : Nat} {z : Value} {w w0 : World}
/-- append in a region that draws: what lay below 'base' reads on. -/
theorem step_appK {α : Type} {g : α → List Value} (T : Elt t e size z) (E : Enc g size) {base m c B n0 c0 : Nat} {v : Value} {x x0 : Option Addr} {l l' l0 : List α} (hown : OwnL g e size w base v l) (hr : ∃ B1, Lst g w B1 x m c l') (hs0 : Lst g w B x0 n0 c0 l0) (hbel : Below base w0 w) (hbase : base ≤ w.heap.size) (hBb : B ≤ base) (hn : l.length ≤ 2000000) (hm : m ≤ 2000000)
    (hgd : o.guard = none) (s y : Operand) (ho : o.op = .call { callee := .builtin .append, args := #[s, y], argTypes := #[t, t] }) (hs : a.eval s = v) (hy : a.eval y = .slice x m c)
    (h : ∀ v' w', OwnL g e size w' base v' (l ++ l') → Lst g w' B x0 n0 c0 l0 → Below base w0 w' → base ≤ w'.heap.size → K (a.put o.dst v') w') :
    if Region.wanted o (yielded ops a.tmps) = true then Oper.wp Try.prog o a w K Q else P0 := by
  obtain ⟨B1, hr⟩ := hr
  exact step_appL T E hown hr hn hm hbase hgd s y ho hs hy fun v' w' h1 h2 _ => h v' w' h1 (hs0.grown h2 (Nat.le_trans hBb hbase) fun k e => Nat.le_trans hBb (hown.at k e)) (hbel.grown h2 hbase fun k e => hown.at k e) (Nat.le_trans hbase h2.size)
/-- .. and an element's block reads on. -/
theorem step_appKE {α : Type} {g : α → List Value} (T : Elt t e size z) (E : Enc g size) {base m c B n0 c0 kE gv nv cv : Nat} {x x0 : Option Addr} {l l' l0 : List α} {u : α} (hown : OwnL g e size w base (.slice (some ⟨gv, 0, none⟩) nv cv) l) (hr : ∃ B1, Lst g w B1 x m c l') (hs0 : Lst g w B x0 n0 c0 l0) (hbel : Below base w0 w) (hE : OneAt g e w kE u) (hbase : base ≤ w.heap.size) (hBb : B ≤ base) (hne : kE ≠ gv) (hn : l.length ≤ 2000000) (hm : m ≤ 2000000)
    (hgd : o.guard = none) (s y q : Operand) (ho : o.op = .call { callee := .builtin .append, args := #[s, y], argTypes := #[t, t] }) (hs : a.eval s = .slice (some ⟨gv, 0, none⟩) nv cv) (hy : a.eval y = .slice x m c) (hq : a.eval q = .slice (some ⟨kE, 0, none⟩) 1 1)
    (h : ∀ v' w', OwnL g e size w' base v' (l ++ l') → Lst g w' B x0 n0 c0 l0 → Below base w0 w' → base ≤ w'.heap.size → OneAt g e w' kE u → K (a.put o.dst v') w') :
    if Region.wanted o (yielded ops a.tmps) = true then Oper.wp Try.prog o a w K Q else P0 := by
  obtain ⟨B1, hr⟩ := hr
  exact step_appL T E hown hr hn hm hbase hgd s y ho hs hy fun v' w' h1 h2 _ => h v' w' h1 (hs0.grown h2 (Nat.le_trans hBb hbase) fun k e => Nat.le_trans hBb (hown.at k e)) (hbel.grown h2 hbase fun k e => hown.at k e) (Nat.le_trans hbase h2.size) (hE.grown h2 (by simp [Value.ownBlock]; exact hne))
/-- append in a region that draws: what lay below 'base' stays. -/
theorem step_appB {α : Type} {g : α → List Value} (T : Elt t e size z) (E : Enc g size) {base m c : Nat} {v : Value} {x : Option Addr} {l l' : List α} (hown : OwnL g e size w base v l) (hr : ∃ B1, Lst g w B1 x m c l') (hbel : Below base w0 w) (hbase : base ≤ w.heap.size) (hn : l.length ≤ 2000000) (hm : m ≤ 2000000)
    (hgd : o.guard = none) (s y : Operand) (ho : o.op = .call { callee := .builtin .append, args := #[s, y], argTypes := #[t, t] }) (hs : a.eval s = v) (hy : a.eval y = .slice x m c)
    (h : ∀ v' w', OwnL g e size w' base v' (l ++ l') → Below base w0 w' → base ≤ w'.heap.size → K (a.put o.dst v') w') :
    if Region.wanted o (yielded ops a.tmps) = true then Oper.wp Try.prog o a w K Q else P0 := by
  obtain ⟨B1, hr⟩ := hr
  exact step_appL T E hown hr hn hm hbase hgd s y ho hs hy fun v' w' h1 h2 _ => h v' w' h1 (hbel.grown h2 hbase fun k e => hown.at k e) (Nat.le_trans hbase h2.size)
/-- .. and an element's block reads on. -/
theorem step_appBE {α : Type} {g : α → List Value} (T : Elt t e size z) (E : Enc g size) {base m c kE gv nv cv : Nat} {x : Option Addr} {l l' : List α} {u : α} (hown : OwnL g e size w base (.slice (some ⟨gv, 0, none⟩) nv cv) l) (hr : ∃ B1, Lst g w B1 x m c l') (hbel : Below base w0 w) (hE : OneAt g e w kE u) (hbase : base ≤ w.heap.size) (hne : kE ≠ gv) (hn : l.length ≤ 2000000) (hm : m ≤ 2000000)
    (hgd : o.guard = none) (s y q : Operand) (ho : o.op = .call { callee := .builtin .append, args := #[s, y], argTypes := #[t, t] }) (hs : a.eval s = .slice (some ⟨gv, 0, none⟩) nv cv) (hy : a.eval y = .slice x m c) (hq : a.eval q = .slice (some ⟨kE, 0, none⟩) 1 1)
    (h : ∀ v' w', OwnL g e size w' base v' (l ++ l') → Below base w0 w' → base ≤ w'.heap.size → OneAt g e w' kE u → K (a.put o.dst v') w') :
    if Region.wanted o (yielded ops a.tmps) = true then Oper.wp Try.prog o a w K Q else P0 := by
  obtain ⟨B1, hr⟩ := hr
  exact step_appL T E hown hr hn hm hbase hgd s y ho hs hy fun v' w' h1 h2 _ => h v' w' h1 (hbel.grown h2 hbase fun k e => hown.at k e) (Nat.le_trans hbase h2.size) (hE.grown h2 (by simp [Value.ownBlock]; exact hne))
end
theorem le_drewN {a n : Nat} {w : World} (h : a ≤ w.heap.size) : a ≤ (w.drewN n).heap.size := h
theorem eq_drewN {a n : Nat} {w : World} (h : a = w.heap.size) : a = (w.drewN n).heap.size := h
theorem OneAt.drewN {α : Type} {g : α → List Value} {e : TypeId} {w : World} {k : Nat} {u : α} (h : OneAt g e w k u) (n : Nat) : OneAt g e (w.drewN n) k u := h
end Go.Proofs.Ytlbebbkkpjgboaa
