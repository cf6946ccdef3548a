/-
  A call of a function as a step of a region that draws, by its contract.
-/
import Derived.Test.YtpjndkiclfoanaaLst
import Derived.Shelf.Abstract
import Derived.Deep.RegionLaw
namespace Go.Proofs.Ytpjndkiclfoanaa
open Go.RowKit
set_option linter.unusedVariables false
theorem step_call1 {ops : Array Oper} {o : Oper} {a : Act} {Q : Exit → Act → World → Prop} {K : Act → World → Prop} {P0 : Prop} {w : World} {f : FuncId} (he : Enters Try.prog f) (hgd : o.guard = none) (x : Operand) (t : TypeId)
    (ho : o.op = .call { callee := .value (.func f), args := #[x], argTypes := #[t] }) (v : Value) (hx : a.eval x = v) {R : Ending → World → Prop} (hc : Calls Try.prog f #[v] w R) (h : ∀ e w', R e w' → ∃ r, e = .returned r ∧ K (a.put o.dst r) w') :
    if Region.wanted o (yielded ops a.tmps) = true then Oper.wp Try.prog o a w K Q else P0 := by
  have hw : Region.wanted o (yielded ops a.tmps) = true := by simp [Region.wanted, hgd]
  rw [if_pos hw]
  have hrun : (execOp a.eval o).run Try.prog w = .ok (.enter f #[v]) w := by
    have hf : a.eval (.func f) = .func (.func f) #[] #[] := rfl
    have he' : ∀ (args : Array Value) (w : World), (callFunc f args).run Try.prog w = .ok (.enter f args) w := he
    unfold execOp
    simp [ho, resolve, invoke, hf, hx, he', Deferred.ofValue]
  unfold Oper.wp
  rw [hrun, Oper.upon_enter]
  refine hc.mono fun e w' hr => ?_
  obtain ⟨r, rfl, hk⟩ := h e w' hr
  exact hk
end Go.Proofs.Ytpjndkiclfoanaa
