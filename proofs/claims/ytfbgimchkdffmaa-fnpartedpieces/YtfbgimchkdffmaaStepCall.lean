/-
  A call of impl.Sorted as one step of a region that draws its order. No conditions.
-/
import Derived.Test.YtfbgimchkdffmaaAppendAny
import Derived.Test.YtfbgimchkdffmaaSortedList
namespace Go.Proofs.Ytfbgimchkdffmaa
open Go.RowKit

set_option maxRecDepth 100000 in
theorem step_sorted {ops : Array Oper} {o : Oper} {a : Act} {w : World} {K : Act → World → Prop} {Q : Exit → Act → World → Prop} {E : Prop}
    (hgd : o.guard = none) (x : Nat) (t : TypeId) (hop : o.op = Op.call { callee := .value (.func 48), args := #[.tmp x], argTypes := #[t] })
    (v : Value) (hv : a.tmps[x]?.getD undef = v) (R : Ending → World → Prop) (hc : Calls Try.prog 48 #[v] w R) (h : ∀ e w', R e w' → ∃ v, e = .returned v ∧ K (a.put o.dst v) w') :
    if Region.wanted o (yielded ops a.tmps) = true then Oper.wp Try.prog o a w K Q else E := by
  have hw : Region.wanted o (yielded ops a.tmps) = true := by simp [Region.wanted, hgd]
  rw [if_pos hw]
  unfold Oper.wp
  simp only [execOp, hop, resolve, invoke]
  have he : a.eval (Operand.func 48) = .func (.func 48) #[] #[] := rfl
  rw [he]
  go_simp
  refine hc.mono ?_
  intro e w' hr
  obtain ⟨v', rfl, hk⟩ := h e w' hr
  exact hk
end Go.Proofs.Ytfbgimchkdffmaa
