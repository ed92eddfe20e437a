/-
  A call in a region that draws its order, whatever the function and however many its arguments.
-/
import Derived.Test.YtagnnocecfoggaaCv
namespace Go.Proofs.Ytagnnocecfoggaa
open Go.RowKit
set_option linter.unusedVariables false
set_option linter.unusedSimpArgs false
theorem step_callG {ops : Array Oper} {o : Oper} {a : Act} {w : World} {K : Act → World → Prop} {Q : Exit → Act → World → Prop} {Ex : Prop} (f : FuncId) (xs : List Operand) (ts : Array TypeId) (vs : List Value) {R : Ending → World → Prop} (hc : Calls Try.prog f vs.toArray w R)
    (hw : Region.wanted o (yielded ops a.tmps) = true) {d : Nat} (hd : o.dst = some d)
    (ho : o.op = .call { callee := .value (.func f), args := xs.toArray, argTypes := ts }) (hx : xs.map a.eval = vs) (he : ∀ args w, Sem.run Try.prog (callFunc f args) w = .ok (.enter f args) w)
    (h : ∀ e w', R e w' → ∃ r, e = .returned r ∧ K (a.put (some d) r) w') :
    if Region.wanted o (yielded ops a.tmps) = true then Oper.wp Try.prog o a w K Q else Ex := by
  rw [if_pos hw]
  unfold Oper.wp execOp
  simp only [ho, resolve, invoke, Sem.run_bind, Sem.run_pure, Result.andThen_ok, List.map_toArray, hx, go_sem]
  show Oper.upon Try.prog o a K Q (Sem.run Try.prog (callFunc f (#[] ++ vs.toArray ++ #[])) w)
  rw [show (#[] ++ vs.toArray ++ #[] : Array Value) = vs.toArray by simp, he, Oper.upon_enter]
  refine hc.mono ?_
  intro e w' hR
  obtain ⟨r, rfl, hk⟩ := h e w' hR
  show K (a.put o.dst r) w'
  rw [hd]
  exact hk
theorem en18 (args : Array Value) (w : World) : Sem.run Try.prog (callFunc 18 args) w = .ok (.enter 18 args) w := enters_of (P := Try.prog) Try.func18 (by kernel_rfl) rfl args w
theorem en19 (args : Array Value) (w : World) : Sem.run Try.prog (callFunc 19 args) w = .ok (.enter 19 args) w := enters_of (P := Try.prog) Try.func19 (by kernel_rfl) rfl args w
theorem en20 (args : Array Value) (w : World) : Sem.run Try.prog (callFunc 20 args) w = .ok (.enter 20 args) w := enters_of (P := Try.prog) Try.func20 (by kernel_rfl) rfl args w
theorem en21 (args : Array Value) (w : World) : Sem.run Try.prog (callFunc 21 args) w = .ok (.enter 21 args) w := enters_of (P := Try.prog) Try.func21 (by kernel_rfl) rfl args w
theorem en22 (args : Array Value) (w : World) : Sem.run Try.prog (callFunc 22 args) w = .ok (.enter 22 args) w := enters_of (P := Try.prog) Try.func22 (by kernel_rfl) rfl args w
theorem en23 (args : Array Value) (w : World) : Sem.run Try.prog (callFunc 23 args) w = .ok (.enter 23 args) w := enters_of (P := Try.prog) Try.func23 (by kernel_rfl) rfl args w
end Go.Proofs.Ytagnnocecfoggaa
