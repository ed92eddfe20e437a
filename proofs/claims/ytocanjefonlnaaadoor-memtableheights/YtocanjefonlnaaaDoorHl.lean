import Derived.Test.YtocanjefonlnaaaDoorHk
namespace Go.Proofs.YtocanjefonlnaaaDoor
open Go.RowKit Go.Shelf
set_option linter.unusedVariables false
set_option linter.unusedSimpArgs false
def U5 : ByteArray := ⟨#[255, 255, 255, 255, 255]⟩
theorem leq_run (W : World) (a b : ByteArray) : (binOp .leq 9 (.string a) (.string b)).run Tryd.prog W = .ok (.bool (Op.bytesLess a.toList b.toList || (a.toList == b.toList))) W := by kernel_rfl
theorem leq_up' (x : Ent) : (Op.bytesLess x.u.toList [255, 255, 255, 255, 255] || (x.u.toList == [255, 255, 255, 255, 255])) = upU U5 x := by
  have e5 : U5.toList = [255, 255, 255, 255, 255] := by rw [ByteArray.toList_eq]; rfl
  rw [← e5]
  unfold upU
  have h1 := cmpS_less x.u U5
  have h2 := cmpS_zero x.u U5
  have h3 := cmpS_cases x.u U5
  by_cases hl : Op.bytesLess x.u.toList U5.toList = true
  · have := h1.2 hl
    rw [hl, decide_eq_true (by omega)]; rfl
  · have hl' : Op.bytesLess x.u.toList U5.toList = false := by simpa using hl
    by_cases he : x.u = U5
    · have := h2.2 he
      rw [he, decide_eq_true (by rw [he] at this; omega)]; simp
    · have h4 : ¬ cmpS x.u U5 = 0 := fun z => he (h2.1 z)
      have h5 : ¬ cmpS x.u U5 = -1 := fun z => hl (h1.1 z)
      rw [hl', decide_eq_false (by omega)]
      have h6 : ¬ x.u.toList = U5.toList := fun z => he (by rw [ByteArray.toList_eq, ByteArray.toList_eq] at z; exact ba_eq.1 z)
      simpa using h6
/-- An append whose run is known, at a step of a walk under a fence. -/
theorem wpListIn_append_run {F : Fence} {n : Nat} {P : Program} {w : World} {ops : Array Oper} {rest : List Oper} {o : Oper} {a : Act} {Q : Exit → Act → World → Prop} (hgd : o.guard = none) (s x : Operand) (t : TypeId)
    (ho : o.op = .call { callee := .builtin .append, args := #[s, x], argTypes := #[t, t] }) {v u : Value} (hs : a.eval s = v) (hx : a.eval x = u) {v' : Value} {w' : World}
    (hr : (Builtin.append_ #[t, t] o.type #[v, u]).run P w = .ok v' w') (h : wpListIn F n P ops Q rest (a.put o.dst v') w') : wpListIn F n P ops Q (o :: rest) a w := by
  refine wpListIn_plain hgd fun K hK => ?_
  unfold Oper.wpIn
  refine ⟨by simp [Oper.about, ho, resolve, Target.leads, Sem.run_pure], ?_⟩
  rw [Oper.semAt_plain F _ _ (by rw [ho]; intro c hc'; cases hc')]
  simp [execOp, ho, resolve, invoke, builtin, hs, hx, hr, Result.andThen]
  exact hK _ _ h
theorem Blk.kept {W W' : World} {b : Nat} {t : TypeId} {cs : List Value} (h : Blk W b t cs) {row : Option Nat} (hg : W.grownBy W' row) (hr : ∀ r, row = some r → ∃ o : Obj, W.heap[r]? = some o ∧ o.isCells = false) : Blk W' b t cs :=
  h.upd ((Upd.refl _ _).grown hg (fun k hk _ => hk)) (fun e => by obtain ⟨o, ho, hc⟩ := hr _ e; unfold Blk at h; rw [h] at ho; cases ho; cases hc)
/-- What stands in the box is a slice that reads as the entries. -/
theorem Ap.slice {W0 : World} {bx rb : Nat} {l : List Ent} {W : World} (h : Ap W0 bx rb l W) {v : Value} (hb : Blk W bx 51 [v]) : ∃ a cap, v = .slice a l.length cap ∧ RdE W a l := by
  obtain ⟨v0, h1, h2, _⟩ := h.ex
  have e1 := h1.cell1 0 _ rfl
  have e2 := hb.cell1 0 _ rfl
  rw [e1] at e2
  cases e2
  exact row_rde h2
end Go.Proofs.YtocanjefonlnaaaDoor
