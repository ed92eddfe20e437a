import Derived.Test.YtbnllobofndckaaWa
import Derived.Deep.DeepCutAuto
namespace Go.Proofs.Ytbnllobofndckaa
open Go.RowKit
set_option linter.unusedVariables false
set_option linter.unusedSimpArgs false
/-- A post that a panic does not meet. -/
def noP (Q : Exit → Act → World → Prop) : Exit → Act → World → Prop
  | .panic _, _, _ => False
  | e, a, w => Q e a w
theorem wp_noP {P : Program} {c : Code} {Q : Exit → Act → World → Prop} {a : Act} {w : World} (h : c.wp P (noP Q) a w) : c.wp P Q a w :=
  Code.wp_mono (fun e a w h => by cases e <;> first | exact h | exact h.elim) h
/-- An append whose run is known, at a step of a walk. -/
theorem wpList_append_run {P : Program} {w : World} {ops : Array Oper} {rest : List Oper} {o : Oper} {a : Act} {Q : Exit → Act → World → Prop} (hgd : o.guard = none) (s x : Operand) (t tx : TypeId)
    (ho : o.op = .call { callee := .builtin .append, args := #[s, x], argTypes := #[t, tx] }) {v u : Value} (hs : a.eval s = v) (hx : a.eval x = u) {v' : Value} {w' : World}
    (hr : (Builtin.append_ #[t, tx] o.type #[v, u]).run P w = .ok v' w') (h : wpList P ops Q rest (a.put o.dst v') w') : wpList P ops Q (o :: rest) a w := by
  refine wpList_plain hgd fun K hK => ?_
  unfold Oper.wp execOp
  simp only [ho, resolve, invoke, builtin, Sem.run_bind, Sem.run_pure, Result.andThen_ok, List.map_toArray, List.map_cons, List.map_nil, hs, hx, hr]
  exact hK _ _ h
/-- What is left when all pieces are written. -/
theorem Wq.tail {w W0 W : World} {B PP T : List Int} {bv pv : Value} {D m : Nat} (QQ : Wq W0 (w.heap.size + 1) (w.heap.size + 1 + 1) w.heap.size w.heap.size B PP bv pv W) (hs0 : W0.heap.size = w.heap.size + 5) (hb0 : Below w.heap.size w W0) (hD : W0.heap.size ≤ D) (KK : W.heap[D]? = some (.deferred (some []))) (hBL : B.length ≤ 2000000000) (hPL : PP.length = 4 * m) (hm : 1 ≤ m) (hm2 : m ≤ 100000) (hT : B ++ PP ++ byts 4 m = T) :
    ∃ a8 n8 c8 w8 G, (Builtin.append_ #[23, 23] 23 #[bv, pv]).run Try.prog W = .ok (.slice a8 n8 c8) w8 ∧ w8.cell? ⟨w.heap.size + 1, 0, none⟩ = some bv ∧ w8.frozen? ⟨w.heap.size + 1, 0, none⟩ = false ∧ G.length + (byts 4 m).length ≤ 140737488355328 ∧
      (∀ w', Below (w8.setCell ⟨w.heap.size + 1, 0, none⟩ (.slice a8 n8 c8)).heap.size (w8.setCell ⟨w.heap.size + 1, 0, none⟩ (.slice a8 n8 c8)) w' → OwnB w' w.heap.size (.slice a8 n8 c8) G ∧ w.heap.size ≤ w'.heap.size ∧ w'.cell? ⟨w.heap.size + 1, 0, none⟩ = some (.slice a8 n8 c8) ∧ w'.cell? ⟨w.heap.size + 1 + 1, 0, none⟩ = some pv) ∧
      (∀ w' w11 v11, Below (w8.setCell ⟨w.heap.size + 1, 0, none⟩ (.slice a8 n8 c8)).heap.size (w8.setCell ⟨w.heap.size + 1, 0, none⟩ (.slice a8 n8 c8)) w' → w'.grownBy w11 (Value.slice a8 n8 c8).ownBlock → OwnB w11 w.heap.size v11 (G ++ byts 4 m) → w11.heap[D]? = some (.deferred (some [])) ∧ OwnB w11 w.heap.size v11 T ∧ Below w.heap.size w w11 ∧ w11.cell? ⟨w.heap.size + 1, 0, none⟩ = some (.slice a8 n8 c8) ∧ w11.cell? ⟨w.heap.size + 1 + 1, 0, none⟩ = some pv) := by
  obtain ⟨i0, hi, hz0, hz1, hz2⟩ := info_parts info5
  obtain ⟨v8, w8, hrun8, ho8, hg8, hl8⟩ := QQ.ob.run_append (P := Try.prog) 23 23 23 i0 Try.underlying23 hi hz0 hz1 hz2 _ PP QQ.op.src (by have := QQ.upd.size; omega) (by omega)
  have ha8 := AppB.grow ho8 hg8 hl8
  obtain ⟨a8, c8, rfl⟩ := own_slice ho8
  obtain ⟨n8, hn8⟩ : ∃ n, n = (B ++ PP).length := ⟨_, rfl⟩
  rw [← hn8] at hrun8 ha8
  obtain ⟨q9, u9⟩ := QQ.bytes (by omega) (by omega) (by omega) (by omega) (by omega) (by omega) ha8 (by rw [List.length_append]; omega)
  have b8 := QQ.b1.upd ha8.upd (fun e => by have := QQ.lb _ e; omega)
  have hk9 := (QQ.keepsF u9 W0.heap.size).same D _ hD KK rfl
  refine ⟨a8, n8, c8, w8, B ++ PP, hrun8, b8.cell1 0 _ rfl, b8.frozen 0, by rw [byts_len, List.length_append]; omega, fun w' hb => ?_, fun w' w11 v11 hb hg ho => ?_⟩
  · have q := q9.below hb
    exact ⟨q.ob, by have := q.upd.size; omega, q.b1.cell1 0 _ rfl, q.p1.cell1 0 _ rfl⟩
  · have q := q9.below hb
    have ug : Upd (fun k => (Value.slice a8 n8 c8).ownBlock = some k) w' w11 := (Upd.refl _ _).grown hg (fun k hk _ => hk)
    have s5 := (hb.block _ (Array.getElem?_eq_some_iff.1 hk9).1).trans hk9
    have s6 : Below w.heap.size w w' := hb0.trans (q.upd.below (fun k hk => by omega) (fun k hk => by omega))
    refine ⟨(hg.block _ (Array.getElem?_eq_some_iff.1 s5).1 (fun e => ?_)).trans s5, by rw [← hT]; exact ho, s6.grown hg (by have := q.upd.size; omega) (fun k hk => (q.ob.lt k hk).1), (q.b1.upd ug (fun e => by have := q.lb _ e; omega)).cell1 0 _ rfl, (q.p1.upd ug (fun e => by have := q.lb _ e; omega)).cell1 0 _ rfl⟩
    obtain ⟨c, t, f, e'⟩ := q.cb _ e.symm
    rw [e'] at s5; cases s5
end Go.Proofs.Ytbnllobofndckaa
