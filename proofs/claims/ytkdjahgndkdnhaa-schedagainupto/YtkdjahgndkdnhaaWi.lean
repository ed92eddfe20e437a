import Derived.Test.YtkdjahgndkdnhaaWg
namespace Go.Proofs.Ytkdjahgndkdnhaa
open Go.RowKit Go.Maps Go.Shelf
set_option linter.unusedVariables false
set_option linter.unusedSimpArgs false
theorem many_run {w : World} {N : Nat} {v : Value} {T : List Int} (ty : TypeId) (hown : w.ownsRow N 3 1 v T.length (iz T)) {p : Addr} {cap : Nat} {ys : List Int} (hc : ∀ (j : Nat) (y : Int), ys[j]? = some y → w.cell? (p.add j) = some (.int .i64 y)) (hl : T.length + ys.length ≤ 1000000000000) (hN : N ≤ w.heap.size) :
    ∃ av cv w', (Builtin.append_ #[30, 30] ty #[v, .slice (some p) ys.length cap]).run Try.prog w = .ok (.slice av (T.length + ys.length) cv) w' ∧ w'.ownsRow N 3 1 (.slice av (T.length + ys.length) cv) (T.length + ys.length) (iz (T ++ ys)) ∧ w.grownBy w' v.ownBlock ∧ (Value.ownBlock (.slice av (T.length + ys.length) cv) = v.ownBlock ∨ Value.ownBlock (.slice av (T.length + ys.length) cv) = some w.heap.size) := by
  obtain ⟨i0, hi, hz0, hz1, hz2⟩ := info_parts info3
  have e := run_append_own_at (P := Try.prog) w N 30 ty 3 i0 (.int .i64 0) 1 8 Try.underlying30 hi hz0 hz1 hz2 rfl (by decide) v T.length (iz T) hown p ys.length cap (iz ys) (by simp [iz]) (by
    intro j u hj
    unfold iz at hj
    rw [List.getElem?_map] at hj
    cases hy : ys[j]? with
    | none => rw [hy] at hj; cases hj
    | some y =>
      rw [hy] at hj
      cases hj
      exact hc j y hy) (by simp [iz, Value.oneCell']) (by unfold maxLen; omega) (by omega) hN
  obtain ⟨v', w', hr, h2, h3, h4, h5⟩ := e
  have e1 : iz T ++ iz ys = iz (T ++ ys) := by simp [iz]
  rw [e1] at h2
  obtain ⟨av, cv, rfl⟩ := row_form h2
  exact ⟨av, cv, w', hr, h2, h3, h5⟩
/-- append of ints, at a step of a region that draws its order. -/
theorem step_many {ops : Array Oper} {o : Oper} {a : Act} {w : World} {K : Act → World → Prop} {Q : Exit → Act → World → Prop} {Ex : Prop} (hgd : o.guard = none) {d : Nat} (hd : o.dst = some d) (s x : Operand)
    (ho : o.op = .call { callee := .builtin .append, args := #[s, x], argTypes := #[30, 30] }) {N : Nat} {v : Value} {T : List Int} (hs : a.eval s = v) (hown : w.ownsRow N 3 1 v T.length (iz T)) {p : Addr} {cap : Nat} {ys : List Int} (hx : a.eval x = .slice (some p) ys.length cap) (hc : ∀ (j : Nat) (y : Int), ys[j]? = some y → w.cell? (p.add j) = some (.int .i64 y)) (hl : T.length + ys.length ≤ 1000000000000) (hN : N ≤ w.heap.size)
    (h : ∀ av cv w', w'.ownsRow N 3 1 (.slice av (T.length + ys.length) cv) (T.length + ys.length) (iz (T ++ ys)) → w.grownBy w' v.ownBlock → (Value.ownBlock (.slice av (T.length + ys.length) cv) = v.ownBlock ∨ Value.ownBlock (.slice av (T.length + ys.length) cv) = some w.heap.size) → K (a.put (some d) (.slice av (T.length + ys.length) cv)) w') :
    if Region.wanted o (yielded ops a.tmps) = true then Oper.wp Try.prog o a w K Q else Ex := by
  have hw : Region.wanted o (yielded ops a.tmps) = true := by simp [Region.wanted, hgd]
  rw [if_pos hw]
  obtain ⟨av, cv, w', hr, h2, h3, h5⟩ := many_run o.type hown hc hl hN (cap := cap)
  unfold Oper.wp execOp
  simp only [ho, resolve, invoke, builtin, Sem.run_bind, Sem.run_pure, Result.andThen_ok, List.map_toArray, List.map_cons, List.map_nil, hs, hx, hr]
  show K (a.put o.dst _) w'
  rw [hd]
  exact h av cv w' h2 h3 h5
theorem step_call17 {ops : Array Oper} {o : Oper} {a : Act} {w : World} {K : Act → World → Prop} {Q : Exit → Act → World → Prop} {Ex : Prop} (hgd : o.guard = none) {d : Nat} (hd : o.dst = some d) (x y z : Operand) (ts : Array TypeId)
    (ho : o.op = .call { callee := .value (.func 17), args := #[x, y, z], argTypes := ts }) (u v s : Value) (hx : a.eval x = u) (hy : a.eval y = v) (hz : a.eval z = s) {R : Ending → World → Prop} (hc : Calls Try.prog 17 #[u, v, s] w R)
    (h : ∀ e w', R e w' → ∃ r, e = .returned r ∧ K (a.put (some d) r) w') :
    if Region.wanted o (yielded ops a.tmps) = true then Oper.wp Try.prog o a w K Q else Ex := by
  have hw : Region.wanted o (yielded ops a.tmps) = true := by simp [Region.wanted, hgd]
  rw [if_pos hw]
  have he := enters_of (P := Try.prog) Try.func17 (by kernel_rfl) rfl #[u, v, s]
  unfold Oper.wp execOp
  simp only [ho, resolve, invoke, Sem.run_bind, Sem.run_pure, Result.andThen_ok, List.map_toArray, List.map_cons, List.map_nil, hx, hy, hz, go_sem]
  show Oper.upon Try.prog o a K Q (Sem.run Try.prog (callFunc 17 (#[] ++ #[a.eval x, a.eval y, a.eval z] ++ #[])) w)
  rw [show (#[] ++ #[a.eval x, a.eval y, a.eval z] ++ #[] : Array Value) = #[u, v, s] by simp [hx, hy, hz], he, Oper.upon_enter]
  refine hc.mono ?_
  intro e w' hR
  obtain ⟨r, rfl, hk⟩ := h e w' hR
  show K (a.put o.dst r) w'
  rw [hd]
  exact hk
/-- An empty slice that was built. -/
theorem built0 (w : World) {N : Nat} (hN : N ≤ w.heap.size) : (w.alloc (.cells #[] 3)).ownsRow N 3 1 (.slice (some ⟨w.heap.size, 0, none⟩) 0 0) 0 (iz []) := by
  exact World.ownsRow_lit w #[] 0 hN (by unfold maxLen; omega) rfl
end Go.Proofs.Ytkdjahgndkdnhaa
