import Derived.Test.YtkpijoogaicodaaGl
import Derived.Deep.RegionHeldLaw
namespace Go.Proofs.Ytkpijoogaicodaa
open Go.RowKit
set_option linter.unusedVariables false
set_option linter.unusedSimpArgs false
/-- The program has gone ahead; the reference is as it was. -/
theorem Bq.pfirst {w0 w w1 : World} {b q : Nat} {rv mv rv2 mv2 : Value} {rs : List Rec} {ms : List Nat} (h : Bq w0 w b q rv mv rv2 mv2 rs ms) (u : Upd (Of b rv) w w1) : Qt w1 q rv2 mv2 rs ms := by
  have n1 := Blk.ne h.r.blk h.p.blk (by decide)
  have n2 := row_ne h.p.row h.r.blk (by decide)
  refine h.r.upd u ?_ ?_ ?_
  · rintro (e | e)
    · exact n1 e
    · exact n2 q e rfl
  · rintro k hk (rfl | e)
    · exact h.nb hk
    · exact h.d1 k e hk
  · rintro k hk (rfl | e)
    · exact row_ne h.r.marks h.p.blk (by decide) _ hk rfl
    · exact row_row_ne h.r.marks h.p.row (by decide) k hk e
theorem bq_both {w0 w w1 w2 : World} {b q : Nat} {rv mv rv2 mv2 rv' rv2' : Value} {rs rs2 : List Rec} {ms : List Nat} (h : Bq w0 w b q rv mv rv2 mv2 rs ms)
    (g1 : Bt w1 b rv' mv rs2 ms) (g2 : Upd (Of b rv) w w1) (g3 : rv'.ownBlock = rv.ownBlock ∨ ∀ j, rv'.ownBlock = some j → w.heap.size ≤ j)
    (k1 : Qt w2 q rv2' mv2 rs2 ms) (k2 : Upd (fun k => k = q) w1 w2) (k3 : rv2' = rv2 ∨ ∀ j, rv2'.ownBlock = some j → w1.heap.size ≤ j)
    (hg : Good rs2) (hf : ∀ r ∈ rs2, Fine r) (hpl : Pl rs2) (hck : ∀ r ∈ rs2, rchk r = 0) (hmk : (ms ++ [rs2.length]).Pairwise (· ≤ ·)) :
    Bq w0 w2 b q rv' mv rv2' mv2 rs2 ms ∧ Upd (Sb b q rv mv) w w2 := by
  have hq := h.pfirst g2
  have e1 := Upd.bel h.bel g2 (of_new h.yb h.yr)
  refine ⟨⟨Upd.bel e1 k2 (fun k hk => by rw [hk]; exact h.yq), g1.upd k2 (Blk.ne g1.blk hq.blk (by decide)) (row_ne g1.row hq.blk (by decide)) (row_ne g1.marks hq.blk (by decide)), k1, ?_, h.d2, ?_, ?_, h.yb, h.yq, h.yr.step h.bel.size g3, h.ym, hg, hf, hpl, hck, hmk⟩, ?_⟩
  · intro k hk hk'
    rcases k3 with rfl | k3
    · rcases g3 with e | e
      · rw [e] at hk; exact h.d1 k hk hk'
      · have := e k hk; have := h.r.lt k hk'; omega
    · have := k3 k hk'; have := (g1.row.lt k hk).2; omega
  · intro k hk hk'
    rcases k3 with rfl | k3
    · exact h.d3 k hk hk'
    · have := k3 k hk'; have := (g1.marks.lt k hk).2; omega
  · intro e
    rcases k3 with rfl | k3
    · exact h.nb e
    · have := k3 b e; have := g1.blk.lt; omega
  · exact (g2.mono (fun k _ hk => by
      rcases hk with e | e
      · exact .inl e
      · exact .inr (.inr (.inl e)))).trans (k2.mono (fun k _ hk => .inr (.inl hk)))
theorem val_small {rs : List Rec} (hp : Pl rs) (hc : ∀ r ∈ rs, rchk r = 0) : ∀ r ∈ rs, (r.val.size : Int) ≤ 9223372036854775807 := by
  intro r hr
  have h1 := rchk_zero (hc r hr)
  by_cases hk : r.kind = 0
  · have hpl : plainR r = r := by
      unfold Pl at hp
      obtain ⟨i, hi, e⟩ := List.getElem_of_mem hr
      have : (rs.map plainR)[i]'(by simpa using hi) = rs[i] := by simp only [hp]
      rw [List.getElem_map, e] at this
      exact this
    unfold plainR at hpl
    rw [if_pos hk] at hpl
    rw [← hpl]
    show ((0 : Nat) : Int) ≤ _
    decide
  · have := h1.2.1 hk
    omega
theorem apL_all {p : Rec → Prop} {rs os : List Rec} (h : ∀ r ∈ rs, p r) (k : ∀ r ∈ os, p r) : ∀ r ∈ apL rs os, p r := by
  unfold apL
  split
  · intro r hr
    exact (List.mem_append.1 hr).elim (h r) (k r)
  · exact h
theorem Pl.ap {rs os : List Rec} (h : Pl rs) (k : Pl os) : Pl (apL rs os) := by
  unfold apL
  split
  · exact h.app k
  · exact h
theorem apL_len (rs os : List Rec) : rs.length ≤ (apL rs os).length := by
  unfold apL
  split <;> simp
theorem step_call25 {ops : Array Oper} {o : Oper} {a : Act} {w : World} {K : Act → World → Prop} {Q : Exit → Act → World → Prop} {Ex : Prop} (hw : Region.wanted o (yielded ops a.tmps) = true) {d : Nat} (hd' : o.dst = some d) (x y : Operand) (ts : Array TypeId)
    (ho : o.op = .call { callee := .value (.func 25), args := #[x, y], argTypes := ts }) (u v : Value) (hx : a.eval x = u) (hy : a.eval y = v) {R : Ending → World → Prop} (hc : Calls Try.prog 25 #[u, v] w R)
    (h : ∀ e w', R e w' → ∃ r, e = .returned r ∧ K (a.put (some d) r) w') :
    if Region.wanted o (yielded ops a.tmps) = true then Oper.wp Try.prog o a w K Q else Ex := by
  rw [if_pos hw]
  have he := enters_of (P := Try.prog) Try.func25 (by kernel_rfl) rfl #[u, v]
  unfold Oper.wp execOp
  simp only [ho, resolve, invoke, Sem.run_bind, Sem.run_pure, Result.andThen_ok, List.map_toArray, List.map_cons, List.map_nil, hx, hy, go_sem]
  show Oper.upon Try.prog o a K Q (Sem.run Try.prog (callFunc 25 (#[] ++ #[a.eval x, a.eval y] ++ #[])) w)
  rw [show (#[] ++ #[a.eval x, a.eval y] ++ #[] : Array Value) = #[u, v] by simp [hx, hy], he, Oper.upon_enter]
  refine hc.mono ?_
  intro e w' hR
  obtain ⟨r, rfl, hk⟩ := h e w' hR
  show K (a.put o.dst r) w'
  rw [hd']
  exact hk
theorem step_call45 {ops : Array Oper} {o : Oper} {a : Act} {w : World} {K : Act → World → Prop} {Q : Exit → Act → World → Prop} {Ex : Prop} (hw : Region.wanted o (yielded ops a.tmps) = true) {d : Nat} (hd' : o.dst = some d) (x y : Operand) (ts : Array TypeId)
    (ho : o.op = .call { callee := .value (.func 45), args := #[x, y], argTypes := ts }) (u v : Value) (hx : a.eval x = u) (hy : a.eval y = v) {R : Ending → World → Prop} (hc : Calls Try.prog 45 #[u, v] w R)
    (h : ∀ e w', R e w' → ∃ r, e = .returned r ∧ K (a.put (some d) r) w') :
    if Region.wanted o (yielded ops a.tmps) = true then Oper.wp Try.prog o a w K Q else Ex := by
  rw [if_pos hw]
  have he := enters_of (P := Try.prog) Try.func45 (by kernel_rfl) rfl #[u, v]
  unfold Oper.wp execOp
  simp only [ho, resolve, invoke, Sem.run_bind, Sem.run_pure, Result.andThen_ok, List.map_toArray, List.map_cons, List.map_nil, hx, hy, go_sem]
  show Oper.upon Try.prog o a K Q (Sem.run Try.prog (callFunc 45 (#[] ++ #[a.eval x, a.eval y] ++ #[])) w)
  rw [show (#[] ++ #[a.eval x, a.eval y] ++ #[] : Array Value) = #[u, v] by simp [hx, hy], he, Oper.upon_enter]
  refine hc.mono ?_
  intro e w' hR
  obtain ⟨r, rfl, hk⟩ := h e w' hR
  show K (a.put o.dst r) w'
  rw [hd']
  exact hk
end Go.Proofs.Ytkpijoogaicodaa
