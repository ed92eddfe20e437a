import Derived.Test.YtkdjahgndkdnhaaZg
import Derived.Lib.BoundsPanic
namespace Go.Proofs.Ytkdjahgndkdnhaa
open Go.RowKit Go.Maps Go.Shelf
set_option linter.unusedVariables false
set_option linter.unusedSimpArgs false
theorem step_call36 {ops : Array Oper} {o : Oper} {a : Act} {w : World} {K : Act → World → Prop} {Q : Exit → Act → World → Prop} {Ex : Prop} (hgd : o.guard = none) {d : Nat} (hd : o.dst = some d) (x y : Operand) (ts : Array TypeId)
    (ho : o.op = .call { callee := .value (.func 36), args := #[x, y], argTypes := ts }) (u v : Value) (hx : a.eval x = u) (hy : a.eval y = v) {R : Ending → World → Prop} (hc : Calls Try.prog 36 #[u, v] w R)
    (h : ∀ e w', R e w' → ∃ r, e = .returned r ∧ K (a.put (some d) r) w') :
    if Region.wanted o (yielded ops a.tmps) = true then Oper.wp Try.prog o a w K Q else Ex := by
  have hw : Region.wanted o (yielded ops a.tmps) = true := by simp [Region.wanted, hgd]
  rw [if_pos hw]
  have he := enters_of (P := Try.prog) Try.func36 (by kernel_rfl) rfl #[u, v]
  unfold Oper.wp execOp
  simp only [ho, resolve, invoke, Sem.run_bind, Sem.run_pure, Result.andThen_ok, List.map_toArray, List.map_cons, List.map_nil, hx, hy, go_sem]
  show Oper.upon Try.prog o a K Q (Sem.run Try.prog (callFunc 36 (#[] ++ #[a.eval x, a.eval y] ++ #[])) w)
  rw [show (#[] ++ #[a.eval x, a.eval y] ++ #[] : Array Value) = #[u, v] by simp [hx, hy], he, Oper.upon_enter]
  refine hc.mono ?_
  intro e w' hR
  obtain ⟨r, rfl, hk⟩ := h e w' hR
  show K (a.put o.dst r) w'
  rw [hd]
  exact hk
section
variable {w : World} {b : Nat} {rv : Value} {m : Nat} {ps : List Nat} {ts : List Tk} {H : Int → Option Int} {st : Nat} {wi : Bool} {c : Nat} {xb : Nat} {dv tv : Value} {T : List Int} {N : Nat}
set_option maxRecDepth 100000 in
set_option maxHeartbeats 1600000 in
/-- A step's act: Broadcast. -/
theorem acts_broadcast (h : Sc w b rv m ps ts H st wi c) (hl : ps.length ≤ 64) (hA : Apt ts) (hP : Pr w xb b dv tv T N) (hN : N ≤ w.heap.size) (hT : T.length ≤ 100000000) (n : Int) (x : Int) :
    Calls Try.prog 52 #[ptr xb, .int .i64 n, .agg #[.int .i64 2, .int .i64 x]] w fun e w' => e = .returned (.tuple #[]) ∧ Sc w' b rv m ps (goAll ts (waitL ts x)) H st wi c ∧ ∃ tv', Pr w' xb b dv tv' (T ++ [((waitL ts x).length : Int)]) N ∧ Upd (fun k => k ∈ ps ∨ k = xb ∨ tv.ownBlock = some k) w w' ∧ (tv'.ownBlock = tv.ownBlock ∨ ∀ k, tv'.ownBlock = some k → w.heap.size ≤ k) := by
  have al := fun (W : World) (o : Obj) => (Below.refl W.heap.size W).alloc (Nat.le_refl _) o
  have hB1 := (al w (.cells #[.int .i64 2, .int .i64 x] 64)).drew
  have h1 := h.below hB1
  have hD1 := Blk.new w 64 [.int .i64 2, .int .i64 x]
  have hP1 := hP.upd (S := Non) (Upd.ofBelow hB1) (fun h => h) (fun _ _ h => h)
  obtain ⟨ta, tc, rfl⟩ := row_form hP.told
  have p0 := hP.blk.cell1 0 _ rfl
  have p2 := hP.blk.cell1 2 _ rfl
  have lx := hP.blk.lt
  have HU := broadcast_any h1 hl hA x
  generalize goAll ts (waitL ts x) = ts' at *
  generalize (waitL ts x).length = Y at *
  go_enter Try.func52, Try.ntmps52
  go_wp2
  go_region_law (first
    | (refine step_push (by rfl) (by rfl) _ _ (by rfl) (by rfl) ((P2.told.alloc _)) (by rfl) (Y : Int) (by simp) (by omega) (by rw [World.size_alloc]; have := g2.size; simp at this; omega) ?_
       intro av cv w3 ho3 hg3 hl3
       have U3 : Upd (fun k => Value.ownBlock (.slice ta T.length tc) = some k) w1 w3 := ((Upd.refl _ w1).alloc _).grown hg3 (fun k hk _ => hk)
       have X3 := P2.blk.upd U3 (fun e => row_ne P2.told P2.blk (by decide) xb e rfl)
       have x2 := X3.cell1 2 _ rfl
       have x3 := X3.frozen 2)
    | (refine step_call36 (by rfl) (by rfl) _ _ _ (by rfl) _ _ (by rfl) (by rfl) HU ?_
       rintro e w1 ⟨rfl, g1, g2⟩
       refine ⟨_, rfl, ?_⟩
       have P2 : Pr w1 xb b dv (.slice ta T.length tc) T N := hP1.upd g2 (fun hm => h1.not_sb hP1.blk (by decide) (by decide) (by decide) (.inr (.inr (.inr hm)))) (fun k hk hm => h1.not_sbr hP1.told (by decide) (by decide) (by decide) k hk (.inr (.inr (.inr hm))))
       have q2 := P2.blk.cell1 2 _ rfl
       have lx1 := P2.blk.lt))
  all_goals go_wp2
  all_goals go_end0
  all_goals
    have e1 : iz (T ++ [(Y : Int)]) = iz T ++ [Value.int .i64 (Y : Int)] := by simp [iz]
    rw [e1] at ho3
    obtain ⟨F1, F2, F3⟩ := told_end g1 P2 U3 ho3
    refine ⟨rfl, F1, _, F2, ?_, ?_⟩
    · exact Upd.then (Upd.then (Upd.ofBelow hB1) g2 (fun i _ hi => .inl hi)) F3 (fun i _ hi => .inr hi)
    · exact told_loc (w3 := w3) hl3 (by have := g2.size; simp at this ⊢; omega)
set_option maxRecDepth 100000 in
set_option maxHeartbeats 800000 in
/-- An act that is none. -/
theorem acts_none (n a x : Int) (w : World) (xb : Nat) (h0 : a ≠ 0) (h1 : a ≠ 1) (h2 : a ≠ 2) (h3 : a ≠ 3) :
    Calls Try.prog 52 #[ptr xb, .int .i64 n, .agg #[.int .i64 a, .int .i64 x]] w fun e w' => e = .returned (.tuple #[]) ∧ Below w.heap.size w w' := by
  have q0 : (a == 0) = false := by simpa using h0
  have q1 : (a == 1) = false := by simpa using h1
  have q2 : (a == 2) = false := by simpa using h2
  have q3 : (a == 3) = false := by simpa using h3
  go_enter Try.func52, Try.ntmps52
  go_wp2
  go_end0
  exact ⟨rfl, (Below.refl _ _).alloc (Nat.le_refl _) _⟩
theorem idx_nil (W : World) (n : Nat) : ∃ v W', (Instr.indexAt 30 (Value.slice none 0 0) (Value.int .i64 n)).run Try.prog W = .halt (.panic v) W' ∧ Below W.heap.size W W' := by
  rw [Lib.run_indexAt_nil W 30 3 0 0 .i64 n Try.underlying30]
  have h0 : (0 : Int) ≤ n := by omega
  by_cases h31 : (n : Int) ≤ 31
  · exact ⟨_, _, Lib.run_boundsPanic_index Try.prog n 0 W h0 h31, (Below.refl _ _).drew⟩
  · refine ⟨.iface Try.prog.rt.boundsError (.agg #[.int .i64 (IntKind.i64.wrap n), .int .i64 0, .bool (IntKind.i64 != IntKind.u64), .int .u8 (BoundsCode.index.toNat : Nat)]), W, ?_, Below.refl _ _⟩
    simp [boundsPanic, Question.forced, Question.cut, runtimePanic, goPanic, h0, h31]
set_option maxRecDepth 100000 in
set_option maxHeartbeats 800000 in
/-- A step's act: it panics. -/
theorem acts_panic (hP : Pr w xb b dv tv T N) (n x : Int) :
    Calls Try.prog 52 #[ptr xb, .int .i64 n, .agg #[.int .i64 3, .int .i64 x]] w fun e w' => (∃ v, e = .panicked [{ v := v, recovered := false }]) ∧ Below w.heap.size w w' := by
  obtain ⟨ta, tc, rfl⟩ := row_form hP.told
  have p2 := hP.blk.cell1 2 _ rfl
  have lx := hP.blk.lt
  obtain ⟨v, W', hrun, hB⟩ := idx_nil (w.alloc (.cells #[.int .i64 3, .int .i64 x] 64)) T.length
  have hB' : Below w.heap.size w W' := ((Below.refl _ w).alloc (Nat.le_refl _) _).trans (hB.mono (by simp))
  go_enter Try.func52, Try.ntmps52
  go_wp2
  exact ⟨rfl, ⟨v, rfl⟩, hB'⟩
end
end Go.Proofs.Ytkdjahgndkdnhaa
