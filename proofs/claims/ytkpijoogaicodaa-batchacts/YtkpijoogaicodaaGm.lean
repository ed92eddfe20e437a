import Derived.Test.YtkpijoogaicodaaGi
import Derived.Test.YtkpijoogaicodaaPa
import Derived.Deep.RegionHeldLaw
namespace Go.Proofs.Ytkpijoogaicodaa
open Go.RowKit
set_option linter.unusedVariables false
set_option linter.unusedSimpArgs false

theorem Good.take {rs : List Rec} (h : Good rs) (m : Nat) : Good (rs.take m) := ⟨by have := h.len; rw [List.length_take]; omega, by have := h.size; have := szs_take_le rs m; omega⟩
/-- Behind Back of the program the reference is as it was. -/
theorem Bq.backP {w0 w w1 : World} {b q : Nat} {rv mv rv2 mv2 : Value} {rs : List Rec} {ms : List Nat} (h : Bq w0 w b q rv mv rv2 mv2 rs ms) (u : Upd (OfA b rv mv) w w1) : Qt w1 q rv2 mv2 rs ms := by
  refine h.r.upd u ?_ ?_ ?_
  · rintro (e | e | e)
    · exact Blk.ne h.r.blk h.p.blk (by decide) e
    · exact row_ne h.p.row h.r.blk (by decide) q e rfl
    · exact row_ne h.p.marks h.r.blk (by decide) q e rfl
  · rintro k hk (rfl | e | e)
    · exact h.nb hk
    · exact h.d1 k e hk
    · exact h.d3 k e hk
  · rintro k hk (rfl | e | e)
    · exact row_ne h.r.marks h.p.blk (by decide) _ hk rfl
    · exact row_row_ne h.r.marks h.p.row (by decide) k hk e
    · exact h.d2 k e hk
theorem does_back_end {w0 w w1 w2 : World} {b q : Nat} {rv mv rv2 mv2 rv' mv' rv2' mv2' : Value} {rs : List Rec} {ms : List Nat} {m : Nat} (h : Bq w0 w b q rv mv rv2 mv2 rs (ms ++ [m]))
    (g1 : Bt w1 b rv' mv' (rs.take m) ms) (g2 : Upd (OfA b rv mv) w w1) (g4 : rv'.ownBlock = rv.ownBlock) (g3 : mv'.ownBlock = mv.ownBlock)
    (k1 : Qt w2 q rv2' mv2' (rs.take m) ms) (k2 : Upd (fun k => k = q) w1 w2) (k3 : rv2'.ownBlock = rv2.ownBlock) (k4 : mv2'.ownBlock = mv2.ownBlock) :
    Bq w0 w2 b q rv' mv' rv2' mv2' (rs.take m) ms ∧ Upd (Sb b q rv mv) w w2 := by
  have hq := h.backP g2
  obtain ⟨u1, u2, u3⟩ := up_last h.up
  have e1 := Upd.bel h.bel g2 (by
    rintro k (e | e | e)
    · rw [e]; exact h.yb
    · exact h.yr k e
    · exact h.ym k e)
  have hlen : (rs.take m).length = m := by rw [List.length_take]; omega
  refine ⟨⟨Upd.bel e1 k2 (fun k hk => by rw [hk]; exact h.yq), g1.upd k2 (Blk.ne g1.blk hq.blk (by decide)) (row_ne g1.row hq.blk (by decide)) (row_ne g1.marks hq.blk (by decide)), k1, ?_, ?_, ?_, by rw [k3]; exact h.nb, h.yb, h.yq, ?_, ?_, h.good.take m, fun r hr => h.fine r (List.mem_of_mem_take hr), h.pl.take m, fun r hr => h.ck r (List.mem_of_mem_take hr), by rw [hlen]; exact u2⟩, ?_⟩
  · intro k hk hk'; rw [g4] at hk; rw [k3] at hk'; exact h.d1 k hk hk'
  · intro k hk hk'; rw [g3] at hk; rw [k4] at hk'; exact h.d2 k hk hk'
  · intro k hk hk'; rw [g3] at hk; rw [k3] at hk'; exact h.d3 k hk hk'
  · intro k hk; rw [g4] at hk; exact h.yr k hk
  · intro k hk; rw [g3] at hk; exact h.ym k hk
  · exact (g2.mono (fun k _ hk => by
      rcases hk with e | e | e
      · exact .inl e
      · exact .inr (.inr (.inl e))
      · exact .inr (.inr (.inr e)))).trans (k2.mono (fun k _ hk => .inr (.inl hk)))
set_option maxRecDepth 100000 in
set_option maxHeartbeats 600000 in
theorem does_back {w0 w : World} {b q : Nat} {rv mv rv2 mv2 : Value} {rs : List Rec} {ms : List Nat} {m : Nat} (h : Bq w0 w b q rv mv rv2 mv2 rs (ms ++ [m])) (nm : Bool) (f kd : Int) (key val : ByteArray) (sv : Value) :
    Calls Try.prog 17 #[.agg #[ptr b, ptr q], actV 5 nm f kd key val sv] w (PairPost w0 w b q rv mv (rs.take m) ms) := by
  have lb := h.p.blk.lt
  have lq := h.r.blk.lt
  have V0 : Below w.heap.size w ((w.alloc (.cells #[ptr b, ptr q] 48)).alloc (.cells #[.int .i64 5, .bool nm, .int .u32 f, .int .i64 kd, .string key, .string val, sv] 51)).drew := (((Below.refl w.heap.size w).alloc (Nat.le_refl _) _).alloc (by simp) _).drew
  have S0 := h.step V0
  have B1 : Blk ((w.alloc (.cells #[ptr b, ptr q] 48)).alloc (.cells #[.int .i64 5, .bool nm, .int .u32 f, .int .i64 kd, .string key, .string val, sv] 51)).drew w.heap.size 48 [ptr b, ptr q] := ((Blk.new w 48 [ptr b, ptr q]).alloc _).drew
  have hof : ¬ OfA b rv mv w.heap.size := by
    rintro (e | e | e)
    · omega
    · have := (h.p.row.lt _ e).2; omega
    · have := (h.p.marks.lt _ e).2; omega
  have hoq : ¬ w.heap.size = q := by omega
  have hml := (up_last h.up).1
  go_enter Try.func17, Try.ntmps17
  go_wp2
  go_region_held_law (fun w' => w'.cell? ⟨w.heap.size, 0, none⟩ = some (ptr b) ∧ w'.cell? ⟨w.heap.size, 1, none⟩ = some (ptr q))
    (first
      | (go_keep; done)
      | exact ⟨C2.cell1 0 _ rfl, C2.cell1 1 _ rfl⟩
      | exact ⟨C1.cell1 0 _ rfl, C1.cell1 1 _ rfl⟩)
    (first
      | (go_at_call 48; refine (qpop_any (S0.backP g2) hml true).mono ?_; rintro e w2 ⟨rv2', mv2', rfl, k1, k2, k3, k4⟩; have C2 := C1.upd k2 hoq)
      | (go_at_call 23; refine (back_any S0.p hml S0.good S0.fine).mono ?_; rintro e w1 ⟨rv', mv', rfl, g1, g2, g4, g3⟩; have C1 := B1.upd g2 hof))
  go_wp2
  go_ret
  have hE := does_back_end S0 g1 g2 g4 g3 k1 k2 k3 k4
  exact ⟨rv', mv', rv2', mv2', rfl, hE.1, (Upd.ofBelow V0).trans hE.2⟩
end Go.Proofs.Ytkpijoogaicodaa
namespace Go.Proofs.Ytkpijoogaicodaa
open Go.RowKit
set_option linter.unusedVariables false
set_option linter.unusedSimpArgs false
set_option maxRecDepth 100000 in
set_option maxHeartbeats 1000000 in
/-- The act 0: a record is added to both. -/
theorem does_add {w0 w : World} {b q : Nat} {rv mv rv2 mv2 : Value} {rs : List Rec} {ms : List Nat} (h : Bq w0 w b q rv mv rv2 mv2 rs ms) (nm : Bool) (f kd : Int) (key val : ByteArray) (sv : Value) (f0 : 0 ≤ f) (f1 : f < 4294967296) (hv : (val.size : Int) ≤ 9223372036854775807) :
    Calls Try.prog 17 #[.agg #[ptr b, ptr q], actV 0 nm f kd key val sv] w (PairPost w0 w b q rv mv (addL rs ⟨f, kd, key, val⟩) ms) := by
  have V0 : Below w.heap.size w ((w.alloc (.cells #[ptr b, ptr q] 48)).alloc (.cells #[.int .i64 0, .bool nm, .int .u32 f, .int .i64 kd, .string key, .string val, sv] 51)) := ((Below.refl w.heap.size w).alloc (Nat.le_refl _) _).alloc (by simp) _
  have S0 := h.step V0
  have HA := pairAdd_any S0 0 nm f kd key val sv f0 f1 hv
  go_enter Try.func17, Try.ntmps17
  go_wp2_with (go_at_call 44; refine HA.mono ?_; rintro e w1 ⟨rv', mv', rv2', mv2', rfl, hb, hu⟩)
  go_ret
  exact ⟨rv', mv', rv2', mv2', rfl, hb, (Upd.ofBelow V0).trans hu⟩
set_option maxRecDepth 100000 in
set_option maxHeartbeats 1000000 in
/-- Any other act: nothing. -/
theorem does_other {w0 w : World} {b q : Nat} {rv mv rv2 mv2 : Value} {rs : List Rec} {ms : List Nat} (h : Bq w0 w b q rv mv rv2 mv2 rs ms) (ak : Int) (ha : ak < 0 ∨ 6 < ak) (nm : Bool) (f kd : Int) (key val : ByteArray) (sv : Value) :
    Calls Try.prog 17 #[.agg #[ptr b, ptr q], actV ak nm f kd key val sv] w (PairPost w0 w b q rv mv rs ms) := by
  have V0 : Below w.heap.size w ((w.alloc (.cells #[ptr b, ptr q] 48)).alloc (.cells #[.int .i64 ak, .bool nm, .int .u32 f, .int .i64 kd, .string key, .string val, sv] 51)) := ((Below.refl w.heap.size w).alloc (Nat.le_refl _) _).alloc (by simp) _
  have S0 := h.step V0
  have e0 : (ak == 0) = false := beq_eq_false_iff_ne.2 (by omega)
  have e1 : (ak == 1) = false := beq_eq_false_iff_ne.2 (by omega)
  have e2 : (ak == 2) = false := beq_eq_false_iff_ne.2 (by omega)
  have e3 : (ak == 3) = false := beq_eq_false_iff_ne.2 (by omega)
  have e4 : (ak == 4) = false := beq_eq_false_iff_ne.2 (by omega)
  have e5 : (ak == 5) = false := beq_eq_false_iff_ne.2 (by omega)
  have e6 : (ak == 6) = false := beq_eq_false_iff_ne.2 (by omega)
  clear ha
  go_enter Try.func17, Try.ntmps17
  go_wp2
  go_ret
  exact ⟨rv, mv, rv2, mv2, rfl, S0, Upd.ofBelow V0⟩
theorem bq_clear {w0 w w1 w2 : World} {b q : Nat} {rv mv rv2 mv2 : Value} {rs : List Rec} {ms : List Nat} (h : Bq w0 w b q rv mv rv2 mv2 rs ms) (g1 : Bt w1 b nilv nilv [] []) (g2 : Upd (fun k => k = b) w w1) (k1 : Blk w2 q 46 [nilv, nilv]) (k2 : Upd (fun k => k = q) w1 w2) :
    Bq w0 w2 b q nilv nilv nilv nilv [] [] ∧ Upd (Sb b q rv mv) w w2 := by
  have n1 := Blk.ne h.p.blk h.r.blk (by decide)
  refine ⟨⟨Upd.bel (Upd.bel h.bel g2 (fun k hk => by rw [hk]; exact h.yb)) k2 (fun k hk => by rw [hk]; exact h.yq), g1.upd k2 n1 (fun k hk => by cases hk) (fun k hk => by cases hk), ?_, fun k hk => (by cases hk), fun k hk => (by cases hk), fun k hk => (by cases hk), by simp [Value.ownBlock], h.yb, h.yq, fun k hk => (by cases hk), fun k hk => (by cases hk), ⟨by simp, by simp [szs]⟩, by simp, rfl, by simp, by simp⟩, ?_⟩
  · have e := Qt.new w2
    exact ⟨k1, .inl ⟨none, 0, rfl, rfl⟩, World.ownsRow_nil _ _ _ _, by simp [Value.ownBlock], e.cap, fun k hk => by cases hk⟩
  · exact (g2.mono (fun k _ hk => .inl hk)).trans (k2.mono (fun k _ hk => .inr (.inl hk)))
set_option maxRecDepth 100000 in
set_option maxHeartbeats 1000000 in
/-- The act 3: both are emptied. -/
theorem does_clear {w0 w : World} {b q : Nat} {rv mv rv2 mv2 : Value} {rs : List Rec} {ms : List Nat} (h : Bq w0 w b q rv mv rv2 mv2 rs ms) (nm : Bool) (f kd : Int) (key val : ByteArray) (sv : Value) :
    Calls Try.prog 17 #[.agg #[ptr b, ptr q], actV 3 nm f kd key val sv] w (PairPost w0 w b q rv mv [] []) := by
  have lb := h.p.blk.lt
  have lq := h.r.blk.lt
  have V0 : Below w.heap.size w ((w.alloc (.cells #[ptr b, ptr q] 48)).alloc (.cells #[.int .i64 3, .bool nm, .int .u32 f, .int .i64 kd, .string key, .string val, sv] 51)) := ((Below.refl w.heap.size w).alloc (Nat.le_refl _) _).alloc (by simp) _
  have S0 := h.step V0
  have B1 : Blk ((w.alloc (.cells #[ptr b, ptr q] 48)).alloc (.cells #[.int .i64 3, .bool nm, .int .u32 f, .int .i64 kd, .string key, .string val, sv] 51)) w.heap.size 48 [ptr b, ptr q] := (Blk.new w 48 [ptr b, ptr q]).alloc _
  have n1 := Blk.ne S0.r.blk S0.p.blk (by decide)
  go_enter Try.func17, Try.ntmps17
  go_upto_region 16 with (go_at_call 46; refine (clear_any S0.p).mono ?_; rintro e w1 ⟨⟨v, rfl⟩, g1, g2⟩; have C1 := B1.upd g2 (by omega); have y0 := C1.cell1 0 _ rfl; have y1 := C1.cell1 1 _ rfl; have Q1 := S0.r.blk.upd g2 n1; have q0 := Q1.cell1 0 _ rfl; have q1 := Q1.cell1 1 _ rfl; have fq0 := Q1.frozen 0; have fq1 := Q1.frozen 1)
  have hqs : q ≠ w.heap.size := by omega
  go_region
  all_goals
    go_wp2
    go_ret
    have U2 : Upd (fun k => k = q) w1 (((w1.drew).setCell ⟨q, 0, none⟩ nilv).setCell ⟨q, 1, none⟩ nilv) := Upd.setCell (S := fun k => k = q) (p := ⟨q, 1, none⟩) (Upd.setCell (S := fun k => k = q) (p := ⟨q, 0, none⟩) ((Upd.refl _ w1).drew) (fun _ => rfl) _) (fun _ => rfl) _
    have hE := bq_clear S0 g1 g2 ((Q1.drew.set 0 nilv).set 1 nilv) U2
    exact ⟨nilv, nilv, nilv, nilv, rfl, hE.1, (Upd.ofBelow V0).trans hE.2⟩
end Go.Proofs.Ytkpijoogaicodaa
namespace Go.Proofs.Ytkpijoogaicodaa
open Go.RowKit
set_option linter.unusedVariables false
set_option linter.unusedSimpArgs false
/-- The program has gone ahead; the reference is as it was. -/
theorem Bq.pfirst {w0 w w1 : World} {b q : Nat} {rv mv rv2 mv2 : Value} {rs : List Rec} {ms : List Nat} (h : Bq w0 w b q rv mv rv2 mv2 rs ms) (u : Upd (Of b rv) w w1) : Qt w1 q rv2 mv2 rs ms := by
  have n1 := Blk.ne h.r.blk h.p.blk (by decide)
  have n2 := row_ne h.p.row h.r.blk (by decide)
  refine h.r.upd u ?_ ?_ ?_
  · rintro (e | e)
    · exact n1 e
    · exact n2 q e rfl
  · rintro k hk (rfl | e)
    · exact h.nb hk
    · exact h.d1 k e hk
  · rintro k hk (rfl | e)
    · exact row_ne h.r.marks h.p.blk (by decide) _ hk rfl
    · exact row_row_ne h.r.marks h.p.row (by decide) k hk e
theorem bq_both {w0 w w1 w2 : World} {b q : Nat} {rv mv rv2 mv2 rv' rv2' : Value} {rs rs2 : List Rec} {ms : List Nat} (h : Bq w0 w b q rv mv rv2 mv2 rs ms)
    (g1 : Bt w1 b rv' mv rs2 ms) (g2 : Upd (Of b rv) w w1) (g3 : rv'.ownBlock = rv.ownBlock ∨ ∀ j, rv'.ownBlock = some j → w.heap.size ≤ j)
    (k1 : Qt w2 q rv2' mv2 rs2 ms) (k2 : Upd (fun k => k = q) w1 w2) (k3 : rv2' = rv2 ∨ ∀ j, rv2'.ownBlock = some j → w1.heap.size ≤ j)
    (hg : Good rs2) (hf : ∀ r ∈ rs2, Fine r) (hpl : Pl rs2) (hck : ∀ r ∈ rs2, rchk r = 0) (hmk : (ms ++ [rs2.length]).Pairwise (· ≤ ·)) :
    Bq w0 w2 b q rv' mv rv2' mv2 rs2 ms ∧ Upd (Sb b q rv mv) w w2 := by
  have hq := h.pfirst g2
  have e1 := Upd.bel h.bel g2 (of_new h.yb h.yr)
  refine ⟨⟨Upd.bel e1 k2 (fun k hk => by rw [hk]; exact h.yq), g1.upd k2 (Blk.ne g1.blk hq.blk (by decide)) (row_ne g1.row hq.blk (by decide)) (row_ne g1.marks hq.blk (by decide)), k1, ?_, h.d2, ?_, ?_, h.yb, h.yq, h.yr.step h.bel.size g3, h.ym, hg, hf, hpl, hck, hmk⟩, ?_⟩
  · intro k hk hk'
    rcases k3 with rfl | k3
    · rcases g3 with e | e
      · rw [e] at hk; exact h.d1 k hk hk'
      · have := e k hk; have := h.r.lt k hk'; omega
    · have := k3 k hk'; have := (g1.row.lt k hk).2; omega
  · intro k hk hk'
    rcases k3 with rfl | k3
    · exact h.d3 k hk hk'
    · have := k3 k hk'; have := (g1.marks.lt k hk).2; omega
  · intro e
    rcases k3 with rfl | k3
    · exact h.nb e
    · have := k3 b e; have := g1.blk.lt; omega
  · exact (g2.mono (fun k _ hk => by
      rcases hk with e | e
      · exact .inl e
      · exact .inr (.inr (.inl e)))).trans (k2.mono (fun k _ hk => .inr (.inl hk)))
theorem val_small {rs : List Rec} (hp : Pl rs) (hc : ∀ r ∈ rs, rchk r = 0) : ∀ r ∈ rs, (r.val.size : Int) ≤ 9223372036854775807 := by
  intro r hr
  have h1 := rchk_zero (hc r hr)
  by_cases hk : r.kind = 0
  · have hpl : plainR r = r := by
      unfold Pl at hp
      obtain ⟨i, hi, e⟩ := List.getElem_of_mem hr
      have : (rs.map plainR)[i]'(by simpa using hi) = rs[i] := by simp only [hp]
      rw [List.getElem_map, e] at this
      exact this
    unfold plainR at hpl
    rw [if_pos hk] at hpl
    rw [← hpl]
    show ((0 : Nat) : Int) ≤ _
    decide
  · have := h1.2.1 hk
    omega
theorem apL_all {p : Rec → Prop} {rs os : List Rec} (h : ∀ r ∈ rs, p r) (k : ∀ r ∈ os, p r) : ∀ r ∈ apL rs os, p r := by
  unfold apL
  split
  · intro r hr
    exact (List.mem_append.1 hr).elim (h r) (k r)
  · exact h
theorem Pl.ap {rs os : List Rec} (h : Pl rs) (k : Pl os) : Pl (apL rs os) := by
  unfold apL
  split
  · exact h.app k
  · exact h
theorem apL_len (rs os : List Rec) : rs.length ≤ (apL rs os).length := by
  unfold apL
  split <;> simp
theorem step_call25 {ops : Array Oper} {o : Oper} {a : Act} {w : World} {K : Act → World → Prop} {Q : Exit → Act → World → Prop} {Ex : Prop} (hw : Region.wanted o (yielded ops a.tmps) = true) {d : Nat} (hd' : o.dst = some d) (x y : Operand) (ts : Array TypeId)
    (ho : o.op = .call { callee := .value (.func 25), args := #[x, y], argTypes := ts }) (u v : Value) (hx : a.eval x = u) (hy : a.eval y = v) {R : Ending → World → Prop} (hc : Calls Try.prog 25 #[u, v] w R)
    (h : ∀ e w', R e w' → ∃ r, e = .returned r ∧ K (a.put (some d) r) w') :
    if Region.wanted o (yielded ops a.tmps) = true then Oper.wp Try.prog o a w K Q else Ex := by
  rw [if_pos hw]
  have he := enters_of (P := Try.prog) Try.func25 (by kernel_rfl) rfl #[u, v]
  unfold Oper.wp execOp
  simp only [ho, resolve, invoke, Sem.run_bind, Sem.run_pure, Result.andThen_ok, List.map_toArray, List.map_cons, List.map_nil, hx, hy, go_sem]
  show Oper.upon Try.prog o a K Q (Sem.run Try.prog (callFunc 25 (#[] ++ #[a.eval x, a.eval y] ++ #[])) w)
  rw [show (#[] ++ #[a.eval x, a.eval y] ++ #[] : Array Value) = #[u, v] by simp [hx, hy], he, Oper.upon_enter]
  refine hc.mono ?_
  intro e w' hR
  obtain ⟨r, rfl, hk⟩ := h e w' hR
  show K (a.put o.dst r) w'
  rw [hd']
  exact hk
theorem step_call45 {ops : Array Oper} {o : Oper} {a : Act} {w : World} {K : Act → World → Prop} {Q : Exit → Act → World → Prop} {Ex : Prop} (hw : Region.wanted o (yielded ops a.tmps) = true) {d : Nat} (hd' : o.dst = some d) (x y : Operand) (ts : Array TypeId)
    (ho : o.op = .call { callee := .value (.func 45), args := #[x, y], argTypes := ts }) (u v : Value) (hx : a.eval x = u) (hy : a.eval y = v) {R : Ending → World → Prop} (hc : Calls Try.prog 45 #[u, v] w R)
    (h : ∀ e w', R e w' → ∃ r, e = .returned r ∧ K (a.put (some d) r) w') :
    if Region.wanted o (yielded ops a.tmps) = true then Oper.wp Try.prog o a w K Q else Ex := by
  rw [if_pos hw]
  have he := enters_of (P := Try.prog) Try.func45 (by kernel_rfl) rfl #[u, v]
  unfold Oper.wp execOp
  simp only [ho, resolve, invoke, Sem.run_bind, Sem.run_pure, Result.andThen_ok, List.map_toArray, List.map_cons, List.map_nil, hx, hy, go_sem]
  show Oper.upon Try.prog o a K Q (Sem.run Try.prog (callFunc 45 (#[] ++ #[a.eval x, a.eval y] ++ #[])) w)
  rw [show (#[] ++ #[a.eval x, a.eval y] ++ #[] : Array Value) = #[u, v] by simp [hx, hy], he, Oper.upon_enter]
  refine hc.mono ?_
  intro e w' hR
  obtain ⟨r, rfl, hk⟩ := h e w' hR
  show K (a.put o.dst r) w'
  rw [hd']
  exact hk
end Go.Proofs.Ytkpijoogaicodaa
