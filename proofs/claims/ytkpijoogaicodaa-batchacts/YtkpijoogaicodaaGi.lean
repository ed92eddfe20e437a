import Derived.Test.YtkpijoogaicodaaGh
import Derived.Test.YtkpijoogaicodaaGe
namespace Go.Proofs.Ytkpijoogaicodaa
open Go.RowKit
set_option linter.unusedVariables false
set_option linter.unusedSimpArgs false

/-- Behind a step of the program on its marks alone the reference is as it was. -/
theorem Bq.marksP {w0 w w1 : World} {b q : Nat} {rv mv rv2 mv2 : Value} {rs : List Rec} {ms : List Nat} (h : Bq w0 w b q rv mv rv2 mv2 rs ms) (u : Upd (OfM b mv) w w1) : Qt w1 q rv2 mv2 rs ms := by
  refine h.r.upd u ?_ ?_ ?_
  · rintro (e | e)
    · exact Blk.ne h.r.blk h.p.blk (by decide) e
    · exact row_ne h.p.marks h.r.blk (by decide) q e rfl
  · rintro k hk (rfl | e)
    · exact h.nb hk
    · exact h.d3 k e hk
  · rintro k hk (rfl | e)
    · exact row_ne h.r.marks h.p.blk (by decide) _ hk rfl
    · exact h.d2 k e hk
theorem does_save_end {w0 w w1 w2 : World} {b q : Nat} {rv mv rv2 mv2 mv' mv2' : Value} {rs : List Rec} {ms : List Nat} (h : Bq w0 w b q rv mv rv2 mv2 rs ms)
    (g1 : Bt w1 b rv mv' rs (ms ++ [rs.length])) (g2 : Upd (OfM b mv) w w1) (g3 : mv'.ownBlock = mv.ownBlock ∨ ∀ j, mv'.ownBlock = some j → w.heap.size ≤ j)
    (k1 : Qt w2 q rv2 mv2' rs (ms ++ [rs.length])) (k2 : Upd (fun k => k = q) w1 w2) (k3 : ∀ j, mv2'.ownBlock = some j → w1.heap.size ≤ j) :
    Bq w0 w2 b q rv mv' rv2 mv2' rs (ms ++ [rs.length]) ∧ Upd (Sb b q rv mv) w w2 := by
  have hq := h.marksP g2
  have e1 := Upd.bel h.bel g2 (ofm_new h.yb h.ym)
  refine ⟨⟨Upd.bel e1 k2 (fun k hk => by rw [hk]; exact h.yq), g1.upd k2 (Blk.ne g1.blk hq.blk (by decide)) (row_ne g1.row hq.blk (by decide)) (row_ne g1.marks hq.blk (by decide)), k1, h.d1, ?_, ?_, h.nb, h.yb, h.yq, h.yr, h.ym.step h.bel.size g3, h.good, h.fine, h.pl, h.ck, mk_save h.up⟩, ?_⟩
  · intro k hk hk'
    have := k3 k hk'; have := (g1.marks.lt k hk).2; omega
  · intro k hk hk'
    rcases g3 with e | e
    · rw [e] at hk; exact h.d3 k hk hk'
    · have := e k hk; have := h.r.lt k hk'; omega
  · exact (g2.mono (fun k _ hk => by
      rcases hk with e | e
      · exact .inl e
      · exact .inr (.inr (.inr e)))).trans (k2.mono (fun k _ hk => .inr (.inl hk)))
set_option maxRecDepth 100000 in
set_option maxHeartbeats 1000000 in
theorem does_save {w0 w : World} {b q : Nat} {rv mv rv2 mv2 : Value} {rs : List Rec} {ms : List Nat} (h : Bq w0 w b q rv mv rv2 mv2 rs ms) (hl : ms.length ≤ 10000000000000) (nm : Bool) (f kd : Int) (key val : ByteArray) (sv : Value) :
    Calls Try.prog 17 #[.agg #[ptr b, ptr q], actV 4 nm f kd key val sv] w (PairPost w0 w b q rv mv rs (ms ++ [rs.length])) := by
  have lb := h.p.blk.lt
  have lq := h.r.blk.lt
  have V0 : Below w.heap.size w ((w.alloc (.cells #[ptr b, ptr q] 48)).alloc (.cells #[.int .i64 4, .bool nm, .int .u32 f, .int .i64 kd, .string key, .string val, sv] 51)) := ((Below.refl w.heap.size w).alloc (Nat.le_refl _) _).alloc (by simp) _
  have S0 := h.step V0
  have B1 : Blk ((w.alloc (.cells #[ptr b, ptr q] 48)).alloc (.cells #[.int .i64 4, .bool nm, .int .u32 f, .int .i64 kd, .string key, .string val, sv] 51)) w.heap.size 48 [ptr b, ptr q] := (Blk.new w 48 [ptr b, ptr q]).alloc _
  have hmn : mv.ownBlock ≠ some w.heap.size := fun e => by have := (h.p.marks.lt _ e).2; omega
  have hof : ¬ OfM b mv w.heap.size := by
    rintro (e | e)
    · omega
    · exact hmn e
  go_enter Try.func17, Try.ntmps17
  go_wp2_with (first
    | (go_at_call 47; refine (qsave_any (S0.marksP g2) hl).mono ?_; rintro e w2 ⟨mv2', rfl, k1, k2, k3⟩)
    | (go_at_call 22; refine (save_any S0.p hl).mono ?_; rintro e w1 ⟨mv', rfl, g1, g2, g3⟩; have C1 := B1.upd g2 hof; have y0 := C1.cell1 0 _ rfl; have y1 := C1.cell1 1 _ rfl))
  go_ret
  have hE := does_save_end S0 g1 g2 g3 k1 k2 k3
  exact ⟨rv, mv', rv2, mv2', rfl, hE.1, (Upd.ofBelow V0).trans hE.2⟩
theorem up_last {ms : List Nat} {m n : Nat} (h : (ms ++ [m] ++ [n]).Pairwise (· ≤ ·)) : m ≤ n ∧ (ms ++ [m]).Pairwise (· ≤ ·) ∧ (ms ++ [n]).Pairwise (· ≤ ·) := by
  rw [List.pairwise_append] at h
  have h1 := h.2.2 m (by simp) n (by simp)
  exact ⟨h1, h.1, mk_le h.1 h1⟩
theorem does_drop_end {w0 w w1 w2 : World} {b q : Nat} {rv mv rv2 mv2 mv' rv2' mv2' : Value} {rs : List Rec} {ms : List Nat} {m : Nat} (h : Bq w0 w b q rv mv rv2 mv2 rs (ms ++ [m]))
    (g1 : Bt w1 b rv mv' rs ms) (g2 : Upd (fun k => k = b) w w1) (g3 : mv'.ownBlock = mv.ownBlock)
    (k1 : Qt w2 q rv2' mv2' rs ms) (k2 : Upd (fun k => k = q) w1 w2) (k3 : rv2'.ownBlock = rv2.ownBlock) (k4 : mv2'.ownBlock = mv2.ownBlock) :
    Bq w0 w2 b q rv mv' rv2' mv2' rs ms ∧ Upd (Sb b q rv mv) w w2 := by
  have hq : Qt w1 q rv2 mv2 rs (ms ++ [m]) := h.marksP (g2.mono fun k _ hk => .inl hk)
  have e1 := Upd.bel h.bel g2 (fun k hk => by rw [hk]; exact h.yb)
  refine ⟨⟨Upd.bel e1 k2 (fun k hk => by rw [hk]; exact h.yq), g1.upd k2 (Blk.ne g1.blk hq.blk (by decide)) (row_ne g1.row hq.blk (by decide)) (row_ne g1.marks hq.blk (by decide)), k1, ?_, ?_, ?_, by rw [k3]; exact h.nb, h.yb, h.yq, h.yr, ?_, h.good, h.fine, h.pl, h.ck, (up_last h.up).2.2⟩, ?_⟩
  · intro k hk hk'; rw [k3] at hk'; exact h.d1 k hk hk'
  · intro k hk hk'; rw [g3] at hk; rw [k4] at hk'; exact h.d2 k hk hk'
  · intro k hk hk'; rw [g3] at hk; rw [k3] at hk'; exact h.d3 k hk hk'
  · intro k hk; rw [g3] at hk; exact h.ym k hk
  · exact (g2.mono (fun k _ hk => .inl hk)).trans (k2.mono (fun k _ hk => .inr (.inl hk)))
set_option maxRecDepth 100000 in
set_option maxHeartbeats 600000 in
theorem does_drop {w0 w : World} {b q : Nat} {rv mv rv2 mv2 : Value} {rs : List Rec} {ms : List Nat} {m : Nat} (h : Bq w0 w b q rv mv rv2 mv2 rs (ms ++ [m])) (nm : Bool) (f kd : Int) (key val : ByteArray) (sv : Value) :
    Calls Try.prog 17 #[.agg #[ptr b, ptr q], actV 6 nm f kd key val sv] w (PairPost w0 w b q rv mv rs ms) := by
  have lb := h.p.blk.lt
  have lq := h.r.blk.lt
  have V0 : Below w.heap.size w ((w.alloc (.cells #[ptr b, ptr q] 48)).alloc (.cells #[.int .i64 6, .bool nm, .int .u32 f, .int .i64 kd, .string key, .string val, sv] 51)).drew := (((Below.refl w.heap.size w).alloc (Nat.le_refl _) _).alloc (by simp) _).drew
  have S0 := h.step V0
  have B1 : Blk ((w.alloc (.cells #[ptr b, ptr q] 48)).alloc (.cells #[.int .i64 6, .bool nm, .int .u32 f, .int .i64 kd, .string key, .string val, sv] 51)).drew w.heap.size 48 [ptr b, ptr q] := ((Blk.new w 48 [ptr b, ptr q]).alloc _).drew
  have hof : ¬ w.heap.size = b := by omega
  have hoq : ¬ w.heap.size = q := by omega
  have hml := (up_last h.up).1
  go_enter Try.func17, Try.ntmps17
  go_wp2
  go_region_held_law (fun w' => w'.cell? ⟨w.heap.size, 0, none⟩ = some (ptr b) ∧ w'.cell? ⟨w.heap.size, 1, none⟩ = some (ptr q))
    (first
      | (go_keep; done)
      | exact ⟨C2.cell1 0 _ rfl, C2.cell1 1 _ rfl⟩
      | exact ⟨C1.cell1 0 _ rfl, C1.cell1 1 _ rfl⟩)
    (first
      | (go_at_call 48; refine (qpop_any (S0.marksP (g2.mono fun k _ hk => .inl hk)) hml false).mono ?_; rintro e w2 ⟨rv2', mv2', rfl, k1, k2, k3, k4⟩; have C2 := C1.upd k2 hoq)
      | (go_at_call 49; refine (pop_any S0.p).mono ?_; rintro e w1 ⟨mv', rfl, g1, g2, g3⟩; have C1 := B1.upd g2 hof))
  go_wp2
  go_ret
  have hE := does_drop_end S0 g1 g2 g3 k1 k2 k3 k4
  exact ⟨rv, mv', rv2', mv2', rfl, hE.1, (Upd.ofBelow V0).trans hE.2⟩
end Go.Proofs.Ytkpijoogaicodaa
