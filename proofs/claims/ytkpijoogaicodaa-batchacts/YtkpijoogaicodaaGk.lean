import Derived.Test.YtkpijoogaicodaaGi
namespace Go.Proofs.Ytkpijoogaicodaa
open Go.RowKit
set_option linter.unusedVariables false
set_option linter.unusedSimpArgs false

theorem Good.take {rs : List Rec} (h : Good rs) (m : Nat) : Good (rs.take m) := ⟨by have := h.len; rw [List.length_take]; omega, by have := h.size; have := szs_take_le rs m; omega⟩
/-- Behind Back of the program the reference is as it was. -/
theorem Bq.backP {w0 w w1 : World} {b q : Nat} {rv mv rv2 mv2 : Value} {rs : List Rec} {ms : List Nat} (h : Bq w0 w b q rv mv rv2 mv2 rs ms) (u : Upd (OfA b rv mv) w w1) : Qt w1 q rv2 mv2 rs ms := by
  refine h.r.upd u ?_ ?_ ?_
  · rintro (e | e | e)
    · exact Blk.ne h.r.blk h.p.blk (by decide) e
    · exact row_ne h.p.row h.r.blk (by decide) q e rfl
    · exact row_ne h.p.marks h.r.blk (by decide) q e rfl
  · rintro k hk (rfl | e | e)
    · exact h.nb hk
    · exact h.d1 k e hk
    · exact h.d3 k e hk
  · rintro k hk (rfl | e | e)
    · exact row_ne h.r.marks h.p.blk (by decide) _ hk rfl
    · exact row_row_ne h.r.marks h.p.row (by decide) k hk e
    · exact h.d2 k e hk
theorem does_back_end {w0 w w1 w2 : World} {b q : Nat} {rv mv rv2 mv2 rv' mv' rv2' mv2' : Value} {rs : List Rec} {ms : List Nat} {m : Nat} (h : Bq w0 w b q rv mv rv2 mv2 rs (ms ++ [m]))
    (g1 : Bt w1 b rv' mv' (rs.take m) ms) (g2 : Upd (OfA b rv mv) w w1) (g4 : rv'.ownBlock = rv.ownBlock) (g3 : mv'.ownBlock = mv.ownBlock)
    (k1 : Qt w2 q rv2' mv2' (rs.take m) ms) (k2 : Upd (fun k => k = q) w1 w2) (k3 : rv2'.ownBlock = rv2.ownBlock) (k4 : mv2'.ownBlock = mv2.ownBlock) :
    Bq w0 w2 b q rv' mv' rv2' mv2' (rs.take m) ms ∧ Upd (Sb b q rv mv) w w2 := by
  have hq := h.backP g2
  obtain ⟨u1, u2, u3⟩ := up_last h.up
  have e1 := Upd.bel h.bel g2 (by
    rintro k (e | e | e)
    · rw [e]; exact h.yb
    · exact h.yr k e
    · exact h.ym k e)
  have hlen : (rs.take m).length = m := by rw [List.length_take]; omega
  refine ⟨⟨Upd.bel e1 k2 (fun k hk => by rw [hk]; exact h.yq), g1.upd k2 (Blk.ne g1.blk hq.blk (by decide)) (row_ne g1.row hq.blk (by decide)) (row_ne g1.marks hq.blk (by decide)), k1, ?_, ?_, ?_, by rw [k3]; exact h.nb, h.yb, h.yq, ?_, ?_, h.good.take m, fun r hr => h.fine r (List.mem_of_mem_take hr), h.pl.take m, fun r hr => h.ck r (List.mem_of_mem_take hr), by rw [hlen]; exact u2⟩, ?_⟩
  · intro k hk hk'; rw [g4] at hk; rw [k3] at hk'; exact h.d1 k hk hk'
  · intro k hk hk'; rw [g3] at hk; rw [k4] at hk'; exact h.d2 k hk hk'
  · intro k hk hk'; rw [g3] at hk; rw [k3] at hk'; exact h.d3 k hk hk'
  · intro k hk; rw [g4] at hk; exact h.yr k hk
  · intro k hk; rw [g3] at hk; exact h.ym k hk
  · exact (g2.mono (fun k _ hk => by
      rcases hk with e | e | e
      · exact .inl e
      · exact .inr (.inr (.inl e))
      · exact .inr (.inr (.inr e)))).trans (k2.mono (fun k _ hk => .inr (.inl hk)))
set_option maxRecDepth 100000 in
set_option maxHeartbeats 600000 in
theorem does_back {w0 w : World} {b q : Nat} {rv mv rv2 mv2 : Value} {rs : List Rec} {ms : List Nat} {m : Nat} (h : Bq w0 w b q rv mv rv2 mv2 rs (ms ++ [m])) (nm : Bool) (f kd : Int) (key val : ByteArray) (sv : Value) :
    Calls Try.prog 17 #[.agg #[ptr b, ptr q], actV 5 nm f kd key val sv] w (PairPost w0 w b q rv mv (rs.take m) ms) := by
  have lb := h.p.blk.lt
  have lq := h.r.blk.lt
  have V0 : Below w.heap.size w ((w.alloc (.cells #[ptr b, ptr q] 48)).alloc (.cells #[.int .i64 5, .bool nm, .int .u32 f, .int .i64 kd, .string key, .string val, sv] 51)).drew := (((Below.refl w.heap.size w).alloc (Nat.le_refl _) _).alloc (by simp) _).drew
  have S0 := h.step V0
  have B1 : Blk ((w.alloc (.cells #[ptr b, ptr q] 48)).alloc (.cells #[.int .i64 5, .bool nm, .int .u32 f, .int .i64 kd, .string key, .string val, sv] 51)).drew w.heap.size 48 [ptr b, ptr q] := ((Blk.new w 48 [ptr b, ptr q]).alloc _).drew
  have hof : ¬ OfA b rv mv w.heap.size := by
    rintro (e | e | e)
    · omega
    · have := (h.p.row.lt _ e).2; omega
    · have := (h.p.marks.lt _ e).2; omega
  have hoq : ¬ w.heap.size = q := by omega
  have hml := (up_last h.up).1
  go_enter Try.func17, Try.ntmps17
  go_wp2
  go_region_held_law (fun w' => w'.cell? ⟨w.heap.size, 0, none⟩ = some (ptr b) ∧ w'.cell? ⟨w.heap.size, 1, none⟩ = some (ptr q))
    (first
      | (go_keep; done)
      | exact ⟨C2.cell1 0 _ rfl, C2.cell1 1 _ rfl⟩
      | exact ⟨C1.cell1 0 _ rfl, C1.cell1 1 _ rfl⟩)
    (first
      | (go_at_call 48; refine (qpop_any (S0.backP g2) hml true).mono ?_; rintro e w2 ⟨rv2', mv2', rfl, k1, k2, k3, k4⟩; have C2 := C1.upd k2 hoq)
      | (go_at_call 23; refine (back_any S0.p hml S0.good S0.fine).mono ?_; rintro e w1 ⟨rv', mv', rfl, g1, g2, g4, g3⟩; have C1 := B1.upd g2 hof))
  go_wp2
  go_ret
  have hE := does_back_end S0 g1 g2 g4 g3 k1 k2 k3 k4
  exact ⟨rv', mv', rv2', mv2', rfl, hE.1, (Upd.ofBelow V0).trans hE.2⟩
end Go.Proofs.Ytkpijoogaicodaa
