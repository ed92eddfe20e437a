import Derived.Test.YtkpijoogaicodaaGk
import Derived.Test.YtkpijoogaicodaaSc
namespace Go.Proofs.Ytkpijoogaicodaa
open Go.RowKit
set_option linter.unusedVariables false
set_option linter.unusedSimpArgs false
set_option maxRecDepth 100000 in
set_option maxHeartbeats 1000000 in
/-- The act 0: a record is added to both. -/
theorem does_add {w0 w : World} {b q : Nat} {rv mv rv2 mv2 : Value} {rs : List Rec} {ms : List Nat} (h : Bq w0 w b q rv mv rv2 mv2 rs ms) (nm : Bool) (f kd : Int) (key val : ByteArray) (sv : Value) (f0 : 0 ≤ f) (f1 : f < 4294967296) (hv : (val.size : Int) ≤ 9223372036854775807) :
    Calls Try.prog 17 #[.agg #[ptr b, ptr q], actV 0 nm f kd key val sv] w (PairPost w0 w b q rv mv (addL rs ⟨f, kd, key, val⟩) ms) := by
  have V0 : Below w.heap.size w ((w.alloc (.cells #[ptr b, ptr q] 48)).alloc (.cells #[.int .i64 0, .bool nm, .int .u32 f, .int .i64 kd, .string key, .string val, sv] 51)) := ((Below.refl w.heap.size w).alloc (Nat.le_refl _) _).alloc (by simp) _
  have S0 := h.step V0
  have HA := pairAdd_any S0 0 nm f kd key val sv f0 f1 hv
  go_enter Try.func17, Try.ntmps17
  go_wp2_with (go_at_call 44; refine HA.mono ?_; rintro e w1 ⟨rv', mv', rv2', mv2', rfl, hb, hu⟩)
  go_ret
  exact ⟨rv', mv', rv2', mv2', rfl, hb, (Upd.ofBelow V0).trans hu⟩
set_option maxRecDepth 100000 in
set_option maxHeartbeats 1000000 in
/-- Any other act: nothing. -/
theorem does_other {w0 w : World} {b q : Nat} {rv mv rv2 mv2 : Value} {rs : List Rec} {ms : List Nat} (h : Bq w0 w b q rv mv rv2 mv2 rs ms) (ak : Int) (ha : ak < 0 ∨ 6 < ak) (nm : Bool) (f kd : Int) (key val : ByteArray) (sv : Value) :
    Calls Try.prog 17 #[.agg #[ptr b, ptr q], actV ak nm f kd key val sv] w (PairPost w0 w b q rv mv rs ms) := by
  have V0 : Below w.heap.size w ((w.alloc (.cells #[ptr b, ptr q] 48)).alloc (.cells #[.int .i64 ak, .bool nm, .int .u32 f, .int .i64 kd, .string key, .string val, sv] 51)) := ((Below.refl w.heap.size w).alloc (Nat.le_refl _) _).alloc (by simp) _
  have S0 := h.step V0
  have e0 : (ak == 0) = false := beq_eq_false_iff_ne.2 (by omega)
  have e1 : (ak == 1) = false := beq_eq_false_iff_ne.2 (by omega)
  have e2 : (ak == 2) = false := beq_eq_false_iff_ne.2 (by omega)
  have e3 : (ak == 3) = false := beq_eq_false_iff_ne.2 (by omega)
  have e4 : (ak == 4) = false := beq_eq_false_iff_ne.2 (by omega)
  have e5 : (ak == 5) = false := beq_eq_false_iff_ne.2 (by omega)
  have e6 : (ak == 6) = false := beq_eq_false_iff_ne.2 (by omega)
  clear ha
  go_enter Try.func17, Try.ntmps17
  go_wp2
  go_ret
  exact ⟨rv, mv, rv2, mv2, rfl, S0, Upd.ofBelow V0⟩
theorem bq_clear {w0 w w1 w2 : World} {b q : Nat} {rv mv rv2 mv2 : Value} {rs : List Rec} {ms : List Nat} (h : Bq w0 w b q rv mv rv2 mv2 rs ms) (g1 : Bt w1 b nilv nilv [] []) (g2 : Upd (fun k => k = b) w w1) (k1 : Blk w2 q 46 [nilv, nilv]) (k2 : Upd (fun k => k = q) w1 w2) :
    Bq w0 w2 b q nilv nilv nilv nilv [] [] ∧ Upd (Sb b q rv mv) w w2 := by
  have n1 := Blk.ne h.p.blk h.r.blk (by decide)
  refine ⟨⟨Upd.bel (Upd.bel h.bel g2 (fun k hk => by rw [hk]; exact h.yb)) k2 (fun k hk => by rw [hk]; exact h.yq), g1.upd k2 n1 (fun k hk => by cases hk) (fun k hk => by cases hk), ?_, fun k hk => (by cases hk), fun k hk => (by cases hk), fun k hk => (by cases hk), by simp [Value.ownBlock], h.yb, h.yq, fun k hk => (by cases hk), fun k hk => (by cases hk), ⟨by simp, by simp [szs]⟩, by simp, rfl, by simp, by simp⟩, ?_⟩
  · have e := Qt.new w2
    exact ⟨k1, .inl ⟨none, 0, rfl, rfl⟩, World.ownsRow_nil _ _ _ _, by simp [Value.ownBlock], e.cap, fun k hk => by cases hk⟩
  · exact (g2.mono (fun k _ hk => .inl hk)).trans (k2.mono (fun k _ hk => .inr (.inl hk)))
set_option maxRecDepth 100000 in
set_option maxHeartbeats 1000000 in
/-- The act 3: both are emptied. -/
theorem does_clear {w0 w : World} {b q : Nat} {rv mv rv2 mv2 : Value} {rs : List Rec} {ms : List Nat} (h : Bq w0 w b q rv mv rv2 mv2 rs ms) (nm : Bool) (f kd : Int) (key val : ByteArray) (sv : Value) :
    Calls Try.prog 17 #[.agg #[ptr b, ptr q], actV 3 nm f kd key val sv] w (PairPost w0 w b q rv mv [] []) := by
  have lb := h.p.blk.lt
  have lq := h.r.blk.lt
  have V0 : Below w.heap.size w ((w.alloc (.cells #[ptr b, ptr q] 48)).alloc (.cells #[.int .i64 3, .bool nm, .int .u32 f, .int .i64 kd, .string key, .string val, sv] 51)) := ((Below.refl w.heap.size w).alloc (Nat.le_refl _) _).alloc (by simp) _
  have S0 := h.step V0
  have B1 : Blk ((w.alloc (.cells #[ptr b, ptr q] 48)).alloc (.cells #[.int .i64 3, .bool nm, .int .u32 f, .int .i64 kd, .string key, .string val, sv] 51)) w.heap.size 48 [ptr b, ptr q] := (Blk.new w 48 [ptr b, ptr q]).alloc _
  have n1 := Blk.ne S0.r.blk S0.p.blk (by decide)
  go_enter Try.func17, Try.ntmps17
  go_upto_region 16 with (go_at_call 46; refine (clear_any S0.p).mono ?_; rintro e w1 ⟨⟨v, rfl⟩, g1, g2⟩; have C1 := B1.upd g2 (by omega); have y0 := C1.cell1 0 _ rfl; have y1 := C1.cell1 1 _ rfl; have Q1 := S0.r.blk.upd g2 n1; have q0 := Q1.cell1 0 _ rfl; have q1 := Q1.cell1 1 _ rfl; have fq0 := Q1.frozen 0; have fq1 := Q1.frozen 1)
  have hqs : q ≠ w.heap.size := by omega
  go_region
  all_goals
    go_wp2
    go_ret
    have U2 : Upd (fun k => k = q) w1 (((w1.drew).setCell ⟨q, 0, none⟩ nilv).setCell ⟨q, 1, none⟩ nilv) := Upd.setCell (S := fun k => k = q) (p := ⟨q, 1, none⟩) (Upd.setCell (S := fun k => k = q) (p := ⟨q, 0, none⟩) ((Upd.refl _ w1).drew) (fun _ => rfl) _) (fun _ => rfl) _
    have hE := bq_clear S0 g1 g2 ((Q1.drew.set 0 nilv).set 1 nilv) U2
    exact ⟨nilv, nilv, nilv, nilv, rfl, hE.1, (Upd.ofBelow V0).trans hE.2⟩
end Go.Proofs.Ytkpijoogaicodaa
