import Derived.Test.YtkpijoogaicodaaGi
namespace Go.Proofs.Ytkpijoogaicodaa
open Go.RowKit
set_option linter.unusedVariables false
set_option linter.unusedSimpArgs false

set_option maxRecDepth 100000 in
set_option maxHeartbeats 600000 in
theorem does_none {w0 w : World} {b q : Nat} {rv mv rv2 mv2 : Value} {rs : List Rec} (h : Bq w0 w b q rv mv rv2 mv2 rs []) (all : Bool) (nm : Bool) (f kd : Int) (key val : ByteArray) (sv : Value) :
    Calls Try.prog 17 #[.agg #[ptr b, ptr q], actV (if all = true then 5 else 6) nm f kd key val sv] w (PairPost w0 w b q rv mv rs []) := by
  have lb := h.p.blk.lt
  have lq := h.r.blk.lt
  cases all with
  | true =>
    have V0 : Below w.heap.size w ((w.alloc (.cells #[ptr b, ptr q] 48)).alloc (.cells #[.int .i64 5, .bool nm, .int .u32 f, .int .i64 kd, .string key, .string val, sv] 51)).drew := (((Below.refl w.heap.size w).alloc (Nat.le_refl _) _).alloc (by simp) _).drew
    have S0 := h.step V0
    have B1 : Blk ((w.alloc (.cells #[ptr b, ptr q] 48)).alloc (.cells #[.int .i64 5, .bool nm, .int .u32 f, .int .i64 kd, .string key, .string val, sv] 51)).drew w.heap.size 48 [ptr b, ptr q] := ((Blk.new w 48 [ptr b, ptr q]).alloc _).drew
    show Calls Try.prog 17 #[.agg #[ptr b, ptr q], actV 5 nm f kd key val sv] w _
    go_enter Try.func17, Try.ntmps17
    go_wp2
    go_region_held_law (fun w' => w'.cell? ⟨w.heap.size, 0, none⟩ = some (ptr b) ∧ w'.cell? ⟨w.heap.size, 1, none⟩ = some (ptr q))
      (first
        | (go_keep; done)
        | exact ⟨B1.cell1 0 _ rfl, B1.cell1 1 _ rfl⟩)
      (first
        | (go_at_call 48; refine (qpop_none S0.r true).mono ?_; rintro e w2 ⟨rfl, rfl⟩)
        | (go_at_call 23; refine (back_none S0.p).mono ?_; rintro e w1 ⟨rfl, rfl⟩))
    go_wp2
    go_ret
    exact ⟨rv, mv, rv2, mv2, rfl, S0, Upd.ofBelow V0⟩
  | false =>
    have V0 : Below w.heap.size w ((w.alloc (.cells #[ptr b, ptr q] 48)).alloc (.cells #[.int .i64 6, .bool nm, .int .u32 f, .int .i64 kd, .string key, .string val, sv] 51)).drew := (((Below.refl w.heap.size w).alloc (Nat.le_refl _) _).alloc (by simp) _).drew
    have S0 := h.step V0
    have B1 : Blk ((w.alloc (.cells #[ptr b, ptr q] 48)).alloc (.cells #[.int .i64 6, .bool nm, .int .u32 f, .int .i64 kd, .string key, .string val, sv] 51)).drew w.heap.size 48 [ptr b, ptr q] := ((Blk.new w 48 [ptr b, ptr q]).alloc _).drew
    show Calls Try.prog 17 #[.agg #[ptr b, ptr q], actV 6 nm f kd key val sv] w _
    go_enter Try.func17, Try.ntmps17
    go_wp2
    go_region_held_law (fun w' => w'.cell? ⟨w.heap.size, 0, none⟩ = some (ptr b) ∧ w'.cell? ⟨w.heap.size, 1, none⟩ = some (ptr q))
      (first
        | (go_keep; done)
        | exact ⟨B1.cell1 0 _ rfl, B1.cell1 1 _ rfl⟩)
      (first
        | (go_at_call 48; refine (qpop_none S0.r false).mono ?_; rintro e w2 ⟨rfl, rfl⟩)
        | (go_at_call 49; refine (pop_none S0.p).mono ?_; rintro e w1 ⟨rfl, rfl⟩))
    go_wp2
    go_ret
    exact ⟨rv, mv, rv2, mv2, rfl, S0, Upd.ofBelow V0⟩
end Go.Proofs.Ytkpijoogaicodaa
