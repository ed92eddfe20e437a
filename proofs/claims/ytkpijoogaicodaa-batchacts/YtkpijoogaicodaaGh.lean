import Derived.Test.YtkpijoogaicodaaGg
namespace Go.Proofs.Ytkpijoogaicodaa
open Go.RowKit
set_option linter.unusedVariables false
set_option linter.unusedSimpArgs false

/-- What a step of the pair may touch. -/
def Sb (b q : Nat) (rv mv : Value) : Nat → Prop := fun k => k = b ∨ k = q ∨ rv.ownBlock = some k ∨ mv.ownBlock = some k
abbrev actV (ak : Int) (nm : Bool) (f kd : Int) (key val : ByteArray) (sv : Value) : Value := .agg #[.int .i64 ak, .bool nm, .int .u32 f, .int .i64 kd, .string key, .string val, sv]
def PairPost (w0 w : World) (b q : Nat) (rv mv : Value) (rs : List Rec) (ms : List Nat) : Ending → World → Prop := fun e w' => ∃ rv' mv' rv2' mv2', e = .returned (.bool true) ∧ Bq w0 w' b q rv' mv' rv2' mv2' rs ms ∧ Upd (Sb b q rv mv) w w'
theorem pair_end {w0 w w3 w4 : World} {b q : Nat} {rv mv rv2 mv2 rv' : Value} {rs : List Rec} {ms : List Nat} {r : Rec} (H : Bh w0 w3 b q rv mv rv2 mv2 rs (addL rs r) ms) (hf0 : 0 ≤ r.fam) (hf1 : r.fam < 4294967296) (good : Good rs) (fine : ∀ r ∈ rs, Fine r) (pl : Pl rs) (ck : ∀ r ∈ rs, rchk r = 0) (mk : (ms ++ [rs.length]).Pairwise (· ≤ ·)) (u3 : Upd (fun k => k = q) w w3)
    (g1 : Bt w4 b rv' mv (addL rs r) ms) (g2 : Upd (Of b rv) w3 w4) (g3 : rv'.ownBlock = rv.ownBlock ∨ ∀ j, rv'.ownBlock = some j → w3.heap.size ≤ j) : PairPost w0 w b q rv mv (addL rs r) ms (.returned (.bool true)) w4 := by
  refine ⟨rv', mv, rv2, mv2, rfl, H.follow g1 g2 g3 (good.add r) (fine_add fine hf0 hf1) (pl.add r) (ck_add ck) (mk_add r mk), ?_⟩
  exact (u3.mono (fun k _ hk => .inr (.inl hk))).trans (g2.mono (fun k _ hk => by
    rcases hk with e | e
    · exact .inl e
    · exact .inr (.inr (.inl e))))

set_option maxRecDepth 100000 in
set_option maxHeartbeats 1000000 in
theorem pairAdd_any {w0 w : World} {b q : Nat} {rv mv rv2 mv2 : Value} {rs : List Rec} {ms : List Nat} (h : Bq w0 w b q rv mv rv2 mv2 rs ms) (ak : Int) (nm : Bool) (f kd : Int) (key val : ByteArray) (sv : Value) (f0 : 0 ≤ f) (f1 : f < 4294967296) (hv : (val.size : Int) ≤ 9223372036854775807) :
    Calls Try.prog 44 #[.agg #[ptr b, ptr q], actV ak nm f kd key val sv] w (PairPost w0 w b q rv mv (addL rs ⟨f, kd, key, val⟩) ms) := by
  have hgl := h.good.len
  have HQ := fun (W : World) (rv2 mv2 : Value) (hr : Qt W q rv2 mv2 rs ms) (v : Value) (hh : RdR W v [⟨f, kd, key, val⟩]) => qadd_any hr hh (fun r hr => by simp at hr; subst hr; exact ⟨f0, f1⟩) (fun r hr => by simp at hr; subst hr; exact hv) h.fine (by omega) (by simp)
  unfold QAddPost at HQ
  rw [qadE_one, qadL_one h.pl] at HQ
  have HA := fun (W : World) (rv mv : Value) (hb : Bt W b rv mv rs ms) => add_any hb h.good ⟨f, kd, key, val⟩ f0 f1
  have HP := fun (W : World) (rv mv : Value) (hb : Bt W b rv mv rs ms) => put_any hb h.good f key val f0 f1
  have HD := fun (W : World) (rv mv : Value) (hb : Bt W b rv mv rs ms) => delete_any hb h.good f key f0 f1
  have HR := fun (W : World) (rv mv : Value) (hb : Bt W b rv mv rs ms) => deleteRange_any hb h.good f key val f0 f1
  unfold AddPost at HP HD HR
  rw [addE_del rs f key val, addL_del rs f key val] at HD
  dsimp only at HA
  have lb := h.p.blk.lt
  have lq := h.r.blk.lt
  have S0 := h.step (((Below.refl w.heap.size w).alloc (Nat.le_refl _) (.cells #[ptr b, ptr q] 48)).alloc (by simp) (.cells #[.int .i64 ak, .bool nm, .int .u32 f, .int .i64 kd, .string key, .string val, sv] 51))
  have S1 := S0.step ((Below.refl _ _).alloc (Nat.le_refl _) (.cells #[.int .u32 f, .int .i64 kd, .string key, .string val] 31))
  have B1 : Blk ((w.alloc (.cells #[ptr b, ptr q] 48)).alloc (.cells #[.int .i64 ak, .bool nm, .int .u32 f, .int .i64 kd, .string key, .string val, sv] 51)) w.heap.size 48 [ptr b, ptr q] := (Blk.new w 48 [ptr b, ptr q]).alloc _
  have B2 : Blk ((w.alloc (.cells #[ptr b, ptr q] 48)).alloc (.cells #[.int .i64 ak, .bool nm, .int .u32 f, .int .i64 kd, .string key, .string val, sv] 51)) (w.heap.size + 1) 51 [.int .i64 ak, .bool nm, .int .u32 f, .int .i64 kd, .string key, .string val, sv] := by
    have := Blk.new (w.alloc (.cells #[ptr b, ptr q] 48)) 51 [.int .i64 ak, .bool nm, .int .u32 f, .int .i64 kd, .string key, .string val, sv]
    rw [World.size_alloc] at this
    exact this
  have tE : ∀ x : Int, (x == x) = true := fun x => by simp
  go_enter Try.func44, Try.ntmps44
  have V0 : Below w.heap.size w (((w.alloc (.cells #[ptr b, ptr q] 48)).alloc (.cells #[.int .i64 ak, .bool nm, .int .u32 f, .int .i64 kd, .string key, .string val, sv] 51)).alloc (.cells #[.int .u32 f, .int .i64 kd, .string key, .string val] 31)) := (((Below.refl w.heap.size w).alloc (Nat.le_refl _) _).alloc (by simp) _).alloc (by simp; omega) _
  cases nm with
  | false =>
    go_wp2_with (first
      | (go_at_call 19; refine (HA _ _ _ A3.p).mono ?_; rintro e w4 ⟨rv', rfl, g1, g2, g3⟩)
      | (go_at_call 45; refine (HQ _ _ _ S1.r _ (one_rd' _ _ (by simp) ⟨f, kd, key, val⟩)).mono ?_; rintro e w3 ⟨rv2', rfl, q1, q2, q3⟩; have A3 := S1.ahead q1 q2 q3; have C1 := (B1.alloc _).upd q2 (by omega); have C2 := (B2.alloc _).upd q2 (by omega); have y0 := C1.cell1 0 _ rfl; have y1 := C1.cell1 1 _ rfl; have z1 := C2.cell1 1 _ rfl; have z2 := C2.cell1 2 _ rfl; have z3 := C2.cell1 3 _ rfl; have z4 := C2.cell1 4 _ rfl; have z5 := C2.cell1 5 _ rfl))
    go_ret
    exact pair_end A3 f0 f1 h.good h.fine h.pl h.ck h.up ((Upd.ofBelow V0).trans q2) g1 g2 g3
  | true =>
    by_cases k1 : kd = 1
    · subst k1
      go_wp2_with (first
        | (go_at_call 39; refine (HP _ _ _ A3.p).mono ?_; rintro e w4 ⟨rv', rfl, g1, g2, g3⟩)
        | (go_at_call 45; refine (HQ _ _ _ S1.r _ (one_rd' _ _ (by simp) ⟨f, 1, key, val⟩)).mono ?_; rintro e w3 ⟨rv2', rfl, q1, q2, q3⟩; have A3 := S1.ahead q1 q2 q3; have C1 := (B1.alloc _).upd q2 (by omega); have C2 := (B2.alloc _).upd q2 (by omega); have y0 := C1.cell1 0 _ rfl; have y1 := C1.cell1 1 _ rfl; have z1 := C2.cell1 1 _ rfl; have z2 := C2.cell1 2 _ rfl; have z3 := C2.cell1 3 _ rfl; have z4 := C2.cell1 4 _ rfl; have z5 := C2.cell1 5 _ rfl))
      go_ret
      exact pair_end A3 f0 f1 h.good h.fine h.pl h.ck h.up ((Upd.ofBelow V0).trans q2) g1 g2 g3
    · by_cases k0 : kd = 0
      · subst k0
        go_wp2_with (first
          | (go_at_call 65; refine (HD _ _ _ A3.p).mono ?_; rintro e w4 ⟨rv', rfl, g1, g2, g3⟩)
          | (go_at_call 45; refine (HQ _ _ _ S1.r _ (one_rd' _ _ (by simp) ⟨f, 0, key, val⟩)).mono ?_; rintro e w3 ⟨rv2', rfl, q1, q2, q3⟩; have A3 := S1.ahead q1 q2 q3; have C1 := (B1.alloc _).upd q2 (by omega); have C2 := (B2.alloc _).upd q2 (by omega); have y0 := C1.cell1 0 _ rfl; have y1 := C1.cell1 1 _ rfl; have z1 := C2.cell1 1 _ rfl; have z2 := C2.cell1 2 _ rfl; have z3 := C2.cell1 3 _ rfl; have z4 := C2.cell1 4 _ rfl; have z5 := C2.cell1 5 _ rfl))
        go_ret
        exact pair_end A3 f0 f1 h.good h.fine h.pl h.ck h.up ((Upd.ofBelow V0).trans q2) g1 g2 g3
      · by_cases k2 : kd = 2
        · subst k2
          go_wp2_with (first
            | (go_at_call 66; refine (HR _ _ _ A3.p).mono ?_; rintro e w4 ⟨rv', rfl, g1, g2, g3⟩)
            | (go_at_call 45; refine (HQ _ _ _ S1.r _ (one_rd' _ _ (by simp) ⟨f, 2, key, val⟩)).mono ?_; rintro e w3 ⟨rv2', rfl, q1, q2, q3⟩; have A3 := S1.ahead q1 q2 q3; have C1 := (B1.alloc _).upd q2 (by omega); have C2 := (B2.alloc _).upd q2 (by omega); have y0 := C1.cell1 0 _ rfl; have y1 := C1.cell1 1 _ rfl; have z1 := C2.cell1 1 _ rfl; have z2 := C2.cell1 2 _ rfl; have z3 := C2.cell1 3 _ rfl; have z4 := C2.cell1 4 _ rfl; have z5 := C2.cell1 5 _ rfl))
          go_ret
          exact pair_end A3 f0 f1 h.good h.fine h.pl h.ck h.up ((Upd.ofBelow V0).trans q2) g1 g2 g3
        · have t1 : (kd == 1) = false := by simpa using k1
          have t0 : (kd == 0) = false := by simpa using k0
          have t2 : (kd == 2) = false := by simpa using k2
          clear k1 k0 k2
          go_wp2_with (first
            | (go_at_call 19; refine (HA _ _ _ A3.p).mono ?_; rintro e w4 ⟨rv', rfl, g1, g2, g3⟩)
            | (go_at_call 45; refine (HQ _ _ _ S1.r _ (one_rd' _ _ (by simp) ⟨f, kd, key, val⟩)).mono ?_; rintro e w3 ⟨rv2', rfl, q1, q2, q3⟩; have A3 := S1.ahead q1 q2 q3; have C1 := (B1.alloc _).upd q2 (by omega); have C2 := (B2.alloc _).upd q2 (by omega); have y0 := C1.cell1 0 _ rfl; have y1 := C1.cell1 1 _ rfl; have z1 := C2.cell1 1 _ rfl; have z2 := C2.cell1 2 _ rfl; have z3 := C2.cell1 3 _ rfl; have z4 := C2.cell1 4 _ rfl; have z5 := C2.cell1 5 _ rfl))
          go_ret
          exact pair_end A3 f0 f1 h.good h.fine h.pl h.ck h.up ((Upd.ofBelow V0).trans q2) g1 g2 g3
end Go.Proofs.Ytkpijoogaicodaa
