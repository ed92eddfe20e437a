import Derived.Test.YtkpijoogaicodaaPc
import Derived.Test.YtkpijoogaicodaaMw
import Derived.Test.YtkpijoogaicodaaPa
namespace Go.Proofs.Ytkpijoogaicodaa
open Go.RowKit
set_option linter.unusedVariables false
set_option linter.unusedSimpArgs false

/-- Records that tell of no value where they have none. -/
def Pl (l : List Rec) : Prop := l.map plainR = l
theorem plainR_idem (r : Rec) : plainR (plainR r) = plainR r := by
  unfold plainR
  by_cases h : r.kind = 0
  · simp [h]
  · simp [h]
theorem Pl.nil : Pl [] := rfl
theorem Pl.map (l : List Rec) : Pl (l.map plainR) := by
  unfold Pl
  rw [List.map_map]
  exact List.map_congr_left fun r _ => plainR_idem r
theorem Pl.take {l : List Rec} (h : Pl l) (m : Nat) : Pl (l.take m) := by
  unfold Pl at *
  rw [List.map_take, h]
theorem Pl.app {l m : List Rec} (h : Pl l) (k : Pl m) : Pl (l ++ m) := by
  unfold Pl at *
  rw [List.map_append, h, k]
theorem Pl.one (r : Rec) : Pl [plainR r] := by unfold Pl; simp [plainR_idem]
theorem Pl.add {rs : List Rec} (h : Pl rs) (r : Rec) : Pl (addL rs r) := by
  unfold addL
  split
  · exact h.app (Pl.one r)
  · exact h
theorem fbad_one (r : Rec) : fbad [r] = rchk r := by
  unfold fbad
  split
  · rename_i h; rw [h]; rfl
  · rfl
/-- One record: the program's Add and the reference's answer the same. -/
theorem qadE_one (rs : List Rec) (r : Rec) : qadE rs [r] = addE rs r := by
  unfold qadE addE
  rw [fbad_one, szs_snoc]
  simp only [List.length_singleton, Nat.add_assoc]
theorem qadL_one {rs : List Rec} (h : Pl rs) (r : Rec) : qadL rs [r] = addL rs r := by
  unfold qadL addL
  rw [qadE_one]
  split
  · rw [List.map_append, h]; rfl
  · rfl
/-- What Delete adds is what a record of its kind, whatever its value, adds. -/
theorem addE_del (rs : List Rec) (f : Int) (key val : ByteArray) : addE rs ⟨f, 0, key, ⟨#[]⟩⟩ = addE rs ⟨f, 0, key, val⟩ := by
  simp [addE, rchk, chk, rz, rsz]
theorem addL_del (rs : List Rec) (f : Int) (key val : ByteArray) : addL rs ⟨f, 0, key, ⟨#[]⟩⟩ = addL rs ⟨f, 0, key, val⟩ := by
  unfold addL
  rw [addE_del rs f key val]
  simp [plainR]
theorem szs_map_plain (l : List Rec) : szs (l.map plainR) = szs l := by
  induction l with
  | nil => rfl
  | cons r l ih =>
    have := rz_plain r
    simp only [rz] at this
    simp [szs, ih, this]
theorem rchk_plain {r : Rec} (h : rchk r = 0) : rchk (plainR r) = 0 := by
  unfold plainR
  split
  · rename_i hk
    have hz := rchk_zero h
    unfold rchk chk
    dsimp only
    rw [if_neg (by omega), if_neg (by omega), if_neg (fun hh => hh.1 hk)]
  · exact h
/-- Append: many plain records that a Batch held. -/
theorem qadE_many {rs os : List Rec} (hc : ∀ r ∈ os, rchk r = 0) : qadE rs os = apE rs os := by
  unfold qadE apE
  rw [if_neg (by rw [fbad_zero hc]; decide), szs_app]
  simp only [Nat.add_assoc]
theorem qadL_many {rs os : List Rec} (h : Pl rs) (k : Pl os) (hc : ∀ r ∈ os, rchk r = 0) : qadL rs os = apL rs os := by
  unfold qadL apL
  rw [qadE_many hc]
  split
  · exact h.app k
  · rfl
end Go.Proofs.Ytkpijoogaicodaa
namespace Go.Proofs.Ytkpijoogaicodaa
open Go.RowKit
set_option linter.unusedVariables false
set_option linter.unusedSimpArgs false

/-- The program's Batch and the reference's tell the same; both lie in memory that is younger than w0. -/
structure Bq (w0 w : World) (b q : Nat) (rv mv rv2 mv2 : Value) (rs : List Rec) (ms : List Nat) : Prop where
  bel : Below w0.heap.size w0 w
  p : Bt w b rv mv rs ms
  r : Qt w q rv2 mv2 rs ms
  d1 : Dj rv rv2
  d2 : Dj mv mv2
  d3 : Dj mv rv2
  nb : rv2.ownBlock ≠ some b
  yb : w0.heap.size ≤ b
  yq : w0.heap.size ≤ q
  yr : New w0.heap.size rv
  ym : New w0.heap.size mv
  good : Good rs
  fine : ∀ r ∈ rs, Fine r
  pl : Pl rs
  ck : ∀ r ∈ rs, rchk r = 0
  up : (ms ++ [rs.length]).Pairwise (· ≤ ·)
/-- Steps that touch nothing old. -/
theorem Bq.step {w0 w w' : World} {b q : Nat} {rv mv rv2 mv2 : Value} {rs : List Rec} {ms : List Nat} (h : Bq w0 w b q rv mv rv2 mv2 rs ms) (u : Below w.heap.size w w') : Bq w0 w' b q rv mv rv2 mv2 rs ms :=
  { h with bel := bstep h.bel u, p := h.p.below u, r := h.r.below u }
/-- The reference has gone ahead by a record. -/
structure Bh (w0 w : World) (b q : Nat) (rv mv rv2 mv2 : Value) (rs rs2 : List Rec) (ms : List Nat) : Prop where
  bel : Below w0.heap.size w0 w
  p : Bt w b rv mv rs ms
  r : Qt w q rv2 mv2 rs2 ms
  d1 : Dj rv rv2
  d2 : Dj mv mv2
  d3 : Dj mv rv2
  nb : rv2.ownBlock ≠ some b
  yb : w0.heap.size ≤ b
  yq : w0.heap.size ≤ q
  yr : New w0.heap.size rv
  ym : New w0.heap.size mv
theorem Bq.ahead {w0 w w' : World} {b q : Nat} {rv mv rv2 mv2 rv2' : Value} {rs rs2 : List Rec} {ms : List Nat} (h : Bq w0 w b q rv mv rv2 mv2 rs ms) (hr : Qt w' q rv2' mv2 rs2 ms) (u : Upd (fun k => k = q) w w') (hl : rv2' = rv2 ∨ ∀ j, rv2'.ownBlock = some j → w.heap.size ≤ j) : Bh w0 w' b q rv mv rv2' mv2 rs rs2 ms := by
  have n1 := Blk.ne h.p.blk h.r.blk (by decide)
  have n2 := row_ne h.p.row h.r.blk (by decide)
  have n3 := row_ne h.p.marks h.r.blk (by decide)
  have lb := h.p.blk.lt
  have lr := h.p.row.lt
  have lm := h.p.marks.lt
  refine ⟨Upd.bel h.bel u (fun k hk => by rw [hk]; exact h.yq), h.p.upd u n1 n2 n3, hr, ?_, h.d2, ?_, ?_, h.yb, h.yq, h.yr, h.ym⟩
  · rcases hl with rfl | hl
    · exact h.d1
    · intro k hk hk'
      have := hl k hk'; have := (lr k hk).2; omega
  · rcases hl with rfl | hl
    · exact h.d3
    · intro k hk hk'
      have := hl k hk'; have := (lm k hk).2; omega
  · rcases hl with rfl | hl
    · exact h.nb
    · intro e
      have := hl b e; omega
theorem Bh.step {w0 w w' : World} {b q : Nat} {rv mv rv2 mv2 : Value} {rs rs2 : List Rec} {ms : List Nat} (h : Bh w0 w b q rv mv rv2 mv2 rs rs2 ms) (u : Below w.heap.size w w') : Bh w0 w' b q rv mv rv2 mv2 rs rs2 ms :=
  { h with bel := bstep h.bel u, p := h.p.below u, r := h.r.below u }
/-- The program has followed. -/
theorem Bh.follow {w0 w w' : World} {b q : Nat} {rv mv rv2 mv2 rv' : Value} {rs rs2 : List Rec} {ms : List Nat} (h : Bh w0 w b q rv mv rv2 mv2 rs rs2 ms) (hp : Bt w' b rv' mv rs2 ms) (u : Upd (Of b rv) w w') (hl : rv'.ownBlock = rv.ownBlock ∨ ∀ j, rv'.ownBlock = some j → w.heap.size ≤ j)
    (hg : Good rs2) (hf : ∀ r ∈ rs2, Fine r) (hpl : Pl rs2) (hck : ∀ r ∈ rs2, rchk r = 0) (hmk : (ms ++ [rs2.length]).Pairwise (· ≤ ·)) : Bq w0 w' b q rv' mv rv2 mv2 rs2 ms := by
  have n1 := Blk.ne h.r.blk h.p.blk (by decide)
  have n2 := row_ne h.p.row h.r.blk (by decide)
  refine ⟨Upd.bel h.bel u (of_new h.yb h.yr), hp, h.r.upd u ?_ ?_ ?_, ?_, h.d2, h.d3, h.nb, h.yb, h.yq, h.yr.step h.bel.size hl, h.ym, hg, hf, hpl, hck, hmk⟩
  · rintro (e | e)
    · exact n1 e
    · exact n2 q e rfl
  · rintro k hk (rfl | e)
    · exact h.nb hk
    · exact h.d1 k e hk
  · rintro k hk (rfl | e)
    · exact row_ne h.r.marks h.p.blk (by decide) _ hk rfl
    · exact row_row_ne h.r.marks h.p.row (by decide) k hk e
  · intro k hk hk'
    rcases hl with e | e
    · rw [e] at hk; exact h.d1 k hk hk'
    · have := e k hk; have := h.r.lt k hk'; omega
theorem ck_add {rs : List Rec} {r : Rec} (h : ∀ x ∈ rs, rchk x = 0) : ∀ x ∈ addL rs r, rchk x = 0 := by
  unfold addL
  split
  · rename_i he
    intro x hx
    rcases List.mem_append.1 hx with hx | hx
    · exact h x hx
    · simp at hx
      subst hx
      refine rchk_plain ?_
      unfold addE at he
      split at he
      · exact he
      · rename_i h1; simpa using h1
  · exact h
theorem mk_le {ms : List Nat} {n m : Nat} (h : (ms ++ [n]).Pairwise (· ≤ ·)) (hnm : n ≤ m) : (ms ++ [m]).Pairwise (· ≤ ·) := by
  rw [List.pairwise_append] at h ⊢
  refine ⟨h.1, by simp, fun a ha b hb => ?_⟩
  simp at hb
  have := h.2.2 a ha n (by simp)
  omega
theorem mk_add {rs : List Rec} {ms : List Nat} (r : Rec) (h : (ms ++ [rs.length]).Pairwise (· ≤ ·)) : (ms ++ [(addL rs r).length]).Pairwise (· ≤ ·) := by
  obtain ⟨t, ht⟩ := addL_ext rs r
  exact mk_le h (by rw [ht]; simp)
theorem mk_save {ms : List Nat} {n : Nat} (h : (ms ++ [n]).Pairwise (· ≤ ·)) : (ms ++ [n] ++ [n]).Pairwise (· ≤ ·) := by
  rw [List.pairwise_append]
  refine ⟨h, by simp, fun a ha b hb => ?_⟩
  simp at hb
  subst hb
  rw [List.pairwise_append] at h
  rcases List.mem_append.1 ha with ha | ha
  · exact h.2.2 a ha b (by simp)
  · simp at ha; omega
theorem RdR.own_lt {w : World} {v : Value} {l : List Rec} (h : RdR w v l) (hl : l ≠ []) : ∀ k, v.ownBlock = some k → k < w.heap.size := by
  intro k hk
  rcases h with ⟨a, c, rfl, rfl⟩ | ⟨b, off, cap, rfl, hb, _⟩
  · exact absurd rfl hl
  · simp [Value.ownBlock] at hk; omega
end Go.Proofs.Ytkpijoogaicodaa
namespace Go.Proofs.Ytkpijoogaicodaa
open Go.RowKit
set_option linter.unusedVariables false
set_option linter.unusedSimpArgs false

/-- What a step of the pair may touch. -/
def Sb (b q : Nat) (rv mv : Value) : Nat → Prop := fun k => k = b ∨ k = q ∨ rv.ownBlock = some k ∨ mv.ownBlock = some k
abbrev actV (ak : Int) (nm : Bool) (f kd : Int) (key val : ByteArray) (sv : Value) : Value := .agg #[.int .i64 ak, .bool nm, .int .u32 f, .int .i64 kd, .string key, .string val, sv]
def PairPost (w0 w : World) (b q : Nat) (rv mv : Value) (rs : List Rec) (ms : List Nat) : Ending → World → Prop := fun e w' => ∃ rv' mv' rv2' mv2', e = .returned (.bool true) ∧ Bq w0 w' b q rv' mv' rv2' mv2' rs ms ∧ Upd (Sb b q rv mv) w w'
theorem pair_end {w0 w w3 w4 : World} {b q : Nat} {rv mv rv2 mv2 rv' : Value} {rs : List Rec} {ms : List Nat} {r : Rec} (H : Bh w0 w3 b q rv mv rv2 mv2 rs (addL rs r) ms) (hf0 : 0 ≤ r.fam) (hf1 : r.fam < 4294967296) (good : Good rs) (fine : ∀ r ∈ rs, Fine r) (pl : Pl rs) (ck : ∀ r ∈ rs, rchk r = 0) (mk : (ms ++ [rs.length]).Pairwise (· ≤ ·)) (u3 : Upd (fun k => k = q) w w3)
    (g1 : Bt w4 b rv' mv (addL rs r) ms) (g2 : Upd (Of b rv) w3 w4) (g3 : rv'.ownBlock = rv.ownBlock ∨ ∀ j, rv'.ownBlock = some j → w3.heap.size ≤ j) : PairPost w0 w b q rv mv (addL rs r) ms (.returned (.bool true)) w4 := by
  refine ⟨rv', mv, rv2, mv2, rfl, H.follow g1 g2 g3 (good.add r) (fine_add fine hf0 hf1) (pl.add r) (ck_add ck) (mk_add r mk), ?_⟩
  exact (u3.mono (fun k _ hk => .inr (.inl hk))).trans (g2.mono (fun k _ hk => by
    rcases hk with e | e
    · exact .inl e
    · exact .inr (.inr (.inl e))))

set_option maxRecDepth 100000 in
set_option maxHeartbeats 1000000 in
theorem pairAdd_any {w0 w : World} {b q : Nat} {rv mv rv2 mv2 : Value} {rs : List Rec} {ms : List Nat} (h : Bq w0 w b q rv mv rv2 mv2 rs ms) (ak : Int) (nm : Bool) (f kd : Int) (key val : ByteArray) (sv : Value) (f0 : 0 ≤ f) (f1 : f < 4294967296) (hv : (val.size : Int) ≤ 9223372036854775807) :
    Calls Try.prog 44 #[.agg #[ptr b, ptr q], actV ak nm f kd key val sv] w (PairPost w0 w b q rv mv (addL rs ⟨f, kd, key, val⟩) ms) := by
  have hgl := h.good.len
  have HQ := fun (W : World) (rv2 mv2 : Value) (hr : Qt W q rv2 mv2 rs ms) (v : Value) (hh : RdR W v [⟨f, kd, key, val⟩]) => qadd_any hr hh (fun r hr => by simp at hr; subst hr; exact ⟨f0, f1⟩) (fun r hr => by simp at hr; subst hr; exact hv) h.fine (by omega) (by simp)
  unfold QAddPost at HQ
  rw [qadE_one, qadL_one h.pl] at HQ
  have HA := fun (W : World) (rv mv : Value) (hb : Bt W b rv mv rs ms) => add_any hb h.good ⟨f, kd, key, val⟩ f0 f1
  have HP := fun (W : World) (rv mv : Value) (hb : Bt W b rv mv rs ms) => put_any hb h.good f key val f0 f1
  have HD := fun (W : World) (rv mv : Value) (hb : Bt W b rv mv rs ms) => delete_any hb h.good f key f0 f1
  have HR := fun (W : World) (rv mv : Value) (hb : Bt W b rv mv rs ms) => deleteRange_any hb h.good f key val f0 f1
  unfold AddPost at HP HD HR
  rw [addE_del rs f key val, addL_del rs f key val] at HD
  dsimp only at HA
  have lb := h.p.blk.lt
  have lq := h.r.blk.lt
  have S0 := h.step (((Below.refl w.heap.size w).alloc (Nat.le_refl _) (.cells #[ptr b, ptr q] 48)).alloc (by simp) (.cells #[.int .i64 ak, .bool nm, .int .u32 f, .int .i64 kd, .string key, .string val, sv] 51))
  have S1 := S0.step ((Below.refl _ _).alloc (Nat.le_refl _) (.cells #[.int .u32 f, .int .i64 kd, .string key, .string val] 31))
  have B1 : Blk ((w.alloc (.cells #[ptr b, ptr q] 48)).alloc (.cells #[.int .i64 ak, .bool nm, .int .u32 f, .int .i64 kd, .string key, .string val, sv] 51)) w.heap.size 48 [ptr b, ptr q] := (Blk.new w 48 [ptr b, ptr q]).alloc _
  have B2 : Blk ((w.alloc (.cells #[ptr b, ptr q] 48)).alloc (.cells #[.int .i64 ak, .bool nm, .int .u32 f, .int .i64 kd, .string key, .string val, sv] 51)) (w.heap.size + 1) 51 [.int .i64 ak, .bool nm, .int .u32 f, .int .i64 kd, .string key, .string val, sv] := by
    have := Blk.new (w.alloc (.cells #[ptr b, ptr q] 48)) 51 [.int .i64 ak, .bool nm, .int .u32 f, .int .i64 kd, .string key, .string val, sv]
    rw [World.size_alloc] at this
    exact this
  have tE : ∀ x : Int, (x == x) = true := fun x => by simp
  go_enter Try.func44, Try.ntmps44
  have V0 : Below w.heap.size w (((w.alloc (.cells #[ptr b, ptr q] 48)).alloc (.cells #[.int .i64 ak, .bool nm, .int .u32 f, .int .i64 kd, .string key, .string val, sv] 51)).alloc (.cells #[.int .u32 f, .int .i64 kd, .string key, .string val] 31)) := (((Below.refl w.heap.size w).alloc (Nat.le_refl _) _).alloc (by simp) _).alloc (by simp; omega) _
  cases nm with
  | false =>
    go_wp2_with (first
      | (go_at_call 19; refine (HA _ _ _ A3.p).mono ?_; rintro e w4 ⟨rv', rfl, g1, g2, g3⟩)
      | (go_at_call 45; refine (HQ _ _ _ S1.r _ (one_rd' _ _ (by simp) ⟨f, kd, key, val⟩)).mono ?_; rintro e w3 ⟨rv2', rfl, q1, q2, q3⟩; have A3 := S1.ahead q1 q2 q3; have C1 := (B1.alloc _).upd q2 (by omega); have C2 := (B2.alloc _).upd q2 (by omega); have y0 := C1.cell1 0 _ rfl; have y1 := C1.cell1 1 _ rfl; have z1 := C2.cell1 1 _ rfl; have z2 := C2.cell1 2 _ rfl; have z3 := C2.cell1 3 _ rfl; have z4 := C2.cell1 4 _ rfl; have z5 := C2.cell1 5 _ rfl))
    go_ret
    exact pair_end A3 f0 f1 h.good h.fine h.pl h.ck h.up ((Upd.ofBelow V0).trans q2) g1 g2 g3
  | true =>
    by_cases k1 : kd = 1
    · subst k1
      go_wp2_with (first
        | (go_at_call 39; refine (HP _ _ _ A3.p).mono ?_; rintro e w4 ⟨rv', rfl, g1, g2, g3⟩)
        | (go_at_call 45; refine (HQ _ _ _ S1.r _ (one_rd' _ _ (by simp) ⟨f, 1, key, val⟩)).mono ?_; rintro e w3 ⟨rv2', rfl, q1, q2, q3⟩; have A3 := S1.ahead q1 q2 q3; have C1 := (B1.alloc _).upd q2 (by omega); have C2 := (B2.alloc _).upd q2 (by omega); have y0 := C1.cell1 0 _ rfl; have y1 := C1.cell1 1 _ rfl; have z1 := C2.cell1 1 _ rfl; have z2 := C2.cell1 2 _ rfl; have z3 := C2.cell1 3 _ rfl; have z4 := C2.cell1 4 _ rfl; have z5 := C2.cell1 5 _ rfl))
      go_ret
      exact pair_end A3 f0 f1 h.good h.fine h.pl h.ck h.up ((Upd.ofBelow V0).trans q2) g1 g2 g3
    · by_cases k0 : kd = 0
      · subst k0
        go_wp2_with (first
          | (go_at_call 65; refine (HD _ _ _ A3.p).mono ?_; rintro e w4 ⟨rv', rfl, g1, g2, g3⟩)
          | (go_at_call 45; refine (HQ _ _ _ S1.r _ (one_rd' _ _ (by simp) ⟨f, 0, key, val⟩)).mono ?_; rintro e w3 ⟨rv2', rfl, q1, q2, q3⟩; have A3 := S1.ahead q1 q2 q3; have C1 := (B1.alloc _).upd q2 (by omega); have C2 := (B2.alloc _).upd q2 (by omega); have y0 := C1.cell1 0 _ rfl; have y1 := C1.cell1 1 _ rfl; have z1 := C2.cell1 1 _ rfl; have z2 := C2.cell1 2 _ rfl; have z3 := C2.cell1 3 _ rfl; have z4 := C2.cell1 4 _ rfl; have z5 := C2.cell1 5 _ rfl))
        go_ret
        exact pair_end A3 f0 f1 h.good h.fine h.pl h.ck h.up ((Upd.ofBelow V0).trans q2) g1 g2 g3
      · by_cases k2 : kd = 2
        · subst k2
          go_wp2_with (first
            | (go_at_call 66; refine (HR _ _ _ A3.p).mono ?_; rintro e w4 ⟨rv', rfl, g1, g2, g3⟩)
            | (go_at_call 45; refine (HQ _ _ _ S1.r _ (one_rd' _ _ (by simp) ⟨f, 2, key, val⟩)).mono ?_; rintro e w3 ⟨rv2', rfl, q1, q2, q3⟩; have A3 := S1.ahead q1 q2 q3; have C1 := (B1.alloc _).upd q2 (by omega); have C2 := (B2.alloc _).upd q2 (by omega); have y0 := C1.cell1 0 _ rfl; have y1 := C1.cell1 1 _ rfl; have z1 := C2.cell1 1 _ rfl; have z2 := C2.cell1 2 _ rfl; have z3 := C2.cell1 3 _ rfl; have z4 := C2.cell1 4 _ rfl; have z5 := C2.cell1 5 _ rfl))
          go_ret
          exact pair_end A3 f0 f1 h.good h.fine h.pl h.ck h.up ((Upd.ofBelow V0).trans q2) g1 g2 g3
        · have t1 : (kd == 1) = false := by simpa using k1
          have t0 : (kd == 0) = false := by simpa using k0
          have t2 : (kd == 2) = false := by simpa using k2
          clear k1 k0 k2
          go_wp2_with (first
            | (go_at_call 19; refine (HA _ _ _ A3.p).mono ?_; rintro e w4 ⟨rv', rfl, g1, g2, g3⟩)
            | (go_at_call 45; refine (HQ _ _ _ S1.r _ (one_rd' _ _ (by simp) ⟨f, kd, key, val⟩)).mono ?_; rintro e w3 ⟨rv2', rfl, q1, q2, q3⟩; have A3 := S1.ahead q1 q2 q3; have C1 := (B1.alloc _).upd q2 (by omega); have C2 := (B2.alloc _).upd q2 (by omega); have y0 := C1.cell1 0 _ rfl; have y1 := C1.cell1 1 _ rfl; have z1 := C2.cell1 1 _ rfl; have z2 := C2.cell1 2 _ rfl; have z3 := C2.cell1 3 _ rfl; have z4 := C2.cell1 4 _ rfl; have z5 := C2.cell1 5 _ rfl))
          go_ret
          exact pair_end A3 f0 f1 h.good h.fine h.pl h.ck h.up ((Upd.ofBelow V0).trans q2) g1 g2 g3
end Go.Proofs.Ytkpijoogaicodaa
