import Derived.Test.YtkpijoogaicodaaGf
namespace Go.Proofs.Ytkpijoogaicodaa
open Go.RowKit
set_option linter.unusedVariables false
set_option linter.unusedSimpArgs false

/-- The program's Batch and the reference's tell the same; both lie in memory that is younger than w0. -/
structure Bq (w0 w : World) (b q : Nat) (rv mv rv2 mv2 : Value) (rs : List Rec) (ms : List Nat) : Prop where
  bel : Below w0.heap.size w0 w
  p : Bt w b rv mv rs ms
  r : Qt w q rv2 mv2 rs ms
  d1 : Dj rv rv2
  d2 : Dj mv mv2
  d3 : Dj mv rv2
  nb : rv2.ownBlock ≠ some b
  yb : w0.heap.size ≤ b
  yq : w0.heap.size ≤ q
  yr : New w0.heap.size rv
  ym : New w0.heap.size mv
  good : Good rs
  fine : ∀ r ∈ rs, Fine r
  pl : Pl rs
  ck : ∀ r ∈ rs, rchk r = 0
  up : (ms ++ [rs.length]).Pairwise (· ≤ ·)
/-- Steps that touch nothing old. -/
theorem Bq.step {w0 w w' : World} {b q : Nat} {rv mv rv2 mv2 : Value} {rs : List Rec} {ms : List Nat} (h : Bq w0 w b q rv mv rv2 mv2 rs ms) (u : Below w.heap.size w w') : Bq w0 w' b q rv mv rv2 mv2 rs ms :=
  { h with bel := bstep h.bel u, p := h.p.below u, r := h.r.below u }
/-- The reference has gone ahead by a record. -/
structure Bh (w0 w : World) (b q : Nat) (rv mv rv2 mv2 : Value) (rs rs2 : List Rec) (ms : List Nat) : Prop where
  bel : Below w0.heap.size w0 w
  p : Bt w b rv mv rs ms
  r : Qt w q rv2 mv2 rs2 ms
  d1 : Dj rv rv2
  d2 : Dj mv mv2
  d3 : Dj mv rv2
  nb : rv2.ownBlock ≠ some b
  yb : w0.heap.size ≤ b
  yq : w0.heap.size ≤ q
  yr : New w0.heap.size rv
  ym : New w0.heap.size mv
theorem Bq.ahead {w0 w w' : World} {b q : Nat} {rv mv rv2 mv2 rv2' : Value} {rs rs2 : List Rec} {ms : List Nat} (h : Bq w0 w b q rv mv rv2 mv2 rs ms) (hr : Qt w' q rv2' mv2 rs2 ms) (u : Upd (fun k => k = q) w w') (hl : rv2' = rv2 ∨ ∀ j, rv2'.ownBlock = some j → w.heap.size ≤ j) : Bh w0 w' b q rv mv rv2' mv2 rs rs2 ms := by
  have n1 := Blk.ne h.p.blk h.r.blk (by decide)
  have n2 := row_ne h.p.row h.r.blk (by decide)
  have n3 := row_ne h.p.marks h.r.blk (by decide)
  have lb := h.p.blk.lt
  have lr := h.p.row.lt
  have lm := h.p.marks.lt
  refine ⟨Upd.bel h.bel u (fun k hk => by rw [hk]; exact h.yq), h.p.upd u n1 n2 n3, hr, ?_, h.d2, ?_, ?_, h.yb, h.yq, h.yr, h.ym⟩
  · rcases hl with rfl | hl
    · exact h.d1
    · intro k hk hk'
      have := hl k hk'; have := (lr k hk).2; omega
  · rcases hl with rfl | hl
    · exact h.d3
    · intro k hk hk'
      have := hl k hk'; have := (lm k hk).2; omega
  · rcases hl with rfl | hl
    · exact h.nb
    · intro e
      have := hl b e; omega
theorem Bh.step {w0 w w' : World} {b q : Nat} {rv mv rv2 mv2 : Value} {rs rs2 : List Rec} {ms : List Nat} (h : Bh w0 w b q rv mv rv2 mv2 rs rs2 ms) (u : Below w.heap.size w w') : Bh w0 w' b q rv mv rv2 mv2 rs rs2 ms :=
  { h with bel := bstep h.bel u, p := h.p.below u, r := h.r.below u }
/-- The program has followed. -/
theorem Bh.follow {w0 w w' : World} {b q : Nat} {rv mv rv2 mv2 rv' : Value} {rs rs2 : List Rec} {ms : List Nat} (h : Bh w0 w b q rv mv rv2 mv2 rs rs2 ms) (hp : Bt w' b rv' mv rs2 ms) (u : Upd (Of b rv) w w') (hl : rv'.ownBlock = rv.ownBlock ∨ ∀ j, rv'.ownBlock = some j → w.heap.size ≤ j)
    (hg : Good rs2) (hf : ∀ r ∈ rs2, Fine r) (hpl : Pl rs2) (hck : ∀ r ∈ rs2, rchk r = 0) (hmk : (ms ++ [rs2.length]).Pairwise (· ≤ ·)) : Bq w0 w' b q rv' mv rv2 mv2 rs2 ms := by
  have n1 := Blk.ne h.r.blk h.p.blk (by decide)
  have n2 := row_ne h.p.row h.r.blk (by decide)
  refine ⟨Upd.bel h.bel u (of_new h.yb h.yr), hp, h.r.upd u ?_ ?_ ?_, ?_, h.d2, h.d3, h.nb, h.yb, h.yq, h.yr.step h.bel.size hl, h.ym, hg, hf, hpl, hck, hmk⟩
  · rintro (e | e)
    · exact n1 e
    · exact n2 q e rfl
  · rintro k hk (rfl | e)
    · exact h.nb hk
    · exact h.d1 k e hk
  · rintro k hk (rfl | e)
    · exact row_ne h.r.marks h.p.blk (by decide) _ hk rfl
    · exact row_row_ne h.r.marks h.p.row (by decide) k hk e
  · intro k hk hk'
    rcases hl with e | e
    · rw [e] at hk; exact h.d1 k hk hk'
    · have := e k hk; have := h.r.lt k hk'; omega
theorem ck_add {rs : List Rec} {r : Rec} (h : ∀ x ∈ rs, rchk x = 0) : ∀ x ∈ addL rs r, rchk x = 0 := by
  unfold addL
  split
  · rename_i he
    intro x hx
    rcases List.mem_append.1 hx with hx | hx
    · exact h x hx
    · simp at hx
      subst hx
      refine rchk_plain ?_
      unfold addE at he
      split at he
      · exact he
      · rename_i h1; simpa using h1
  · exact h
theorem mk_le {ms : List Nat} {n m : Nat} (h : (ms ++ [n]).Pairwise (· ≤ ·)) (hnm : n ≤ m) : (ms ++ [m]).Pairwise (· ≤ ·) := by
  rw [List.pairwise_append] at h ⊢
  refine ⟨h.1, by simp, fun a ha b hb => ?_⟩
  simp at hb
  have := h.2.2 a ha n (by simp)
  omega
theorem mk_add {rs : List Rec} {ms : List Nat} (r : Rec) (h : (ms ++ [rs.length]).Pairwise (· ≤ ·)) : (ms ++ [(addL rs r).length]).Pairwise (· ≤ ·) := by
  obtain ⟨t, ht⟩ := addL_ext rs r
  exact mk_le h (by rw [ht]; simp)
theorem mk_save {ms : List Nat} {n : Nat} (h : (ms ++ [n]).Pairwise (· ≤ ·)) : (ms ++ [n] ++ [n]).Pairwise (· ≤ ·) := by
  rw [List.pairwise_append]
  refine ⟨h, by simp, fun a ha b hb => ?_⟩
  simp at hb
  subst hb
  rw [List.pairwise_append] at h
  rcases List.mem_append.1 ha with ha | ha
  · exact h.2.2 a ha b (by simp)
  · simp at ha; omega
theorem RdR.own_lt {w : World} {v : Value} {l : List Rec} (h : RdR w v l) (hl : l ≠ []) : ∀ k, v.ownBlock = some k → k < w.heap.size := by
  intro k hk
  rcases h with ⟨a, c, rfl, rfl⟩ | ⟨b, off, cap, rfl, hb, _⟩
  · exact absurd rfl hl
  · simp [Value.ownBlock] at hk; omega
end Go.Proofs.Ytkpijoogaicodaa
