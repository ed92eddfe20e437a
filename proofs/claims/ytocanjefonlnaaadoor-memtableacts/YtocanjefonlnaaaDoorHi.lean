import Derived.Test.YtocanjefonlnaaaDoorHh
namespace Go.Proofs.YtocanjefonlnaaaDoor
open Go.RowKit Go.Shelf
set_option linter.unusedVariables false
set_option linter.unusedSimpArgs false
/-- A boxed row of entries that a range appends to: its box is bx, rb the block that the row began with. -/
structure Ap (W0 : World) (bx rb : Nat) (l : List Ent) (W : World) : Prop where
  ex : ∃ v, Blk W bx 51 [v] ∧ W.ownsRow 0 56 4 v l.length (ecs l) ∧ ∀ k, v.ownBlock = some k → k ≠ bx ∧ (k = rb ∨ W0.heap.size ≤ k)
  up : Upd (fun k => k = bx ∨ k = rb) W0 W
theorem row_lt {w : World} {v : Value} {n : Nat} {xs : List Value} (h : w.ownsRow 0 56 4 v n xs) : ∀ k, v.ownBlock = some k → ∃ c t f, w.heap[k]? = some (.cells c t f) := fun k hk => by
  rcases h.2 with ⟨rfl, _⟩ | ⟨g, cap, cur, rfl, _, hg, _⟩
  · cases hk
  · cases hk; exact ⟨_, _, _, hg⟩
theorem Ap.kept {W0 : World} {bx rb : Nat} {l : List Ent} {W W' : World} (h : Ap W0 bx rb l W) {row : Option Nat} (hg : W.grownBy W' row) (hr : ∀ r, row = some r → W0.heap.size ≤ r ∧ ∃ o : Obj, W.heap[r]? = some o ∧ o.isCells = false) : Ap W0 bx rb l W' := by
  obtain ⟨v, h1, h2, h3⟩ := h.ex
  have hu : Upd (fun k => row = some k) W W' := (Upd.refl _ _).grown hg (fun k hk _ => hk)
  refine ⟨⟨v, h1.upd hu ?_, row_upd h2 hu ?_, h3⟩, h.up.grown hg (fun k hk hl => by have := (hr k hk).1; omega)⟩
  · intro e
    obtain ⟨_, o, ho, hc⟩ := hr _ e
    unfold Blk at h1
    rw [h1] at ho; cases ho; cases hc
  · intro k hk e
    obtain ⟨_, o, ho, hc⟩ := hr _ e
    obtain ⟨c, t, f, hx⟩ := row_lt h2 k hk
    rw [hx] at ho; cases ho; cases hc
theorem Ap.own (W0 : World) (bx rb : Nat) (f : List Ent → List Ent) : OwnFrom W0.heap.size (fun pre W => Ap W0 bx rb (f pre) W) := fun s W W' row hs hg hr => hs.kept hg hr
theorem Ap.same {W0 : World} {bx rb : Nat} {l : List Ent} {W W' : World} (h : Ap W0 bx rb l W) (hb : Below W.heap.size W W') : Ap W0 bx rb l W' := h.kept (Below.grow0 hb) (fun r e => by cases e)
/-- One entry more: the append, then the store into the box. -/
theorem Ap.push {W0 : World} {bx rb : Nat} {l : List Ent} {W : World} (h : Ap W0 bx rb l W) {v : Value} (hv : W.cell? ⟨bx, 0, none⟩ = some v) {vb : Nat} {r : Ent} (hb : Blk W vb 56 r.c) (ty : TypeId) (hl : (l.length + 1) * 48 ≤ 140737488355328) (hbx : bx < W0.heap.size) :
    ∃ v' W1, (Builtin.append_ #[51, 51] ty #[v, .slice (some ⟨vb, 0, none⟩) 1 1]).run Tryd.prog W = .ok v' W1 ∧ Blk W1 bx 51 [v] ∧ Ap W0 bx rb (l ++ [r]) (W1.setCell ⟨bx, 0, none⟩ v') ∧
      Upd (fun k => k = bx ∨ k = rb ∨ W0.heap.size ≤ k) W (W1.setCell ⟨bx, 0, none⟩ v') ∧ KeepsOthers W (W1.setCell ⟨bx, 0, none⟩ v') := by
  obtain ⟨v0, h1, h2, h3⟩ := h.ex
  obtain rfl : v0 = v := by
    have := h1.cell1 0 _ rfl
    rw [this] at hv; exact Option.some.inj hv
  obtain ⟨v', W1, g1, g2, g3, g4⟩ := push_ent h2 hb ty hl
  have hsz : bx < W.heap.size := h1.lt
  have b1 : Blk W1 bx 51 [v0] := h1.upd g3 (fun e => (h3 _ e).1 rfl)
  have b2 : Blk (W1.setCell ⟨bx, 0, none⟩ v') bx 51 [v'] := b1.set 0 v'
  have u2 : Upd (fun k => k = bx) W1 (W1.setCell ⟨bx, 0, none⟩ v') := (Upd.refl (fun k => k = bx) W1).setCell (p := ⟨bx, 0, none⟩) (fun _ => rfl) _
  have hown : ∀ k, v'.ownBlock = some k → k ≠ bx ∧ (k = rb ∨ W0.heap.size ≤ k) := fun k hk => by
    rcases g4 with e | e
    · exact h3 k (by rw [← e]; exact hk)
    · rw [e] at hk; cases hk
      exact ⟨by omega, .inr h.up.size⟩
  have u1 : Upd (fun k => k = bx ∨ k = rb ∨ W0.heap.size ≤ k) W W1 := g3.mono (fun k _ hk => .inr (h3 k hk).2)
  refine ⟨v', W1, g1, b1, ⟨⟨v', b2, row_upd g2 u2 (fun k hk => (hown k hk).1), hown⟩, ?_⟩, u1.then u2 (fun i _ hi => .inl hi), ?_⟩
  · refine (h.up.then g3 (fun i hi hk => ?_)).then u2 (fun i _ hi => .inl hi)
    rcases (h3 i hk).2 with e | e
    · exact .inr e
    · omega
  · have k1 : KeepsOthers W W1 := by
      refine ⟨g3.size, fun k o hk ho => ?_⟩
      have hkl := (Array.getElem?_eq_some_iff.1 hk).1
      rw [g3.block k hkl ?_]
      · exact hk
      · intro e
        obtain ⟨c, t, f, hx⟩ := row_lt h2 k e
        rw [hx] at hk; cases hk; cases ho
    exact k1.trans (KeepsOthers.setCell _ _ _)
/-- Two tables, and two boxed rows of entries beside them. -/
structure Tr (w wr : World) (Ta Tc : Nat) (sa sc : Ms) (S : Nat → Prop) : Prop where
  ex : ∃ Ba Bc : Nat → Prop, Tb wr Ta Ba 0 sa ∧ Tb wr Tc Bc 0 sc ∧ (∀ k, Ba k → w.heap.size ≤ k ∧ k < wr.heap.size ∧ ¬ S k) ∧ (∀ k, Bc k → w.heap.size ≤ k ∧ k < wr.heap.size ∧ ¬ S k) ∧ (∀ k, Ba k → ¬ Bc k)
  bel : Below w.heap.size w wr
  apart : ∀ k, S k → w.heap.size ≤ k
theorem Tr.two {w wr : World} {Ta Tc : Nat} {sa sc : Ms} {S : Nat → Prop} (h : Tr w wr Ta Tc sa sc S) : Two w wr Ta Tc sa sc := by
  obtain ⟨Ba, Bc, h1, h2, h3, h4, h5⟩ := h.ex
  exact ⟨⟨Ba, Bc, h1, h2, fun k hk => ⟨(h3 k hk).1, (h3 k hk).2.1⟩, fun k hk => ⟨(h4 k hk).1, (h4 k hk).2.1⟩, h5⟩, h.bel⟩
/-- Blocks that come later are apart from the tables. -/
theorem Two.tr {w wr wr' : World} {Ta Tc : Nat} {sa sc : Ms} (h : Two w wr Ta Tc sa sc) (hb : Below wr.heap.size wr wr') : Tr w wr' Ta Tc sa sc (fun k => wr.heap.size ≤ k) := by
  obtain ⟨Ba, Bc, h1, h2, h3, h4, h5⟩ := h.ex
  exact ⟨⟨Ba, Bc, h1.below hb, h2.below hb, fun k hk => ⟨(h3 k hk).1, Nat.lt_of_lt_of_le (h3 k hk).2 hb.size, fun e => by have := (h3 k hk).2; omega⟩, fun k hk => ⟨(h4 k hk).1, Nat.lt_of_lt_of_le (h4 k hk).2 hb.size, fun e => by have := (h4 k hk).2; omega⟩, h5⟩, h.bel.trans (hb.mono h.bel.size), fun k hk => Nat.le_trans h.bel.size hk⟩
theorem Tr.upd {w wr wr' : World} {Ta Tc : Nat} {sa sc : Ms} {S : Nat → Prop} (h : Tr w wr Ta Tc sa sc S) (u : Upd S wr wr') : Tr w wr' Ta Tc sa sc S := by
  obtain ⟨Ba, Bc, h1, h2, h3, h4, h5⟩ := h.ex
  exact ⟨⟨Ba, Bc, h1.upd u (fun k hk => (h3 k hk).2.2), h2.upd u (fun k hk => (h4 k hk).2.2), fun k hk => ⟨(h3 k hk).1, Nat.lt_of_lt_of_le (h3 k hk).2.1 u.size, (h3 k hk).2.2⟩, fun k hk => ⟨(h4 k hk).1, Nat.lt_of_lt_of_le (h4 k hk).2.1 u.size, (h4 k hk).2.2⟩, h5⟩, up_bel h.bel u h.apart h.bel.size, h.apart⟩
theorem Tr.swap {w wr : World} {Ta Tc : Nat} {sa sc : Ms} {S : Nat → Prop} (h : Tr w wr Ta Tc sa sc S) : Tr w wr Tc Ta sc sa S := by
  obtain ⟨Ba, Bc, h1, h2, h3, h4, h5⟩ := h.ex
  exact ⟨⟨Bc, Ba, h2, h1, h4, h3, fun k hk hk' => h5 k hk' hk⟩, h.bel, h.apart⟩
/-- All of a table, ranged over. -/
theorem Tr.all {w W : World} {Ta Tc : Nat} {sa sc : Ms} {S : Nat → Prop} (h : Tr w W Ta Tc sa sc S) (hI : Inv 0 sa) {top : Int} (hq : ∀ e ∈ sa.E, 0 ≤ e.s ∧ e.s ≤ top) {B1 B2 : Nat} (c1 : W.cell? ⟨B1, 0, none⟩ = some (ptr Ta)) (c2 : Blk W B2 38 [.string ⟨#[]⟩, .int .u64 top, .int .i64 2]) (n : Nat) (hn : 1 ≤ n) :
    ∃ B : Nat → Prop, (∀ k, B k → k < W.heap.size ∧ ¬ S k) ∧ SeqStopsK Fence.wide n Tryd.prog 52 #[.pointer (some ⟨B1, 0, none⟩), .pointer (some ⟨B2, 0, none⟩)] (fun x : Ent => #[ev x]) (Kq B) (fun ys => ys = sa.E) (fun pre => ∃ k, k ≤ sa.E.length ∧ pre = sa.E.take k) sa.E.length W := by
  obtain ⟨Ba, Bc, h1, h2, h3, h4, h5⟩ := h.ex
  obtain ⟨C, L, e1, e2, e3, e4, e5, e6, hS, hR, hH, hB, _⟩ := h1.ex
  have hc : Cut C.how L ⟨#[]⟩ top 2 0 := by
    rw [e1]
    refine cut_least (fun n hn => hq n.e (by rw [← e6]; exact List.mem_map_of_mem hn)) (fun n hn => hI.kd n.e (by rw [← e6]; exact List.mem_map_of_mem hn))
  have := all_stops n hn W B1 B2 Ta C L ⟨#[]⟩ top 2 0 hc Ba hB hS c1 c2
  simp only [List.drop_zero, Nat.sub_zero, e6] at this
  have el : L.length = sa.E.length := by rw [← e6, List.length_map]
  rw [el] at this
  exact ⟨Ba, fun k hk => (h3 k hk).2, this⟩
/-- Back of a table from (U, 0, 0), ranged over. -/
theorem Tr.back {w W : World} {Ta Tc : Nat} {sa sc : Ms} {S : Nat → Prop} (h : Tr w W Ta Tc sa sc S) (hI : Inv 0 sa) (hq : ∀ e ∈ sa.E, 0 ≤ e.s) (U : ByteArray) {B1 B2 : Nat} (c1 : W.cell? ⟨B1, 0, none⟩ = some (ptr Ta)) (c2 : Blk W B2 38 [.string U, .int .u64 0, .int .i64 0]) (n : Nat) (hn : 1 ≤ n) :
    ∃ B : Nat → Prop, (∀ k, B k → k < W.heap.size ∧ ¬ S k) ∧ SeqStopsK Fence.wide n Tryd.prog 53 #[.pointer (some ⟨B1, 0, none⟩), .pointer (some ⟨B2, 0, none⟩)] (fun x : Ent => #[ev x]) (Kq B) (fun ys => ys = (sa.E.filter (upU U)).reverse) (fun pre => ∃ k, k ≤ (sa.E.filter (upU U)).reverse.length ∧ pre = (sa.E.filter (upU U)).reverse.take k) (sa.E.filter (upU U)).reverse.length W := by
  obtain ⟨Ba, Bc, h1, h2, h3, h4, h5⟩ := h.ex
  obtain ⟨C, L, e1, e2, e3, e4, e5, e6, hS, hR, hH, hB, _⟩ := h1.ex
  have hcE : CutE 0 (L.map (·.e)) U 0 0 (posE 0 sa.E U 0 0) := by rw [e6]; exact cutE_pos hI.se U 0 0
  have hc : Cut 0 L U 0 0 (posE 0 sa.E U 0 0) := hcE.cut
  have ht := take_up (by rw [e6]; exact hI.se) (fun n hn => hq n.e (by rw [← e6]; exact List.mem_map_of_mem hn)) (fun n hn => (hI.kd n.e (by rw [← e6]; exact List.mem_map_of_mem hn)).1) U _ hc
  have := back_stops n hn W B1 B2 Ta C L U 0 0 (posE 0 sa.E U 0 0) (by rw [e1]; exact hc) Ba hB hS c1 c2
  have hr : (L.take (bhd L (posE 0 sa.E U 0 0) U 0 0)).reverse.map (·.e) = (sa.E.filter (upU U)).reverse := by rw [List.map_reverse, ht, e6]
  have hl : bhd L (posE 0 sa.E U 0 0) U 0 0 = (sa.E.filter (upU U)).reverse.length := by
    rw [← hr, List.length_map, List.length_reverse, List.length_take, Nat.min_eq_left (bhd_le hc)]
  rw [hr, hl] at this
  exact ⟨Ba, fun k hk => (h3 k hk).2, this⟩
/-- Len, Size, Tombstones of one of them. -/
theorem Two.size {w wr : World} {Ta Tc : Nat} {sa sc : Ms} (h : Two w wr Ta Tc sa sc) : Calls Tryd.prog 19 #[ptr Ta] wr fun e w' => e = .returned (.int .i64 sa.sz) ∧ w' = wr := by
  obtain ⟨Ba, Bc, g1, _⟩ := h.ex
  exact size_tb g1
theorem Two.len {w wr : World} {Ta Tc : Nat} {sa sc : Ms} (h : Two w wr Ta Tc sa sc) (hI : Inv 0 sa) : Calls Tryd.prog 18 #[ptr Ta] wr fun e w' => e = .returned (.int .i64 ((sa.E.length : Int) + sa.R.length)) ∧ w' = wr.drew := by
  obtain ⟨Ba, Bc, g1, _⟩ := h.ex
  obtain ⟨C, L, e1, e2, e3, e4, e5, e6, hS, hR, _⟩ := g1.ex
  have hn := hI.n
  unfold Ms.n at hn
  rw [← e5]
  exact len_any hS.tab hR (by omega) (by omega) (by omega)
theorem Two.tombs {w wr : World} {Ta Tc : Nat} {sa sc : Ms} (h : Two w wr Ta Tc sa sc) (hI : Inv 0 sa) : Calls Tryd.prog 21 #[ptr Ta] wr fun e w' => ∃ v', e = .returned v' ∧ w'.ownsRow 0 81 3 v' sa.R.length (tcs sa.R) ∧ Below wr.heap.size wr w' ∧ Two w w' Ta Tc sa sc := by
  obtain ⟨Ba, Bc, g1, _⟩ := h.ex
  have hn := hI.n
  unfold Ms.n at hn
  refine (tombs_tb g1 (by omega)).mono ?_
  rintro e w' ⟨v', rfl, r1, b1, _⟩
  exact ⟨v', rfl, r1, b1, h.step b1⟩
end Go.Proofs.YtocanjefonlnaaaDoor
