import Derived.Test.YtocanjefonlnaaaDoorHe
namespace Go.Proofs.YtocanjefonlnaaaDoor
open Go.RowKit Go.Shelf
set_option linter.unusedVariables false
set_option linter.unusedSimpArgs false
attribute [local go_sem] Oper.semAt_some
/-- What stands in Goes' boxes. -/
structure Gb (w : World) (a : Option Addr) (N c : Nat) (stop : Int) (n : Nat) (W : World) : Prop where
  c0 : W.cell? ⟨w.heap.size, 0, none⟩ = some (.slice a N c)
  c1 : W.cell? ⟨w.heap.size + 1, 0, none⟩ = some (.int .i64 stop)
  c2 : W.cell? ⟨w.heap.size + 1 + 1, 0, none⟩ = some (.bool false)
  c3 : W.cell? ⟨w.heap.size + 1 + 1 + 1, 0, none⟩ = some (.int .i64 n)
  f2 : W.frozen? ⟨w.heap.size + 1 + 1, 0, none⟩ = false
  f3 : W.frozen? ⟨w.heap.size + 1 + 1 + 1, 0, none⟩ = false
theorem Gb.kept {w : World} {a : Option Addr} {N c : Nat} {stop : Int} {n : Nat} {W W' : World} (h : Gb w a N c stop n W) {row : Option Nat} (hg : W.grownBy W' row) (hr : ∀ r, row = some r → ∃ o : Obj, W.heap[r]? = some o ∧ o.isCells = false) : Gb w a N c stop n W' :=
  ⟨cell_kept h.c0 hg hr, cell_kept h.c1 hg hr, cell_kept h.c2 hg hr, cell_kept h.c3 hg hr, (frozen_kept h.c2 hg hr).trans h.f2, (frozen_kept h.c3 hg hr).trans h.f3⟩
theorem Gb.same {w : World} {a : Option Addr} {N c : Nat} {stop : Int} {n : Nat} {W W' : World} (h : Gb w a N c stop n W) (hb : Below W.heap.size W W') : Gb w a N c stop n W' := h.kept (Below.grow0 hb) (fun r e => by cases e)
/-- What has come is what was to come. -/
def Gd (D : List Ent) (pre : List Ent) : Prop := pre = D.take pre.length ∧ pre.length ≤ D.length
set_option maxRecDepth 100000 in
set_option maxHeartbeats 2000000 in
theorem goes_in {w : World} {gf : Nat} {lb : Array Value} (D : List Ent) {B : Nat → Prop} (hB : ∀ k, B k → k < w.heap.size) (eg : ∀ args w, (callFunc gf args).run Tryd.prog w = .ok (.enter gf args) w)
    (hseq : SeqStopsK Fence.wide 4 Tryd.prog gf lb (fun x : Ent => #[ev x]) (Kq B) (fun ys => ys = D) (fun pre => ∃ k, k ≤ D.length ∧ pre = D.take k) D.length w)
    {a : Option Addr} (hr : RdE w a D) (c : Nat) (hl : D.length ≤ 281474976710656) (stop : Int) :
    CallsIn Fence.wide 5 Tryd.prog 17 #[.func (.func gf) #[] lb, .slice a D.length c, .int .i64 stop] w fun e w' => e = .returned (.bool true) ∧ Below w.heap.size w w' := by
  have hnf : ∀ W : World, (binOp .eql 53 (.func (.func gf) #[] lb) .nilFunc).run Tryd.prog W = .ok (.bool false) W := fun W => by kernel_rfl
  refine callsIn_of_wp_marks Tryd.func17 rfl trivial ?_ rfl
  simp only [Tryd.ntmps17, List.size_toArray, List.length_cons, List.length_nil, Nat.reduceAdd, Nat.reduceSub, Array.replicate_succ, Array.replicate_zero, List.push_toArray, List.append_toArray, List.nil_append, List.cons_append]
  gi_wp2
  obtain ⟨W0, hW0⟩ : ∃ W0, W0 = (((w.alloc (Obj.cells #[Value.slice a D.length c] 51)).alloc (Obj.cells #[Value.int IntKind.i64 stop] 3)).alloc (Obj.cells #[Value.bool false] 4)).alloc (Obj.cells #[Value.int IntKind.i64 0] 3) := ⟨_, rfl⟩
  have hz0 : W0.heap.size = w.heap.size + 1 + 1 + 1 + 1 := by rw [hW0]; simp
  have hb0 : Below w.heap.size w W0 := by rw [hW0]; exact ((((Below.refl _ _).alloc (Nat.le_refl _) _).alloc (by simp) _).alloc (by simp; omega) _).alloc (by simp; omega) _
  have hG0 : Gb w a D.length c stop 0 W0 := by
    have b0 : Blk W0 w.heap.size 51 [.slice a D.length c] := by rw [hW0]; exact (((Blk.new w 51 _).alloc _).alloc _).alloc _
    have b1 : Blk W0 (w.heap.size + 1) 3 [.int .i64 stop] := by
      rw [hW0]
      have := Blk.new (w.alloc (Obj.cells #[Value.slice a D.length c] 51)) 3 [.int .i64 stop]
      rw [World.size_alloc] at this
      exact (this.alloc _).alloc _
    have b2 : Blk W0 (w.heap.size + 1 + 1) 4 [.bool false] := by
      rw [hW0]
      have := Blk.new ((w.alloc (Obj.cells #[Value.slice a D.length c] 51)).alloc (Obj.cells #[Value.int IntKind.i64 stop] 3)) 4 [.bool false]
      rw [World.size_alloc, World.size_alloc] at this
      exact this.alloc _
    have b3 : Blk W0 (w.heap.size + 1 + 1 + 1) 3 [.int .i64 0] := by
      rw [hW0]
      have := Blk.new (((w.alloc (Obj.cells #[Value.slice a D.length c] 51)).alloc (Obj.cells #[Value.int IntKind.i64 stop] 3)).alloc (Obj.cells #[Value.bool false] 4)) 3 [.int .i64 0]
      rw [World.size_alloc, World.size_alloc, World.size_alloc] at this
      exact this
    exact ⟨b0.cell1 0 _ rfl, b1.cell1 0 _ rfl, b2.cell1 0 _ rfl, b3.cell1 0 _ rfl, b2.frozen 0, b3.frozen 0⟩
  rw [← hW0]
  clear hW0
  have HR : Hid (RdE w a D) := hr
  have HB : Hid (∀ k, B k → k < w.heap.size) := hB
  obtain ⟨N, hN⟩ : ∃ N, Hid (D.length = N) := ⟨_, rfl⟩
  rw [hN.out] at hG0 hl ⊢
  clear hr hB
  refine wpIn_rangeFunc_ownH rfl (by omega) (gf := gf) (lb := lb) rfl trivial eg hseq
    (fun h k => Kq.trans h k) (fun W l o o' hl h h1 h2 => ⟨by simp, fun k hk => ?_⟩) hb0 (fun _ => rfl)
    (fun pre W => (Gd D pre ∧ (∀ k : Nat, 1 ≤ k → k ≤ pre.length → (k : Int) ≠ stop) ∧ Gb w a N c stop pre.length W) ∧ Below w.heap.size w W)
    (fun cd pre W => ((cd = .ret ∧ ¬ Gd D pre) ∨ (cd = .exit 0 ∧ Gd D pre ∧ (pre.length : Int) = stop ∧ Gb w a N c stop pre.length W)) ∧ Below w.heap.size w W)
    (OwnFrom.and (Own.from (fun s A B row hs hg hr => ⟨hs.1, hs.2.1, hs.2.2.kept hg hr⟩) _) (ownFrom_below (Nat.le_refl _) (by omega)))
    (fun cd => OwnFrom.and (Own.from (fun s A B row hs hg hr => hs.imp id (fun h => ⟨h.1, h.2.1, h.2.2.1, h.2.2.2.kept hg hr⟩)) _) (ownFrom_below (Nat.le_refl _) (by omega)))
    ⟨⟨⟨rfl, Nat.zero_le _⟩, fun k h1 h2 => by simp at h2; omega, hG0⟩, hb0⟩
    (fun x a' W => ∃ bx, a' = { tmps := #[Value.func (Fn.func gf) #[] lb, Value.slice a N c, Value.int IntKind.i64 stop, undef, Value.pointer (some ⟨w.heap.size, 0, none⟩), Value.pointer (some ⟨w.heap.size + 1, 0, none⟩), Value.pointer (some ⟨w.heap.size + 1 + 1, 0, none⟩), Value.pointer (some ⟨w.heap.size + 1 + 1 + 1, 0, none⟩), .pointer (some ⟨bx, 0, none⟩), Value.func (Fn.func gf) #[] lb, Value.bool false, Value.func (Fn.func gf) #[] lb, ev x, undef, undef, undef, undef, undef, undef, undef, undef, undef, undef, undef, undef, undef, undef, undef, undef, undef, undef, undef, undef, undef, undef, undef, undef, undef, undef], defers := [] } ∧ EAt W bx 0 x)
    (fun x a' => Own.from (fun s A B row hs hg hr => by
      obtain ⟨bx, h1, h2, h3, h4, h5⟩ := hs
      exact ⟨bx, h1, cell_kept h2 hg hr, cell_kept h3 hg hr, cell_kept h4 hg hr, cell_kept h5 hg hr⟩) _) ?assign ?body ?done ?stop
  · have := HB.out k hk
    exact (belowK_b (n₀ := W0.heap.size) (w := W0) (Nat.le_refl _) W l o o' hl h h1 h2).block k (by omega)
  case assign =>
    intro l pre x W K hI hK
    have hbA : Below W.heap.size W (W.alloc (Obj.cells #[Value.string x.u, Value.int IntKind.u64 x.s, Value.int IntKind.i64 x.k, Value.string x.v] 56)) := (Below.refl _ _).alloc (Nat.le_refl _) _
    have bx : Blk (W.alloc (Obj.cells #[Value.string x.u, Value.int IntKind.u64 x.s, Value.int IntKind.i64 x.k, Value.string x.v] 56)) W.heap.size 56 [.string x.u, .int .u64 x.s, .int .i64 x.k, .string x.v] := Blk.new W 56 _
    have HKK : Hid _ := hK
    unfold ev
    gi_wp2
    exact hK _ _ ((KeepsOthers.alloc _ _).from _) ⟨by simp, fun k hk => Below.heap_alloc _ _ _ (by have := HB.out k hk; have := hI.2.size; omega)⟩ ⟨⟨hI.1.1, hI.1.2.1, hI.1.2.2.same hbA⟩, hI.2.alloc hI.2.size _⟩ ⟨W.heap.size, rfl, bx.cell1 0 _ rfl, bx.cell1 1 _ rfl, bx.cell1 2 _ rfl, bx.cell1 3 _ rfl⟩
  case body =>
    rintro lp pre x a' W hlW hloop ⟨⟨hgd, hst, hG⟩, hBW⟩ ⟨bx, rfl, hE⟩ hlt
    obtain ⟨y, hy⟩ : ∃ y, D[pre.length]? = some y := ⟨D[pre.length], List.getElem?_eq_getElem hlt⟩
    obtain ⟨b, off, rfl, hat⟩ : ∃ b off, a = some ⟨b, off, none⟩ ∧ ∀ (j : Nat) (e : Ent), D[j]? = some e → EAt w b (off + j * 4) e := by
      rcases HR.out with h | h
      · rw [h] at hy; simp at hy
      · exact h
    obtain ⟨y0, y1, y2, y3⟩ := hat _ y hy
    have y0 := (hBW.cell (p := ⟨b, off + pre.length * 4, none⟩) (block_lt_of_cell y0)).trans y0
    have y1 := (hBW.cell (p := ⟨b, off + pre.length * 4 + 1, none⟩) (block_lt_of_cell y1)).trans y1
    have y2 := (hBW.cell (p := ⟨b, off + pre.length * 4 + 2, none⟩) (block_lt_of_cell y2)).trans y2
    have y3 := (hBW.cell (p := ⟨b, off + pre.length * 4 + 3, none⟩) (block_lt_of_cell y3)).trans y3
    have e0 := hE.1
    have e1 := hE.2.1
    have e2 := hE.2.2.1
    have e3 := hE.2.2.2
    have g0 := hG.c0
    have g1 := hG.c1
    have g2 := hG.c2
    have g3 := hG.c3
    have gf2 := hG.f2
    have gf3 := hG.f3
    have hltN : (pre.length : Int) < (N : Int) := by rw [← hN.out]; omega
    have hnl : pre.length ≤ 281474976710656 := by omega
    have HP : Hid (Gd D pre) := hgd
    have HS : Hid (∀ k : Nat, 1 ≤ k → k ≤ pre.length → (k : Int) ≠ stop) := hst
    have HG : Hid (Gb w (some ⟨b, off, none⟩) N c stop pre.length W) := hG
    have HBW : Hid (Below w.heap.size w W) := hBW
    have HY : Hid (D[pre.length]? = some y) := hy
    have HLt : Hid (pre.length < D.length) := hlt
    have HEq : Hid (∀ W : World, (binOp .neq 56 (ev x) (ev y)).run Tryd.prog W = .ok (.bool (!decide (x.u = y.u ∧ x.s = y.s ∧ x.k = y.k ∧ x.v = y.v))) W) := fun W => eq_ent W x y
    obtain ⟨n, hn⟩ : ∃ n, Hid (pre.length = n) := ⟨_, rfl⟩
    rw [hn.out] at y0 y1 y2 y3 g3 hltN hnl
    clear hgd hst hG hBW hy hlt hE hat hloop
    by_cases hx : x.u = y.u ∧ x.s = y.s ∧ x.k = y.k ∧ x.v = y.v
    · have hne : ∀ W : World, (binOp .neq 56 (.agg #[.string x.u, .int .u64 x.s, .int .i64 x.k, .string x.v]) (.agg #[.string y.u, .int .u64 y.s, .int .i64 y.k, .string y.v])).run Tryd.prog W = .ok (.bool false) W := fun W => by
        have := HEq.out W; rw [decide_eq_true hx] at this; exact this
      have HX : Hid (x = y) := by
        obtain ⟨u, s, k, v⟩ := x
        obtain ⟨u', s', k', v'⟩ := y
        obtain ⟨h1, h2, h3, h4⟩ := hx
        simp only at h1 h2 h3 h4
        subst h1 h2 h3 h4; rfl
      clear hx HEq
      gi_wp2
      refine wpIn_region_quiet_round rfl (by kernel_rfl) (by kernel_rfl) (by kernel_rfl) ?_
      have hdec : ((N : Int) ≤ (n : Int)) = False := eq_false (by omega)
      have hdec2 : decide ((N : Int) ≤ (n : Int)) = false := decide_eq_false (by omega)
      repeat (gi_big_quiet_step (fail))
      refine wpQuietIn_nil ?_
      intro _ hw'
      obtain ⟨nq, hw''⟩ := hw'
      subst hw''
      have hdh : (W.drewN nq).heap = W.heap := rfl
      have hKD : KeepsOthers W (W.drewN nq) := ⟨by rw [hdh]; exact Nat.le_refl _, fun k o hk _ => by rw [hdh]; exact hk⟩
      have hBD : Below w.heap.size w (W.drewN nq) := HBW.out.trans ⟨rfl, rfl, rfl, Nat.le_refl _, fun _ _ => rfl⟩
      have g1' : (W.drewN nq).cell? ⟨w.heap.size + 1, 0, none⟩ = some (.int .i64 stop) := g1
      have g3' : (W.drewN nq).cell? ⟨w.heap.size + 1 + 1 + 1, 0, none⟩ = some (.int .i64 n) := g3
      have gf3' : (W.drewN nq).frozen? ⟨w.heap.size + 1 + 1 + 1, 0, none⟩ = false := gf3
      have HG2 : Hid (Gb w (some ⟨b, off, none⟩) N c stop (n + 1) ((W.drewN nq).setCell ⟨w.heap.size + 1 + 1 + 1, 0, none⟩ (.int .i64 ((n : Int) + 1)))) := by
        have h := HG.out
        rw [hn.out] at h
        refine ⟨?_, ?_, ?_, ?_, ?_, ?_⟩
        · exact (World.cell?_setCell_other _ _ _ _ (by simp <;> omega)).trans h.c0
        · exact (World.cell?_setCell_other _ _ _ _ (by simp <;> omega)).trans h.c1
        · exact (World.cell?_setCell_other _ _ _ _ (by simp)).trans h.c2
        · exact World.cell?_setCell_same' _ _ _ (by show ((W.drewN nq).cell? _).isSome = true; rw [g3']; rfl)
        · rw [World.frozen?_setCell]; exact h.f2
        · rw [World.frozen?_setCell]; exact h.f3
      have HGd : Hid (Gd D (pre ++ [x]) ∧ (pre ++ [x]).length = n + 1) := by
        have hp := HP.out
        have hlt := HLt.out
        refine ⟨⟨?_, by simp; omega⟩, by simp [hn.out]⟩
        obtain ⟨h2, h3⟩ := List.getElem?_eq_some_iff.1 HY.out
        rw [List.length_append, List.length_singleton, List.take_succ_eq_append_getElem h2, h3, ← hp.1, HX.out]
      have hKS : KeepsOthers W ((W.drewN nq).setCell ⟨w.heap.size + 1 + 1 + 1, 0, none⟩ (.int .i64 ((n : Int) + 1))) := hKD.trans (KeepsOthers.setCell _ _ _)
      have hBS : Below w.heap.size w ((W.drewN nq).setCell ⟨w.heap.size + 1 + 1 + 1, 0, none⟩ (.int .i64 ((n : Int) + 1))) := hBD.setCell (p := ⟨w.heap.size + 1 + 1 + 1, 0, none⟩) (by show w.heap.size ≤ w.heap.size + 1 + 1 + 1; omega) _
      have hKQ : Kq B W ((W.drewN nq).setCell ⟨w.heap.size + 1 + 1 + 1, 0, none⟩ (.int .i64 ((n : Int) + 1))) := ⟨by simp [World.setCell], fun k hk => Below.heap_setCell _ _ _ _ (by show k ≠ w.heap.size + 1 + 1 + 1; have := HB.out k hk; omega)⟩
      have HKS : Hid _ := hKS
      have HBS : Hid _ := hBS
      have HKQ : Hid _ := hKQ
      by_cases hs : ((n : Int) + 1) = stop
      · have HSt : Hid ((n : Int) + 1 = stop) := hs
        have hsb : (((n : Int) + 1) == stop) = true := by simp [hs]
        clear hs hKS hBS hKQ hKD hBD
        gi_wp2
        refine ⟨HKS.out.from _, .inr ⟨rfl, HGd.out.1, ?_, ?_⟩, HBS.out⟩
        · rw [HGd.out.2]; have := HSt.out; omega
        · rw [HGd.out.2]; exact HG2.out
      · have HSt : Hid (¬ (n : Int) + 1 = stop) := hs
        have hsb : (((n : Int) + 1) == stop) = false := by simp [hs]
        clear hs hKS hBS hKQ hKD hBD
        gi_wp2
        refine ⟨HKS.out.from _, HKQ.out, ⟨HGd.out.1, ?_, ?_⟩, HBS.out⟩
        · intro k h1 h2
          rw [HGd.out.2] at h2
          rcases Nat.lt_or_ge k (n + 1) with h3 | h3
          · exact HS.out k h1 (by rw [hn.out]; omega)
          · have h4 := HSt.out
            have : k = n + 1 := by omega
            subst this
            intro h5
            exact h4 (by omega)
        · rw [HGd.out.2]; exact HG2.out
    · have hne : ∀ W : World, (binOp .neq 56 (.agg #[.string x.u, .int .u64 x.s, .int .i64 x.k, .string x.v]) (.agg #[.string y.u, .int .u64 y.s, .int .i64 y.k, .string y.v])).run Tryd.prog W = .ok (.bool true) W := fun W => by
        have := HEq.out W; rw [decide_eq_false hx] at this; exact this
      have HX : Hid (¬ Gd D (pre ++ [x])) := fun h => by
        obtain ⟨h2, h3⟩ := List.getElem?_eq_some_iff.1 HY.out
        have h4 := h.1
        rw [List.length_append, List.length_singleton, List.take_succ_eq_append_getElem h2, h3, ← HP.out.1] at h4
        have := List.append_cancel_left h4
        simp at this
        subst this
        exact hx ⟨rfl, rfl, rfl, rfl⟩
      clear hx HEq
      gi_wp2
      refine wpIn_region_quiet_round rfl (by kernel_rfl) (by kernel_rfl) (by kernel_rfl) ?_
      have hdec : ((N : Int) ≤ (n : Int)) = False := eq_false (by omega)
      have hdec2 : decide ((N : Int) ≤ (n : Int)) = false := decide_eq_false (by omega)
      repeat (gi_big_quiet_step (fail))
      refine wpQuietIn_nil ?_
      intro _ hw'
      obtain ⟨nq, hw''⟩ := hw'
      subst hw''
      have hdh : (W.drewN nq).heap = W.heap := rfl
      have hKD : KeepsOthers W (W.drewN nq) := ⟨by rw [hdh]; exact Nat.le_refl _, fun k o hk _ => by rw [hdh]; exact hk⟩
      have hBD : Below w.heap.size w (W.drewN nq) := HBW.out.trans ⟨rfl, rfl, rfl, Nat.le_refl _, fun _ _ => rfl⟩
      have g2' : (W.drewN nq).cell? ⟨w.heap.size + 1 + 1, 0, none⟩ = some (.bool false) := g2
      have gf2' : (W.drewN nq).frozen? ⟨w.heap.size + 1 + 1, 0, none⟩ = false := gf2
      have HKD : Hid _ := hKD
      have HBD : Hid _ := hBD
      clear hKD hBD
      gi_wp2
      exact ⟨(HKD.out.trans (KeepsOthers.setCell _ _ _)).from _, .inl ⟨rfl, HX.out⟩, HBD.out.setCell (p := ⟨w.heap.size + 1 + 1, 0, none⟩) (by show w.heap.size ≤ w.heap.size + 1 + 1; omega) _⟩
  case done =>
    rintro Dd ys W hD rfl ⟨⟨hgd, hst, hG⟩, hBW⟩ hK
    have g0 := hG.c0
    have g1 := hG.c1
    have g2 := hG.c2
    have g3 := hG.c3
    have gf2 := hG.f2
    rw [hN.out] at g3
    have HBW : Hid (Below w.heap.size w W) := hBW
    have HG : Hid (Gb w a N c stop ys.length W) := hG
    clear hgd hst hG hBW
    gi_wp2
    have hK' := (KeepsOthers.setCell W ⟨w.heap.size + 1 + 1, 0, none⟩ (.bool true)).same Dd _ hK rfl
    refine ⟨by simp, .inl ⟨_, _, rfl, run_takeDeferred hK', ?_⟩⟩
    have hc5 := cell_kept (World.cell?_setCell_same' W ⟨w.heap.size + 1 + 1, 0, none⟩ (.bool true) (by rw [g2]; rfl)) (grownBy_putObj' _ Dd (.deferred none)) (fun r e => by cases e; exact ⟨_, hK', rfl⟩)
    refine ⟨.bool true, ?_, rfl, (HBW.out.setCell (p := ⟨w.heap.size + 1 + 1, 0, none⟩) (by show w.heap.size ≤ w.heap.size + 1 + 1; omega) _).trans (belowK_b (w := w) (Nat.le_refl _) _ Dd _ _ (by omega) hK' rfl rfl)⟩
    simp [results, Tryd.f17, go_sem, hc5]
  case stop =>
    rintro Dd cd pre W hD ⟨k, hk, rfl⟩ ⟨hix, hBW⟩ hK
    have HBW : Hid (Below w.heap.size w W) := hBW
    clear hBW
    rcases hix with ⟨rfl, hng⟩ | ⟨rfl, hgd, hst, hG⟩
    · exact absurd ⟨by rw [List.length_take, Nat.min_eq_left hk], by rw [List.length_take]; omega⟩ hng
    · rw [List.length_take, Nat.min_eq_left hk] at hst hG
      have g0 := hG.c0
      have g1 := hG.c1
      have g2 := hG.c2
      have g3 := hG.c3
      have gf2 := hG.f2
      have hkN : k ≤ N := by rw [← hN.out]; exact hk
      clear hgd hG
      by_cases hkk : k = N
      · subst hkk
        clear hst
        gi_wp2
        have hK' := (KeepsOthers.setCell W ⟨w.heap.size + 1 + 1, 0, none⟩ (.bool true)).same Dd _ hK rfl
        refine ⟨by simp, .inl ⟨_, _, rfl, run_takeDeferred hK', ?_⟩⟩
        have hc5 := cell_kept (World.cell?_setCell_same' W ⟨w.heap.size + 1 + 1, 0, none⟩ (.bool true) (by rw [g2]; rfl)) (grownBy_putObj' _ Dd (.deferred none)) (fun r e => by cases e; exact ⟨_, hK', rfl⟩)
        refine ⟨.bool true, ?_, rfl, (HBW.out.setCell (p := ⟨w.heap.size + 1 + 1, 0, none⟩) (by show w.heap.size ≤ w.heap.size + 1 + 1; omega) _).trans (belowK_b (w := w) (Nat.le_refl _) _ Dd _ _ (by omega) hK' rfl rfl)⟩
        simp [results, Tryd.f17, go_sem, hc5]
      · have h1 : ((k : Int) == N) = false := by simp; omega
        have h2 : ((k : Int) == stop) = true := by simp [hst]
        clear hst hkk
        gi_wp2
        have hK' := (KeepsOthers.setCell W ⟨w.heap.size + 1 + 1, 0, none⟩ (.bool true)).same Dd _ hK rfl
        refine ⟨by simp, .inl ⟨_, _, rfl, run_takeDeferred hK', ?_⟩⟩
        have hc5 := cell_kept (World.cell?_setCell_same' W ⟨w.heap.size + 1 + 1, 0, none⟩ (.bool true) (by rw [g2]; rfl)) (grownBy_putObj' _ Dd (.deferred none)) (fun r e => by cases e; exact ⟨_, hK', rfl⟩)
        refine ⟨.bool true, ?_, rfl, (HBW.out.setCell (p := ⟨w.heap.size + 1 + 1, 0, none⟩) (by show w.heap.size ≤ w.heap.size + 1 + 1; omega) _).trans (belowK_b (w := w) (Nat.le_refl _) _ Dd _ _ (by omega) hK' rfl rfl)⟩
        simp [results, Tryd.f17, go_sem, hc5]

/-- Goes, where what is gone through is what the slice reads: true, wherever it ends. -/
theorem goes_any {w : World} {gf : Nat} {lb : Array Value} (D : List Ent) {B : Nat → Prop} (hB : ∀ k, B k → k < w.heap.size) (eg : ∀ args w, (callFunc gf args).run Tryd.prog w = .ok (.enter gf args) w)
    (hseq : SeqStopsK Fence.wide 4 Tryd.prog gf lb (fun x : Ent => #[ev x]) (Kq B) (fun ys => ys = D) (fun pre => ∃ k, k ≤ D.length ∧ pre = D.take k) D.length w)
    {a : Option Addr} (hr : RdE w a D) (c : Nat) (hl : D.length ≤ 281474976710656) (stop : Int) :
    Calls Tryd.prog 17 #[.func (.func gf) #[] lb, .slice a D.length c, .int .i64 stop] w fun e w' => e = .returned (.bool true) ∧ Below w.heap.size w w' :=
  (callsIn_wide (n := 5)).1 (goes_in D hB eg hseq hr c hl stop)
end Go.Proofs.YtocanjefonlnaaaDoor
