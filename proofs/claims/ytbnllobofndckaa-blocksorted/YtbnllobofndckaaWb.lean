import Derived.Test.YtbnllobofndckaaWc
import Derived.Deep.RegionHeldLaw
import Derived.Laws.MakeOwn
namespace Go.Proofs.Ytbnllobofndckaa
open Go.RowKit
set_option linter.unusedVariables false
set_option linter.unusedSimpArgs false
attribute [local go_sem] Oper.semAt_some
def mkZ (n : Nat) : Array Value := madeCells (Value.int .u8 0).cells n
theorem mkcap (n : Nat) (hn : n ≤ 5000000) (w : World) : (Instr.makeSlice 23 (.int .i64 0) (.int .i64 (n : Int))).run Try.prog w = .ok (.slice (some ⟨w.heap.size, 0, none⟩) 0 n) (w.alloc (.cells (mkZ n) 5)) := by
  obtain ⟨i0, hi, hz0, hz1, hz2⟩ := info_parts info5
  have h := run_makeSlice (P := Try.prog) w 23 5 i0 (.int .u8 0) Try.underlying23 hi hz0 .i64 .i64 0 (n : Int) (Int.le_refl _) (by omega) (by rw [hz1]; omega) (by rw [hz2]; omega) (by omega)
  rw [hz1] at h
  simpa [mkZ] using h
theorem mkcap_own (n : Nat) (hn : n ≤ 5000000) (w : World) : OwnB (w.alloc (.cells (mkZ n) 5)) w.heap.size (.slice (some ⟨w.heap.size, 0, none⟩) 0 n) [] := by
  have hs : (mkZ n).toList.length = n := by
    rw [Array.length_toList, mkZ, size_madeCells]
  exact OwnB.ofBlock w w.heap.size [] (mkZ n).toList _ (0, 0) (by simp [bc]) (Nat.le_refl _) (.inl rfl) (by rw [hs]; simp [maxLen]; omega) n (by rw [hs]; simp)
set_option maxRecDepth 100000 in
set_option maxHeartbeats 800000 in
theorem write_in {w : World} {a : Option Addr} {l : List Ent} (hl : RdE w a l) (hf : Fit l) (r : Nat) (hr1 : 1 ≤ r) (hr2 : r ≤ 1024) (hN : l.length ≤ 65536) (c : Nat) (z : Nat) (hz : z ≤ 5000000) :
    CallsIn Fence.wide 6 Try.prog 29 #[.int .i64 z, .int .i64 r, .slice a l.length c] w fun e w' => ∃ v, e = .returned v ∧ OwnB w' w.heap.size v (wr8 r l) ∧ Below w.heap.size w w' := by
  obtain ⟨i0, hi, hz0, hz1, hz2⟩ := info_parts info5
  obtain ⟨N, hNN⟩ : ∃ N, Hid (l.length = N) := ⟨_, rfl⟩
  have HL : Hid (RdE w a l) := hl
  have hN' : N ≤ 65536 := by rw [← hNN.out]; exact hN
  have hmk := mkcap z hz w
  have HMk : Hid (OwnB (w.alloc (.cells (mkZ z) 5)) w.heap.size (.slice (some ⟨w.heap.size, 0, none⟩) 0 z) []) := mkcap_own z hz w
  rw [hNN.out]
  clear hl hN
  refine callsIn_of_wp_marks Try.func29 rfl trivial ?_ rfl
  simp only [Try.ntmps29, List.size_toArray, List.length_cons, List.length_nil, Nat.reduceAdd, Nat.reduceSub, Array.replicate_succ, Array.replicate_zero, List.push_toArray, List.append_toArray, List.nil_append, List.cons_append]
  refine wpIn_wide.2 ?_
  go_wp2_with (go_at_call 57; refine (pieces_made _ _ _ _ _).mono ?_; rintro e w1 ⟨rfl, rfl⟩)
  obtain ⟨W0, hW0⟩ : ∃ W0, W0 = ((((w.alloc (Obj.cells (mkZ z) 5)).alloc (Obj.cells #[Value.slice (some ⟨w.heap.size, 0, none⟩) 0 z] 23)).alloc (Obj.cells #[Value.slice none 0 0] 23)).alloc (Obj.cells #[Value.int IntKind.i64 ↑r] 3)).alloc (Obj.cells #[Value.slice a N c] 22) := ⟨_, rfl⟩
  have hb01 : Below (w.heap.size + 1) (w.alloc (Obj.cells (mkZ z) 5)) W0 := by rw [hW0]; exact ((((Below.refl _ _).alloc (by simp) _).alloc (by simp) _).alloc (by simp) _).alloc (by simp) _
  have hb0 : Below w.heap.size w W0 := ((Below.refl _ w).alloc (Nat.le_refl _) _).trans (hb01.mono (by omega))
  have hs0 : W0.heap.size = w.heap.size + 5 := by rw [hW0]; simp
  have k0 : Blk W0 (w.heap.size + 1) 23 [.slice (some ⟨w.heap.size, 0, none⟩) 0 z] := by
    rw [hW0]
    have := Blk.new (w.alloc (Obj.cells (mkZ z) 5)) 23 [.slice (some ⟨w.heap.size, 0, none⟩) 0 z]
    rw [World.size_alloc] at this
    exact ((this.alloc _).alloc _).alloc _
  have k1 : Blk W0 (w.heap.size + 1 + 1) 23 [.slice none 0 0] := by
    rw [hW0]
    have := Blk.new ((w.alloc (Obj.cells (mkZ z) 5)).alloc (Obj.cells #[Value.slice (some ⟨w.heap.size, 0, none⟩) 0 z] 23)) 23 [.slice none 0 0]
    rw [World.size_alloc, World.size_alloc] at this
    exact (this.alloc _).alloc _
  have k2 : Blk W0 (w.heap.size + 1 + 1 + 1) 3 [.int .i64 r] := by
    rw [hW0]
    have := Blk.new (((w.alloc (Obj.cells (mkZ z) 5)).alloc (Obj.cells #[Value.slice (some ⟨w.heap.size, 0, none⟩) 0 z] 23)).alloc (Obj.cells #[Value.slice none 0 0] 23)) 3 [.int .i64 r]
    rw [World.size_alloc, World.size_alloc, World.size_alloc] at this
    exact this.alloc _
  have k3 : Blk W0 (w.heap.size + 1 + 1 + 1 + 1) 22 [.slice a N c] := by
    rw [hW0]
    have := Blk.new ((((w.alloc (Obj.cells (mkZ z) 5)).alloc (Obj.cells #[Value.slice (some ⟨w.heap.size, 0, none⟩) 0 z] 23)).alloc (Obj.cells #[Value.slice none 0 0] 23)).alloc (Obj.cells #[Value.int IntKind.i64 ↑r] 3)) 22 [.slice a N c]
    rw [World.size_alloc, World.size_alloc, World.size_alloc, World.size_alloc] at this
    exact this
  have hO0 : OwnB W0 w.heap.size (.slice (some ⟨w.heap.size, 0, none⟩) 0 z) [] := HMk.out.below hb01 (by simp)
  have hC0 : W0.heap[w.heap.size]? = some (.cells (mkZ z) 5) := (hb01.block _ (by omega)).trans (heap_alloc_new w _)
  have HQ0 : Hid (Wv W0 (w.heap.size + 1) (w.heap.size + 1 + 1) w.heap.size w.heap.size [] W0) :=
    ⟨⟨_, _, ⟨k0, k1, hO0, OwnB.nil _ _, (fun k hk => by cases hk; exact .inl rfl), (fun k hk => by cases hk), (fun k hk e => by cases e), Upd.refl _ _, (fun k hk => by cases hk; exact ⟨_, _, _, hC0⟩), (fun k hk => by cases hk)⟩⟩, by simp [stx], by simp [stx]⟩
  rw [← hW0]
  clear hW0
  have hseq := pieces_seq 5 (by omega) (HL.out.below hb0) hf r hr1 hr2 (by rw [hNN.out]; exact hN') c (B1 := w.heap.size + 1 + 1 + 1 + 1) (B2 := w.heap.size + 1 + 1 + 1) (by rw [hNN.out]; exact k3.cell1 0 _ rfl) (k2.cell1 0 _ rfl)
  have HBp : Hid (∀ k, Bp (w.heap.size + 1 + 1 + 1 + 1) (w.heap.size + 1 + 1 + 1) a l k → k < W0.heap.size ∧ k ≠ w.heap.size + 1 ∧ k ≠ w.heap.size + 1 + 1 ∧ k ≠ w.heap.size) := by
    rintro k (h | h | ⟨hne, off, h⟩)
    · omega
    · omega
    · rcases HL.out with hh | ⟨b, o, e, hlt, _⟩
      · exact absurd hh hne
      · rw [e] at h; cases h; omega
  refine (wpIn_wide (n := 6)).1 ?_
  refine wpIn_range_R rfl (by omega) rfl trivial (fun args w => by kernel_rfl) hseq (Below.refl _ _) (fun _ => rfl)
    (fun h k => Kx.trans h k) (kx_b _ (fun k hk => (HBp.out k hk).1))
    (fun pre W => Wv W0 (w.heap.size + 1) (w.heap.size + 1 + 1) w.heap.size w.heap.size pre W) (Wv.own (Nat.le_refl _) (by omega) (by omega)) HQ0.out
    (fun pre x a' W => ∃ b bv pv, a' = { tmps := #[Value.int IntKind.i64 ↑z, Value.int IntKind.i64 ↑r, Value.slice a N c, undef, undef, undef, Value.slice none 0 0, Value.pointer (some { block := w.heap.size + 1, off := 0 }), Value.pointer (some { block := w.heap.size + 1 + 1, off := 0 }), .pointer (some ⟨b, 0, none⟩), Value.int IntKind.i64 ↑z, Value.slice (some { block := w.heap.size, off := 0 }) 0 z, Value.int IntKind.i64 ↑r, Value.slice a N c, Value.func (Fn.func 84) #[] #[Value.pointer (some { block := w.heap.size + 1 + 1 + 1 + 1, off := 0 }), Value.pointer (some { block := w.heap.size + 1 + 1 + 1, off := 0 })], x.val, undef, undef, undef, undef, undef, undef, undef, undef, undef, undef, undef, undef, undef, undef, undef, undef, undef, undef, undef, undef, undef, undef, undef, undef, undef], defers := [] } ∧ Blk W b 96 [.bool x.wh, .int .i64 x.cm, .slice x.a x.n x.c, .string x.v] ∧ W0.heap.size ≤ b ∧ Wq W0 (w.heap.size + 1) (w.heap.size + 1 + 1) w.heap.size w.heap.size (stx pre).1 (stx pre).2 bv pv W ∧ (stx pre).1.length ≤ pre.length * 17500 ∧ (stx pre).2.length ≤ pre.length * 4 ∧ pre.length < N ∧ Arg W x.a x.n x.c x.lf ∧ (∀ b off, x.a = some ⟨b, off, none⟩ → b = x.b) ∧ x.cm ≤ 1032 ∧ x.n ≤ 1032 ∧ x.v.size ≤ 16384 ∧ W0.heap.size ≤ x.b ∧ (∀ k, bv.ownBlock = some k → k ≠ x.b ∧ k ≠ b) ∧ (∀ k, pv.ownBlock = some k → k ≠ x.b ∧ k ≠ b))
    ?_ ?_ ?_ ?_
  · intro pre x a' s X Y row hs hg hr
    obtain ⟨b, bv, pv, e, h1, h2, h3, h4, h5, h6, h7, h8⟩ := hs
    have u : Upd (fun k => row = some k) X Y := (Upd.refl _ _).grown hg (fun k hk _ => hk)
    refine ⟨b, bv, pv, e, h1.upd u (fun e => ?_), h2, h3.kept (by omega) (by omega) hg hr, h4, h5, h6, h7.grownK hg (fun r e => (hr r e).2), h8⟩
    obtain ⟨_, o, ho, hc⟩ := hr _ e
    unfold Blk at h1
    rw [h1] at ho; cases ho; cases hc
  · intro lp pre x V W K hI hVW hR hlen hK
    have HKK : Hid _ := hK
    obtain ⟨bv, pv, hq⟩ := hI.ex
    have hVs : W0.heap.size ≤ V.heap.size := hq.upd.size
    have hxb := hR.new
    have hbA : Below W.heap.size W (W.alloc (.cells #[.bool x.wh, .int .i64 x.cm, .slice x.a x.n x.c, .string x.v] 96)) := (Below.refl _ _).alloc (Nat.le_refl _) _
    have hws := hVW.size
    clear hK
    gi_wp2
    refine HKK.out _ _ ((KeepsOthers.alloc _ _).from _) ⟨hbA.size, fun k hk => hbA.block k (by have := (HBp.out k hk).1; omega), fun c t f e => hbA.block _ (Array.getElem?_eq_some_iff.1 e).1⟩ ⟨W.heap.size, bv, pv, rfl, Blk.new W 96 _, by omega, (hq.below hVW).below hbA, hI.bd, hI.bp, by rw [← hNN.out]; exact hlen, hR.arg.below hbA, hR.blk, hR.cm, hR.n, hR.v, by omega, fun k hk => ?_, fun k hk => ?_⟩
    · have := (hq.ob.lt k hk).2; omega
    · have := (hq.op.lt k hk).2; omega
  · rintro lp pre x a' W hlW hloop ⟨b, bv, pv, rfl, hBx, hWb, hq, hbd, hbp, hpl, harg, hblk, hc1, hn1, hv1, hxw, hob, hop⟩
    have y0 := hBx.cell1 0 _ rfl
    have y1 := hBx.cell1 1 _ rfl
    have y2 := hBx.cell1 2 _ rfl
    have y3 := hBx.cell1 3 _ rfl
    obtain ⟨B, hB⟩ : ∃ B, Hid ((stx pre).1 = B) := ⟨_, rfl⟩
    obtain ⟨P, hP⟩ : ∃ P, Hid ((stx pre).2 = P) := ⟨_, rfl⟩
    obtain ⟨BL, hBL⟩ : ∃ BL, Hid (B.length = BL) := ⟨_, rfl⟩
    rw [hB.out, hP.out] at hq
    obtain ⟨ab, cbb, hbv⟩ := own_slice hq.ob
    rw [hBL.out] at hbv
    subst hbv
    rw [hB.out, hBL.out] at hbd
    rw [hP.out] at hbp
    have hlt : BL ≤ 2000000000 := by have h2 := Nat.mul_le_mul_right 17500 (Nat.le_of_lt hpl); omega
    have hplt : P.length ≤ 300000 := by have h2 := Nat.mul_le_mul_right 4 (Nat.le_of_lt hpl); omega
    have HQ : Hid (Wq W0 (w.heap.size + 1) (w.heap.size + 1 + 1) w.heap.size w.heap.size B P (Value.slice ab BL cbb) pv W) := hq
    have h59 : Fence.wide.fn 59 := trivial
    have h60 : Fence.wide.fn 60 := trivial
    have HAr : Hid (Arg W x.a x.n x.c x.lf) := harg
    have HBk : Hid (Blk W b 96 [.bool x.wh, .int .i64 x.cm, .slice x.a x.n x.c, .string x.v]) := hBx
    have HJn : Hid (∀ W6 P' pv', Wq W0 (w.heap.size + 1) (w.heap.size + 1 + 1) w.heap.size w.heap.size B P' (Value.slice ab BL cbb) pv' W6 → Arg W6 x.a x.n x.c x.lf → CallsIn (Fence.wide.inRound lp) 3 Try.prog 60 #[.agg #[.bool x.wh, .int .i64 x.cm, .slice x.a x.n x.c, .string x.v], (Value.slice ab BL cbb)] W6 fun e w' => ∃ a' n' c', e = .returned (.slice a' n' c') ∧ AppB W6 w' w.heap.size (Value.slice ab BL cbb) (.slice a' n' c') (B ++ pcB x.cm x.lf x.v)) := fun W6 P' pv' h6 ha => by
      have := join_any h6.ob (by have := h6.upd.size; omega) ha (fun b' off e => fun e' => (hob _ e').1 (hblk b' off e)) x.wh x.cm x.v (by omega) (by omega) (by omega) (by rw [hBL.out]; omega)
      refine callsIn_wide.2 (this.mono ?_)
      rintro e w' ⟨v', rfl, h⟩
      obtain ⟨a', c', rfl⟩ := own_slice h.own
      exact ⟨_, _, _, rfl, h⟩
    have HEnd : Hid (∀ (aa : Act) W6 w7 v7 P' pv', Wq W0 (w.heap.size + 1) (w.heap.size + 1 + 1) w.heap.size w.heap.size B P' (Value.slice ab BL cbb) pv' W6 → Upd (fun k => k = w.heap.size + 1 ∨ k = w.heap.size + 1 + 1 ∨ (Value.slice ab BL cbb).ownBlock = some k ∨ pv.ownBlock = some k) W W6 → (∀ k, pv'.ownBlock = some k → pv.ownBlock = some k ∨ W.heap.size ≤ k) → (stx (pre ++ [x])).2 = P' → AppB W6 w7 w.heap.size (Value.slice ab BL cbb) v7 (B ++ pcB x.cm x.lf x.v) →
        goesOn W0.heap.size (Kx (Bp (w.heap.size + 1 + 1 + 1 + 1) (w.heap.size + 1 + 1 + 1) a l) x) (Wv W0 (w.heap.size + 1) (w.heap.size + 1 + 1) w.heap.size w.heap.size (pre ++ [x])) W .normal aa (w7.setCell ⟨w.heap.size + 1, 0, none⟩ v7)) := fun aa W6 w7 v7 P' pv' h6 u6 hpv hP' ha => by
      refine HQ.out.ends h6 (by omega) (by omega) (by omega) (by omega) (by omega) (by omega) u6 hpv hB.out hP' ha (by rw [hBL.out]; exact hbd) ?_ hc1 (by rw [HAr.out.1]; exact hn1) hv1 HBp.out (fun k hk => (hob k hk).1) (fun k hk => (hop k hk).1) (by omega) (by omega) _ aa
      rw [← hP', stx_snoc]
      show ((stx pre).2 ++ _).length ≤ _
      rw [hP.out, List.length_append]
      split
      · rw [byts_len]; omega
      · simp; omega
    clear hq harg hBx hbd
    by_cases hwh : x.wh = true
    · have HP' : Hid ((stx (pre ++ [x])).2 = P ++ byts 4 BL) := by rw [stx_snoc]; show (stx pre).2 ++ _ = _; rw [hP.out, if_pos hwh, hB.out, hBL.out]
      rw [hwh] at y0 HJn HBk
      have hwu : IntKind.u32.wrap (BL : Int) = BL := by rw [IntKind.wrap_u32']; omega
      have t5 := HQ.out.b1.cell1 0 _ rfl
      have t6 := HQ.out.p1.cell1 0 _ rfl
      have HFx : Hid (∀ W', CallsIn Fence.wide 3 Try.prog 59 #[.int .u32 BL] W' fun e w' => ∃ v, e = .returned v ∧ OwnB w' W'.heap.size v (byts 4 BL) ∧ Below W'.heap.size W' w') := fun W' => callsIn_wide.2 (cfixed32_own BL W' (by omega) (by omega))
      have HAp : Hid (∀ w5 v5, OwnB w5 W.drew.heap.size v5 (byts 4 BL) → Below W.drew.heap.size W.drew w5 → ∃ v6 w6, (Builtin.append_ #[23, 23] 23 #[pv, v5]).run Try.prog w5 = .ok v6 w6 ∧ AppB w5 w6 w.heap.size pv v6 (P ++ byts 4 BL)) := fun w5 v5 ho hb => by
        have hp5 : OwnB w5 w.heap.size pv P := HQ.out.op.drew.below hb (Nat.le_refl _)
        obtain ⟨v6, w6, h1, h2, h3, h4⟩ := hp5.run_append (P := Try.prog) 23 23 23 i0 Try.underlying23 hi hz0 hz1 hz2 v5 (byts 4 BL) ho.src (by have := HQ.out.upd.size; have := hb.size; simp at this; omega) (by rw [byts_len]; omega)
        exact ⟨v6, w6, h1, AppB.grow h2 h3 h4⟩
      have HFp : Hid (∀ w5, Below W.drew.heap.size W.drew w5 → ∀ v6 w6, AppB w5 w6 w.heap.size pv v6 (P ++ byts 4 BL) → w6.cell? ⟨w.heap.size + 1 + 1, 0, none⟩ = some pv ∧ w6.frozen? ⟨w.heap.size + 1 + 1, 0, none⟩ = false) := fun w5 hb v6 w6 ha => by
        have := ((HQ.out.p1.drew.upd (S := Non) (Upd.ofBelow hb) id).upd ha.upd (fun e => by have := HQ.out.lp _ e; omega))
        exact ⟨this.cell1 0 _ rfl, this.frozen 0⟩
      have HFq : Hid (∀ w5, Below W.drew.heap.size W.drew w5 → w5.cell? ⟨w.heap.size + 1 + 1, 0, none⟩ = some pv) := fun w5 hb => (HQ.out.p1.drew.upd (S := Non) (Upd.ofBelow hb) id).cell1 0 _ rfl
      have HPl : Hid (∀ w5, Below W.drew.heap.size W.drew w5 → ∀ v6 w6, AppB w5 w6 w.heap.size pv v6 (P ++ byts 4 BL) → Wq W0 (w.heap.size + 1) (w.heap.size + 1 + 1) w.heap.size w.heap.size B (P ++ byts 4 BL) (.slice ab BL cbb) v6 (w6.setCell ⟨w.heap.size + 1 + 1, 0, none⟩ v6) ∧
          Upd (fun k => k = w.heap.size + 1 ∨ k = w.heap.size + 1 + 1 ∨ (Value.slice ab BL cbb).ownBlock = some k ∨ pv.ownBlock = some k) W (w6.setCell ⟨w.heap.size + 1 + 1, 0, none⟩ v6) ∧ (∀ k, v6.ownBlock = some k → pv.ownBlock = some k ∨ W.heap.size ≤ k) ∧ Arg (w6.setCell ⟨w.heap.size + 1 + 1, 0, none⟩ v6) x.a x.n x.c x.lf) := fun w5 hb v6 w6 ha => by
        have hb' : Below W.heap.size W w5 := ((Below.refl _ _).drew).trans hb
        have q5 := HQ.out.below hb'
        obtain ⟨q6, u6⟩ := q5.place (by omega) (by omega) (by omega) (by omega) (by omega) (by omega) ha (by rw [List.length_append, byts_len]; omega)
        have u : Upd (fun k => k = w.heap.size + 1 ∨ k = w.heap.size + 1 + 1 ∨ (Value.slice ab BL cbb).ownBlock = some k ∨ pv.ownBlock = some k) W (w6.setCell ⟨w.heap.size + 1 + 1, 0, none⟩ v6) := (Upd.ofBelow hb').trans u6
        refine ⟨q6, u, fun k hk => ?_, HAr.out.upd u (fun b' off e => ?_)⟩
        · rcases ha.loc with e | e
          · left; rw [← e]; exact hk
          · right; exact Nat.le_trans hb'.size (e k hk)
        · have hb0 := hblk b' off e
          rintro (e' | e' | e' | e')
          · omega
          · omega
          · exact (hob _ e').1 hb0
          · exact (hop _ e').1 hb0
      have HBox : Hid (∀ W6, Upd (fun k => k = w.heap.size + 1 ∨ k = w.heap.size + 1 + 1 ∨ (Value.slice ab BL cbb).ownBlock = some k ∨ pv.ownBlock = some k) W W6 → Blk W6 b 96 [.bool true, .int .i64 x.cm, .slice x.a x.n x.c, .string x.v]) := fun W6 u => HBk.out.upd u (by
        rintro (e' | e' | e' | e')
        · omega
        · omega
        · exact (hob _ e').2 rfl
        · exact (hop _ e').2 rfl)
      have t5' : W.drew.cell? ⟨w.heap.size + 1, 0, none⟩ = some (.slice ab BL cbb) := t5
      have t6' : W.drew.cell? ⟨w.heap.size + 1 + 1, 0, none⟩ = some pv := t6
      gi_wp2
      refine wpIn_region_any_round rfl (by kernel_rfl) (by kernel_rfl) ?_
      refine wpAnyIn_ready (rs := [0, 1]) (by kernel_rfl) (by simp) ?_
      refine AllReadyIn.cons rfl (fun K hK => ?_) ?_
      · go_simp; refine hK _ _ ?_; clear hK K
        refine wpAnyIn_ready (rs := [1]) (by kernel_rfl) (by simp) ?_
        refine AllReadyIn.cons rfl (fun K hK => ?_) ?_
        · go_simp; refine hK _ _ ?_; clear hK K
          refine wpAnyIn_take (i := 2) (v := ?_) rfl rfl (by kernel_rfl) (by kernel_rfl) (by kernel_rfl) (fun _ _ _ h => h) ⟨Or.inl ⟨by rfl, ?_⟩, fun _ => rfl⟩ ?_
          rotate_left
          · intro w; go_simp; (try with_reducible rfl)
          (try simp only [Act.put, List.setIfInBounds_toArray, List.set_cons_zero, List.set_cons_succ])
          refine wpAnyIn_take (i := 3) (v := ?_) rfl rfl (by kernel_rfl) (by kernel_rfl) (by kernel_rfl) (fun _ _ _ h => h) ⟨Or.inl ⟨by rfl, ?_⟩, fun _ => rfl⟩ ?_
          rotate_left
          · intro w; go_simp; (try with_reducible rfl)
          (try simp only [Act.put, List.setIfInBounds_toArray, List.set_cons_zero, List.set_cons_succ])
          refine wpAnyIn_ready (rs := [4]) (by kernel_rfl) (by simp) ?_
          refine AllReadyIn.cons rfl (fun K hK => ?_) ?_
          · go_simp; gi_wp2_with (gi_at_call 59; refine (HFx.out _).mono ?_; rintro e w5 ⟨v5, rfl, ho5, hb5⟩; have p0 := HFq.out w5 hb5; obtain ⟨v6, w6, hrun, ha6⟩ := HAp.out w5 v5 ho5 hb5; obtain ⟨a6, c6, rfl⟩ := own_slice ha6.own; obtain ⟨p5, p6⟩ := HFp.out w5 hb5 _ _ ha6; obtain ⟨n6, hn6⟩ : ∃ n, Hid (n = (P ++ byts 4 BL).length) := ⟨_, rfl⟩; rw [← hn6.out] at hrun ha6)
            refine wpAnyIn_ready (rs := [5]) (by kernel_rfl) (by simp) ?_
            refine AllReadyIn.cons rfl (fun K hK => ?_) ?_
            · refine operIn_append (.tmp 18) (.tmp 22) 23 23 rfl rfl rfl hrun ?_; refine hK _ _ ?_; clear hK K; (try simp only [Act.put, List.setIfInBounds_toArray, List.set_cons_zero, List.set_cons_succ])
              refine wpAnyIn_ready (rs := [6]) (by kernel_rfl) (by simp) ?_
              refine AllReadyIn.cons rfl (fun K hK => ?_) ?_
              · go_simp; refine hK _ _ ?_; clear hK K
                refine wpAnyIn_done (by kernel_rfl) ?_ _
                obtain ⟨q6, u6, hpv6, hne6⟩ := HPl.out w5 hb5 _ _ ha6
                have Bx6 := HBox.out _ u6
                have y0' := Bx6.cell1 0 _ rfl
                have y1' := Bx6.cell1 1 _ rfl
                have y2' := Bx6.cell1 2 _ rfl
                have y3' := Bx6.cell1 3 _ rfl
                have t5 := q6.b1.cell1 0 _ rfl
                clear hrun p5 p6 p0
                gi_wp2_with (gi_at_call 60; refine (HJn.out _ _ _ q6 hne6).mono ?_; rintro e w7 ⟨a7, n7, c7, rfl, ha7⟩; have B7 := q6.b1.upd ha7.upd (fun e => by have := q6.lb _ e; omega); have t7 := B7.cell1 0 _ rfl; have t8 := B7.frozen 0)
                exact HEnd.out ⟨#[], []⟩ _ _ _ _ _ q6 u6 hpv6 HP'.out ha7
              exact AllReadyIn.nil
            exact AllReadyIn.nil
          exact AllReadyIn.nil
        exact AllReadyIn.nil
      refine AllReadyIn.cons rfl (fun K hK => ?_) ?_
      · go_simp; refine hK _ _ ?_; clear hK K
        refine wpAnyIn_take (i := 2) (v := ?_) rfl rfl (by kernel_rfl) (by kernel_rfl) (by kernel_rfl) (fun _ _ _ h => h) ⟨Or.inl ⟨by rfl, ?_⟩, fun _ => rfl⟩ ?_
        rotate_left
        · intro w; go_simp; (try with_reducible rfl)
        (try simp only [Act.put, List.setIfInBounds_toArray, List.set_cons_zero, List.set_cons_succ])
        refine wpAnyIn_take (i := 3) (v := ?_) rfl rfl (by kernel_rfl) (by kernel_rfl) (by kernel_rfl) (fun _ _ _ h => h) ⟨Or.inl ⟨by rfl, ?_⟩, fun _ => rfl⟩ ?_
        rotate_left
        · intro w; go_simp; (try with_reducible rfl)
        (try simp only [Act.put, List.setIfInBounds_toArray, List.set_cons_zero, List.set_cons_succ])
        refine wpAnyIn_ready (rs := [0, 4]) (by kernel_rfl) (by simp) ?_
        refine AllReadyIn.cons rfl (fun K hK => ?_) ?_
        · go_simp; refine hK _ _ ?_; clear hK K
          refine wpAnyIn_ready (rs := [4]) (by kernel_rfl) (by simp) ?_
          refine AllReadyIn.cons rfl (fun K hK => ?_) ?_
          · go_simp; gi_wp2_with (gi_at_call 59; refine (HFx.out _).mono ?_; rintro e w5 ⟨v5, rfl, ho5, hb5⟩; have p0 := HFq.out w5 hb5; obtain ⟨v6, w6, hrun, ha6⟩ := HAp.out w5 v5 ho5 hb5; obtain ⟨a6, c6, rfl⟩ := own_slice ha6.own; obtain ⟨p5, p6⟩ := HFp.out w5 hb5 _ _ ha6; obtain ⟨n6, hn6⟩ : ∃ n, Hid (n = (P ++ byts 4 BL).length) := ⟨_, rfl⟩; rw [← hn6.out] at hrun ha6)
            refine wpAnyIn_ready (rs := [5]) (by kernel_rfl) (by simp) ?_
            refine AllReadyIn.cons rfl (fun K hK => ?_) ?_
            · refine operIn_append (.tmp 18) (.tmp 22) 23 23 rfl rfl rfl hrun ?_; refine hK _ _ ?_; clear hK K; (try simp only [Act.put, List.setIfInBounds_toArray, List.set_cons_zero, List.set_cons_succ])
              refine wpAnyIn_ready (rs := [6]) (by kernel_rfl) (by simp) ?_
              refine AllReadyIn.cons rfl (fun K hK => ?_) ?_
              · go_simp; refine hK _ _ ?_; clear hK K
                refine wpAnyIn_done (by kernel_rfl) ?_ _
                obtain ⟨q6, u6, hpv6, hne6⟩ := HPl.out w5 hb5 _ _ ha6
                have Bx6 := HBox.out _ u6
                have y0' := Bx6.cell1 0 _ rfl
                have y1' := Bx6.cell1 1 _ rfl
                have y2' := Bx6.cell1 2 _ rfl
                have y3' := Bx6.cell1 3 _ rfl
                have t5 := q6.b1.cell1 0 _ rfl
                clear hrun p5 p6 p0
                gi_wp2_with (gi_at_call 60; refine (HJn.out _ _ _ q6 hne6).mono ?_; rintro e w7 ⟨a7, n7, c7, rfl, ha7⟩; have B7 := q6.b1.upd ha7.upd (fun e => by have := q6.lb _ e; omega); have t7 := B7.cell1 0 _ rfl; have t8 := B7.frozen 0)
                exact HEnd.out ⟨#[], []⟩ _ _ _ _ _ q6 u6 hpv6 HP'.out ha7
              exact AllReadyIn.nil
            exact AllReadyIn.nil
          exact AllReadyIn.nil
        refine AllReadyIn.cons rfl (fun K hK => ?_) ?_
        · go_simp; gi_wp2_with (gi_at_call 59; refine (HFx.out _).mono ?_; rintro e w5 ⟨v5, rfl, ho5, hb5⟩; have p0 := HFq.out w5 hb5; obtain ⟨v6, w6, hrun, ha6⟩ := HAp.out w5 v5 ho5 hb5; obtain ⟨a6, c6, rfl⟩ := own_slice ha6.own; obtain ⟨p5, p6⟩ := HFp.out w5 hb5 _ _ ha6; obtain ⟨n6, hn6⟩ : ∃ n, Hid (n = (P ++ byts 4 BL).length) := ⟨_, rfl⟩; rw [← hn6.out] at hrun ha6)
          refine wpAnyIn_ready (rs := [0]) (by kernel_rfl) (by simp) ?_
          refine AllReadyIn.cons rfl (fun K hK => ?_) ?_
          · go_simp; refine hK _ _ ?_; clear hK K
            refine wpAnyIn_ready (rs := [5]) (by kernel_rfl) (by simp) ?_
            refine AllReadyIn.cons rfl (fun K hK => ?_) ?_
            · refine operIn_append (.tmp 18) (.tmp 22) 23 23 rfl rfl rfl hrun ?_; refine hK _ _ ?_; clear hK K; (try simp only [Act.put, List.setIfInBounds_toArray, List.set_cons_zero, List.set_cons_succ])
              refine wpAnyIn_ready (rs := [6]) (by kernel_rfl) (by simp) ?_
              refine AllReadyIn.cons rfl (fun K hK => ?_) ?_
              · go_simp; refine hK _ _ ?_; clear hK K
                refine wpAnyIn_done (by kernel_rfl) ?_ _
                obtain ⟨q6, u6, hpv6, hne6⟩ := HPl.out w5 hb5 _ _ ha6
                have Bx6 := HBox.out _ u6
                have y0' := Bx6.cell1 0 _ rfl
                have y1' := Bx6.cell1 1 _ rfl
                have y2' := Bx6.cell1 2 _ rfl
                have y3' := Bx6.cell1 3 _ rfl
                have t5 := q6.b1.cell1 0 _ rfl
                clear hrun p5 p6 p0
                gi_wp2_with (gi_at_call 60; refine (HJn.out _ _ _ q6 hne6).mono ?_; rintro e w7 ⟨a7, n7, c7, rfl, ha7⟩; have B7 := q6.b1.upd ha7.upd (fun e => by have := q6.lb _ e; omega); have t7 := B7.cell1 0 _ rfl; have t8 := B7.frozen 0)
                exact HEnd.out ⟨#[], []⟩ _ _ _ _ _ q6 u6 hpv6 HP'.out ha7
              exact AllReadyIn.nil
            exact AllReadyIn.nil
          exact AllReadyIn.nil
        exact AllReadyIn.nil
      exact AllReadyIn.nil
    · have hwf : x.wh = false := by simpa using hwh
      have HP' : Hid ((stx (pre ++ [x])).2 = P) := by rw [stx_snoc]; show (stx pre).2 ++ _ = _; rw [hP.out, hwf]; simp
      have t5 := HQ.out.b1.cell1 0 _ rfl
      rw [hwf] at y0 HJn
      gi_wp2_with (gi_at_call 60; refine (HJn.out _ _ _ HQ.out HAr.out).mono ?_; rintro e w7 ⟨a7, n7, c7, rfl, ha7⟩; have B7 := HQ.out.b1.upd ha7.upd (fun e => by have := HQ.out.lb _ e; omega); have t7 := B7.cell1 0 _ rfl; have t8 := B7.frozen 0)
      exact HEnd.out ⟨#[], []⟩ _ _ _ _ _ HQ.out (Upd.refl _ _) (fun k hk => .inl hk) HP'.out ha7
  · rintro D xs W hD hS hI hK
    have hst := stx_bt r l _ xs hS
    obtain ⟨bv, pv, hq⟩ := hI.ex
    rw [hst] at hq
    have hbz := bz_le (r := r) hf l.length
    obtain ⟨B, hB⟩ : ∃ B, Hid (bt r l l.length = B) := ⟨_, rfl⟩
    obtain ⟨P, hP⟩ : ∃ P, Hid (pl r l l.length = P) := ⟨_, rfl⟩
    obtain ⟨BL, hBL⟩ : ∃ BL, Hid (B.length = BL) := ⟨_, rfl⟩
    have hBLz : BL ≤ 2000000000 := by
      rw [← hBL.out, ← hB.out, bt_len]
      have := Nat.mul_le_mul_right 17500 hN'
      rw [hNN.out] at hbz ⊢
      omega
    dsimp only at hq
    rw [hB.out, hP.out] at hq
    obtain ⟨ab, cbb, hbv⟩ := own_slice hq.ob
    rw [hBL.out] at hbv
    subst hbv
    clear hI hS hst hseq hbz
    have hwu : ∀ m : Nat, m ≤ 100000 → IntKind.u32.wrap (m : Int) = m := fun m h => by rw [IntKind.wrap_u32']; omega
    rcases Nat.eq_zero_or_pos N with hN0 | hN0
    · subst hN0
      obtain ⟨m, hm⟩ : ∃ m : Nat, Hid (m = 1) := ⟨1, rfl⟩
      have hm1 : 1 ≤ m := by rw [hm.out]; exact Nat.le_refl _
      have hm2 : m ≤ 100000 := by rw [hm.out]; omega
      have hwm := hwu m hm2
      have hwi : IntKind.i64.wrap (m : Int) = m := by rw [IntKind.wrap_i64]; omega
      obtain ⟨PL, hPL⟩ : ∃ PL : Nat, Hid (PL = 4 * m) := ⟨_, rfl⟩
      have hq4 : Int.tdiv (PL : Int) 4 = m := by rw [Int.tdiv_eq_ediv_of_nonneg (by omega)]; have := hPL.out; omega
      have HPc : Hid (∀ w5 v5, OwnB w5 W.heap.size v5 (byts 4 0) → Below W.heap.size W w5 → Wq W0 (w.heap.size + 1) (w.heap.size + 1 + 1) w.heap.size w.heap.size B (byts 4 0) (.slice ab BL cbb) v5 (w5.setCell ⟨w.heap.size + 1 + 1, 0, none⟩ v5) ∧ (w5.setCell ⟨w.heap.size + 1 + 1, 0, none⟩ v5).heap[D]? = some (.deferred (some []))) := fun w5 v5 ho hb => by
        have ha : AppB W w5 w.heap.size pv v5 (byts 4 0) := ⟨ho.mono (by have := hq.upd.size; omega), Upd.ofBelow hb, .inr fun j hj => (ho.lt j hj).1⟩
        obtain ⟨q, u⟩ := hq.place (by omega) (by omega) (by omega) (by omega) (by omega) (by omega) ha (by rw [byts_len]; omega)
        exact ⟨q, (hq.keepsF u W0.heap.size).same D _ hD hK rfl⟩
      have HTT : Hid ((B ++ byts 4 0) ++ byts 4 m = wr8 r l) := by
        show _ = _
        unfold wr8
        rw [hB.out, if_pos hNN.out, if_pos hNN.out, hm.out]; rfl
      have HFr : Hid (∀ w5, Below W.heap.size W w5 → w5.cell? ⟨w.heap.size + 1 + 1, 0, none⟩ = some pv ∧ w5.frozen? ⟨w.heap.size + 1 + 1, 0, none⟩ = false) := fun w5 hb => by
        have := hq.p1.upd (S := Non) (Upd.ofBelow hb) id
        exact ⟨this.cell1 0 _ rfl, this.frozen 0⟩
      have HCl : Hid (∀ W', Calls Try.prog 59 #[.int .u32 0] W' fun e w' => ∃ ap cp', e = .returned (.slice ap PL cp') ∧ OwnB w' W'.heap.size (.slice ap PL cp') (byts 4 0) ∧ Below W'.heap.size W' w') := fun W' => by
        refine (cfixed32_own 0 W' (by omega) (by omega)).mono ?_
        rintro e w' ⟨v, rfl, ho, hb⟩
        obtain ⟨a', c', rfl⟩ := own_slice ho
        have e4 : (byts 4 0).length = PL := by rw [byts_len, hPL.out, hm.out]
        rw [e4] at ho ⊢
        exact ⟨_, _, rfl, ho, hb⟩
      clear hq hK
      go_wp2_with (first
        | (at_builtin; refine wpList_append_run rfl (.tmp 31) (.tmp 32) 23 23 rfl rfl rfl hrun8 ?_)
        | (go_at_call 59; refine (HCl.out _).mono ?_; rintro e w5 ⟨ap, cp', rfl, ho5, hb5⟩; obtain ⟨hQ5, hK5⟩ := HPc.out _ _ ho5 hb5; obtain ⟨f5, f6⟩ := HFr.out _ hb5
           have t1 := hQ5.b1.cell1 0 _ rfl; have t2 := hQ5.p1.cell1 0 _ rfl
           obtain ⟨a8, n8, c8, w8, G, hrun8, t3, t4, hl9, hs9, hed⟩ := hQ5.tail hs0 hb0 hD hK5 (by rw [hBL.out]; exact hBLz) (by rw [byts_len, hm.out]) hm1 hm2 HTT.out
           have HL9 : Hid _ := hl9; have HS9 : Hid _ := hs9; have HEd : Hid _ := hed
           have z1 := (hs9 _ (Below.refl _ _)).2.2.1; have z2 := (hs9 _ (Below.refl _ _)).2.2.2
           clear hl9 hs9 hed hQ5 hK5))
      refine wp_noP ?_
      go_region_held_law (fun w' => w'.cell? ⟨w.heap.size + 1, 0, none⟩ = some (.slice a8 n8 c8) ∧ w'.cell? ⟨w.heap.size + 1 + 1, 0, none⟩ = some (.slice ap PL cp'))
        (first | (go_keep; done) | (exact (HEd.out _ _ _ hb11 hg11 ho11).2.2.2) | (exact ⟨(HS9.out _ hb11).2.2.1, (HS9.out _ hb11).2.2.2⟩))
        (first
          | (go_at_call 59; refine (cfixed32_own m _ (by omega) (by omega)).mono ?_; rintro e w10 ⟨v10, rfl, ho10, hb10⟩; have hb11 := ((Below.refl _ _).drew).trans hb10)
          | (refine OwnB.step_append (by rfl) _ _ _ _ (by rfl) (by rfl) (base := w.heap.size) (l := G) (v := .slice a8 n8 c8) (HS9.out _ hb11).1 i0 Try.underlying23 hi hz0 hz1 hz2 _ (by rfl) (byts 4 m) ho10.src (HS9.out _ hb11).2.1 HL9.out ?_; intro v11 w11 ho11 hg11 hl11))
      dsimp only [noP]
      obtain ⟨d1, d2, d3, _⟩ := HEd.out _ _ _ hb11 hg11 ho11
      have D1 : Hid _ := d1
      have D2 : Hid (OwnB w11 w.heap.size v11 (wr8 r l)) := d2
      have D3 : Hid _ := d3
      clear hl11 hg11 ho11 ho10 hb10 hb11 d1 d2 d3 hwu
      go_wp2
      have d1 := D1.out
      have d2 : OwnB w11 w.heap.size v11 (wr8 r l) := D2.out
      have d3 := D3.out
      refine ⟨by simp, .inl ⟨_, _, rfl, run_takeDeferred d1, ?_⟩⟩
      refine ⟨v11, ?_, v11, rfl, d2.kept (grownBy_putObj' _ D (.deferred none)) (fun r e => by cases e; exact ⟨_, d1, rfl⟩), d3.trans (belowK_b (w := w) (Nat.le_refl _) _ D _ _ (by omega) d1 rfl rfl)⟩
      simp [results, Try.f29, go_sem]
    · obtain ⟨m, hm⟩ : ∃ m : Nat, Hid (m = wn r N) := ⟨_, rfl⟩
      have hm1 : 1 ≤ m := by rw [hm.out]; exact wn_pos r N hN0
      have hm2 : m ≤ 100000 := by rw [hm.out]; exact Nat.le_trans (wn_le r N) (by omega)
      have hwm := hwu m hm2
      have hwi : IntKind.i64.wrap (m : Int) = m := by rw [IntKind.wrap_i64]; omega
      obtain ⟨PL, hPL⟩ : ∃ PL : Nat, Hid (PL = 4 * m) := ⟨_, rfl⟩
      have hq4 : Int.tdiv (PL : Int) 4 = m := by rw [Int.tdiv_eq_ediv_of_nonneg (by omega)]; have := hPL.out; omega
      have hPlen : P.length = 4 * m := by rw [← hP.out, pl_len, hNN.out, hm.out]
      have hNz : ((N : Int) == 0) = false := by simp; omega
      have HTT : Hid ((B ++ P) ++ byts 4 m = wr8 r l) := by
        show _ = _
        unfold wr8
        rw [hB.out, hP.out, if_neg (by rw [hNN.out]; omega), if_neg (by rw [hNN.out]; omega), hm.out, hNN.out]
      obtain ⟨ap, cp', hpv⟩ := own_slice hq.op
      rw [hPlen, ← hPL.out] at hpv
      subst hpv
      have t1 := hq.b1.cell1 0 _ rfl
      have t2 := hq.p1.cell1 0 _ rfl
      obtain ⟨a8, n8, c8, w8, G, hrun8, t3, t4, hl9, hs9, hed⟩ := hq.tail hs0 hb0 hD hK (by rw [hBL.out]; exact hBLz) hPlen hm1 hm2 HTT.out
      have HL9 : Hid _ := hl9
      have HS9 : Hid _ := hs9
      have HEd : Hid _ := hed
      have z1 := (hs9 _ (Below.refl _ _)).2.2.1
      have z2 := (hs9 _ (Below.refl _ _)).2.2.2
      clear hl9 hs9 hed hq hK hPlen
      go_wp2_with (at_builtin; refine wpList_append_run rfl (.tmp 31) (.tmp 32) 23 23 rfl rfl rfl hrun8 ?_)
      refine wp_noP ?_
      go_region_held_law (fun w' => w'.cell? ⟨w.heap.size + 1, 0, none⟩ = some (.slice a8 n8 c8) ∧ w'.cell? ⟨w.heap.size + 1 + 1, 0, none⟩ = some (.slice ap PL cp'))
        (first | (go_keep; done) | (exact (HEd.out _ _ _ hb11 hg11 ho11).2.2.2) | (exact ⟨(HS9.out _ hb11).2.2.1, (HS9.out _ hb11).2.2.2⟩))
        (first
          | (go_at_call 59; refine (cfixed32_own m _ (by omega) (by omega)).mono ?_; rintro e w10 ⟨v10, rfl, ho10, hb10⟩; have hb11 := ((Below.refl _ _).drew).trans hb10)
          | (refine OwnB.step_append (by rfl) _ _ _ _ (by rfl) (by rfl) (base := w.heap.size) (l := G) (v := .slice a8 n8 c8) (HS9.out _ hb11).1 i0 Try.underlying23 hi hz0 hz1 hz2 _ (by rfl) (byts 4 m) ho10.src (HS9.out _ hb11).2.1 HL9.out ?_; intro v11 w11 ho11 hg11 hl11))
      dsimp only [noP]
      obtain ⟨d1, d2, d3, _⟩ := HEd.out _ _ _ hb11 hg11 ho11
      have D1 : Hid _ := d1
      have D2 : Hid (OwnB w11 w.heap.size v11 (wr8 r l)) := d2
      have D3 : Hid _ := d3
      clear hl11 hg11 ho11 ho10 hb10 hb11 d1 d2 d3 hwu
      go_wp2
      have d1 := D1.out
      have d2 : OwnB w11 w.heap.size v11 (wr8 r l) := D2.out
      have d3 := D3.out
      refine ⟨by simp, .inl ⟨_, _, rfl, run_takeDeferred d1, ?_⟩⟩
      refine ⟨v11, ?_, v11, rfl, d2.kept (grownBy_putObj' _ D (.deferred none)) (fun r e => by cases e; exact ⟨_, d1, rfl⟩), d3.trans (belowK_b (w := w) (Nat.le_refl _) _ D _ _ (by omega) d1 rfl rfl)⟩
      simp [results, Try.f29, go_sem]
theorem write_any {w : World} {a : Option Addr} {l : List Ent} (hl : RdE w a l) (hf : Fit l) (r : Nat) (hr1 : 1 ≤ r) (hr2 : r ≤ 1024) (hN : l.length ≤ 65536) (c : Nat) (z : Nat) (hz : z ≤ 5000000) :
    Calls Try.prog 29 #[.int .i64 z, .int .i64 r, .slice a l.length c] w fun e w' => ∃ v, e = .returned v ∧ OwnB w' w.heap.size v (wr8 r l) ∧ Below w.heap.size w w' := (callsIn_wide (n := 6)).1 (write_in hl hf r hr1 hr2 hN c z hz)
end Go.Proofs.Ytbnllobofndckaa
