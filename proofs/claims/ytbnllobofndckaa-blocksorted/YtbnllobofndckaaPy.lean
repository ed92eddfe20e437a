import Derived.Test.YtbnllobofndckaaPz
import Derived.Test.YtbnllobofndckaaRd
namespace Go.Proofs.Ytbnllobofndckaa
open Go.RowKit
set_option linter.unusedVariables false
set_option linter.unusedSimpArgs false
attribute [local go_sem] Oper.semAt_some
/-- What the closure touches. -/
def Bp (B1 B2 : Nat) (a : Option Addr) (l : List Ent) (k : Nat) : Prop := k = B1 ∨ k = B2 ∨ (l ≠ [] ∧ ∃ off, a = some ⟨k, off, none⟩)
theorem pieces_seq (n : Nat) (hn : 1 ≤ n) {w : World} {a : Option Addr} {l : List Ent} (hl : RdE w a l) (hf : Fit l) (r : Nat) (hr1 : 1 ≤ r) (hr2 : r ≤ 1024) (hN : l.length ≤ 65536) (c : Nat) {B1 B2 : Nat} (c1 : w.cell? ⟨B1, 0, none⟩ = some (.slice a l.length c)) (c2 : w.cell? ⟨B2, 0, none⟩ = some (.int .i64 r)) :
    SeqR Fence.wide n Try.prog 84 #[.pointer (some ⟨B1, 0, none⟩), .pointer (some ⟨B2, 0, none⟩)] (fun x : Px => #[x.val]) Rx (Kx (Bp B1 B2 a l)) (fun xs => xs.map Px.dat = (List.range l.length).map (dat r l)) l.length w := fun y J W hW hJb hY h0 =>
  pieces1_in n hn y B1 B2 c hf r hr1 hr2 hN (Bp B1 B2 a l) (.inl rfl) (.inr (.inl rfl)) (fun h0 b off e => .inr (.inr ⟨h0, off, e⟩)) J hJb hY W (hl.below hW) ((hW.cell (block_lt_of_cell c1)).trans c1) ((hW.cell (block_lt_of_cell c2)).trans c2) h0
theorem pieces_made (r : Int) (a : Option Addr) (n c : Nat) (w : World) : Calls Try.prog 57 #[.int .i64 r, .slice a n c] w fun e w' => e = .returned (.func (.func 84) #[] #[.pointer (some ⟨w.heap.size + 1, 0, none⟩), .pointer (some ⟨w.heap.size, 0, none⟩)]) ∧ w' = (w.alloc (.cells #[.int .i64 r] 3)).alloc (.cells #[.slice a n c] 22) := by
  go_enter Try.func57, Try.ntmps57
  go_wp2
  go_ret
  exact ⟨rfl, rfl⟩
theorem kx_b (B : Nat → Prop) {w : World} (hB : ∀ k, B k → k < w.heap.size) (x : Px) (W : World) (l : Nat) (o o' : Obj) (hl : w.heap.size ≤ l) (h : W.heap[l]? = some o) (hc : o.isCells = false) (_ : o.isWalk = false) : Kx B x W (W.putObj l o') := by
  refine ⟨by simp, fun k hk => World.putObj_heap_other (by have := hB k hk; omega), fun c t f e => World.putObj_heap_other (fun e' => ?_)⟩
  rw [e'] at e
  rw [e] at h
  cases h
  cases hc
/-- The sizes of pieces. -/
def szs : List Px → Nat
  | [] => 0
  | x :: l => pcZ x.cm x.n x.v.size + szs l
theorem szs_app (l m : List Px) : szs (l ++ m) = szs l + szs m := by
  induction l with
  | nil => simp [szs]
  | cons x l ih => simp [szs, ih]; omega
theorem szs_bz (r : Nat) (l : List Ent) : ∀ (i : Nat) (xs : List Px), xs.map Px.dat = (List.range i).map (dat r l) → (∀ x ∈ xs, x.lf.length = x.n) → szs xs = bz r l i
  | 0, xs, h, _ => by
    have : xs = [] := by simpa using h
    subst this; rfl
  | i + 1, xs, h, hl => by
    rw [List.range_succ, List.map_append] at h
    obtain ⟨ys, zs, rfl, h1, h2⟩ := List.map_eq_append_iff.1 h
    obtain ⟨z, rfl, hz⟩ : ∃ z, zs = [z] ∧ Px.dat z = dat r l i := by
      cases zs with
      | nil => simp at h2
      | cons z zs =>
        cases zs with
        | nil => simp at h2; exact ⟨z, rfl, h2⟩
        | cons y ys => simp at h2
    rw [szs_app, szs_bz r l i ys h1 (fun x hx => hl x (by simp [hx]))]
    show bz r l i + szs [z] = bz r l i + zA r l i
    unfold zA
    have hn := hl z (by simp)
    unfold Px.dat dat at hz
    simp only [Prod.mk.injEq] at hz
    obtain ⟨_, e2, e3, e4⟩ := hz
    simp only [szs, Nat.add_zero]
    rw [← hn, e2, e3, e4, List.length_drop]
/-- What stands while sizes are summed. -/
structure Sv (w : World) (bx : Nat) (z : Nat) (pre : List Px) (W : World) : Prop where
  box : Blk W bx 3 [.int .i64 ((z + szs pre : Nat) : Int)]
  upd : Upd (fun k => k = bx) w W
  len : ∀ x ∈ pre, x.lf.length = x.n
  bd : szs pre ≤ pre.length * 17500
theorem Sv.own {w : World} {bx z B : Nat} (hB : w.heap.size ≤ B) : OwnFrom B (fun (pre : List Px) W => Sv w bx z pre W) := fun s X Y row hs hg hr => by
  have u : Upd (fun k => row = some k) X Y := (Upd.refl _ _).grown hg (fun k hk _ => hk)
  have hne : ¬ row = some bx := fun e => by
    obtain ⟨_, o, ho, hc⟩ := hr _ e
    have := hs.box
    unfold Blk at this
    rw [this] at ho; cases ho; cases hc
  exact ⟨hs.box.upd u hne, hs.upd.grown hg (fun k hk hlt => by have := (hr k hk).1; omega), hs.len, hs.bd⟩
theorem Sv.below {w : World} {bx z : Nat} {pre : List Px} {W W' : World} (h : Sv w bx z pre W) (hb : Below W.heap.size W W') : Sv w bx z pre W' := ⟨h.box.upd (S := Non) (Upd.ofBelow hb) id, h.upd.trans (Upd.ofBelow hb), h.len, h.bd⟩
/-- One piece more. -/
theorem Sv.push {w : World} {bx z : Nat} {pre : List Px} {W W' : World} {x : Px} (h : Sv w bx z pre W) (hb : Below W.heap.size W W') (hl : x.lf.length = x.n) (h1 : x.cm ≤ 1032) (h2 : x.n ≤ 1032) (h3 : x.v.size ≤ 16384) : Sv w bx z (pre ++ [x]) (W'.setCell ⟨bx, 0, none⟩ (.int .i64 ((z + szs pre : Nat) + (pcZ x.cm x.n x.v.size : Nat)))) := by
  have h' := h.below hb
  refine ⟨?_, h'.upd.setCell (p := ⟨bx, 0, none⟩) (fun _ => rfl) _, fun y hy => ?_, ?_⟩
  · have := h'.box.set 0 (.int .i64 ((z + szs pre : Nat) + (pcZ x.cm x.n x.v.size : Nat)))
    have e : ((z + szs pre : Nat) : Int) + (pcZ x.cm x.n x.v.size : Nat) = ((z + szs (pre ++ [x]) : Nat) : Int) := by
      rw [szs_app]; simp only [szs]; omega
    rw [← e]; exact this
  · rcases List.mem_append.1 hy with h0 | h0
    · exact h.len y h0
    · simp at h0; subst h0; exact hl
  · have := h.bd
    have a1 := vz_le x.cm
    have a2 := vz_le x.n
    have a3 := vz_le x.v.size
    rw [szs_app, List.length_append]
    simp only [szs, List.length_singleton, Nat.add_zero]
    unfold pcZ
    omega
set_option maxRecDepth 100000 in
set_option maxHeartbeats 1000000 in
theorem sizeof_in {w : World} {a : Option Addr} {l : List Ent} (hl : RdE w a l) (hf : Fit l) (r : Nat) (hr1 : 1 ≤ r) (hr2 : r ≤ 1024) (hN : l.length ≤ 65536) (c : Nat) :
    CallsIn Fence.wide 5 Try.prog 28 #[.int .i64 r, .slice a l.length c] w fun e w' => e = .returned (.int .i64 (wr8 r l).length) ∧ Below w.heap.size w w' := by
  obtain ⟨T, hT⟩ : ∃ T : Nat, Hid ((wr8 r l).length = T) := ⟨_, rfl⟩
  rw [hT.out]
  obtain ⟨N, hNN⟩ : ∃ N, Hid (l.length = N) := ⟨_, rfl⟩
  obtain ⟨q, hq⟩ : ∃ q, Hid ((N + r - 1) / r = q) := ⟨_, rfl⟩
  have HL : Hid (RdE w a l) := hl
  have hN' : N ≤ 65536 := by rw [← hNN.out]; exact hN
  have hqN : q ≤ 131072 := by rw [← hq.out]; exact Nat.le_trans (Nat.div_le_self _ _) (by omega)
  have hsum : ((N : Int) + r - 1).tdiv r = q := by
    rw [← hq.out, Int.tdiv_eq_ediv_of_nonneg (by omega)]
    have : (N : Int) + r - 1 = ((N + r - 1 : Nat) : Int) := by omega
    rw [this]; exact (Int.natCast_ediv _ _).symm
  have hrz : ¬ (r : Int) = 0 := by omega
  rw [hNN.out]
  clear hl hN
  refine callsIn_of_wp_marks Try.func28 rfl trivial ?_ rfl
  simp only [Try.ntmps28, List.size_toArray, List.length_cons, List.length_nil, Nat.reduceAdd, Nat.reduceSub, Array.replicate_succ, Array.replicate_zero, List.push_toArray, List.append_toArray, List.nil_append, List.cons_append]
  refine wpIn_wide.2 ?_
  have hq2 : True := trivial
  go_wp2_with (go_at_call 57; refine (pieces_made _ _ _ _ _).mono ?_; rintro e w1 ⟨rfl, rfl⟩)
  · obtain ⟨z, hz⟩ : ∃ z : Nat, (z : Int) = 8 := ⟨8, by omega⟩
    rw [← hz]
    have HZ : Hid (z = 4 * max q 1 + 4) := by show _ = _; omega
    have hzl : z ≤ 600000 := by omega
    clear hz
    obtain ⟨W0, hW0⟩ : ∃ W0, W0 = ((w.alloc (.cells #[.int .i64 z] 3)).alloc (.cells #[.int .i64 r] 3)).alloc (.cells #[.slice a N c] 22) := ⟨_, rfl⟩
    have hb0 : Below w.heap.size w W0 := by rw [hW0]; exact (((Below.refl _ _).alloc (Nat.le_refl _) _).alloc (by simp) _).alloc (by simp; omega) _
    have hs0 : W0.heap.size = w.heap.size + 3 := by rw [hW0]; simp
    have k0 : Blk W0 w.heap.size 3 [.int .i64 z] := by rw [hW0]; exact ((Blk.new w 3 _).alloc _).alloc _
    have k1 : Blk W0 (w.heap.size + 1) 3 [.int .i64 r] := by
      rw [hW0]
      have := Blk.new (w.alloc (.cells #[.int .i64 z] 3)) 3 [.int .i64 r]
      rw [World.size_alloc] at this
      exact this.alloc _
    have k2 : Blk W0 (w.heap.size + 1 + 1) 22 [.slice a N c] := by
      rw [hW0]
      have := Blk.new ((w.alloc (.cells #[.int .i64 z] 3)).alloc (.cells #[.int .i64 r] 3)) 22 [.slice a N c]
      rw [World.size_alloc, World.size_alloc] at this
      exact this
    rw [← hW0]
    clear hW0
    have hseq := pieces_seq 4 (by omega) (HL.out.below hb0) hf r hr1 hr2 (by rw [hNN.out]; exact hN') c (B1 := w.heap.size + 1 + 1) (B2 := w.heap.size + 1) (by rw [hNN.out]; exact k2.cell1 0 _ rfl) (k1.cell1 0 _ rfl)
    have HBp : Hid (∀ k, Bp (w.heap.size + 1 + 1) (w.heap.size + 1) a l k → k < W0.heap.size ∧ k ≠ w.heap.size) := by
      rintro k (h | h | ⟨hne, off, h⟩)
      · omega
      · omega
      · rcases HL.out with hh | ⟨b, o, e, hlt, _⟩
        · exact absurd hh hne
        · rw [e] at h; cases h; omega
    have HI0 : Hid (Sv W0 w.heap.size z [] W0) := ⟨k0, Upd.refl _ _, by simp, by simp [szs]⟩
    refine (wpIn_wide (n := 5)).1 ?_
    refine wpIn_range_R rfl (by omega) rfl trivial (fun args w => by kernel_rfl) hseq (Below.refl _ _) (fun _ => rfl)
      (fun h k => Kx.trans h k) (kx_b _ (fun k hk => (HBp.out k hk).1))
      (fun pre W => Sv W0 w.heap.size z pre W) (Sv.own (Nat.le_refl _)) HI0.out
      (fun pre x a' W => ∃ b, a' = { tmps := #[Value.int IntKind.i64 ↑r, Value.slice a N c, undef, undef, Value.int IntKind.i64 0, Value.int IntKind.i64 ↑q, Value.pointer (some { block := w.heap.size, off := 0 }), .pointer (some ⟨b, 0, none⟩), Value.slice a N c, Value.int IntKind.i64 ↑N, Value.int IntKind.i64 ↑r, Value.int IntKind.i64 (↑N + ↑r), Value.int IntKind.i64 (↑N + ↑r - 1), Value.int IntKind.i64 ↑r, Value.int IntKind.i64 ↑q, Value.int IntKind.i64 ↑q, Value.int IntKind.i64 1, Value.int IntKind.i64 4, Value.int IntKind.i64 ↑z, Value.int IntKind.i64 ↑r, Value.slice a N c, Value.func (Fn.func 84) #[] #[Value.pointer (some { block := w.heap.size + 1 + 1, off := 0 }), Value.pointer (some { block := w.heap.size + 1, off := 0 })], x.val, undef, undef, undef, undef, undef], defers := [] } ∧ Blk W b 96 [.bool x.wh, .int .i64 x.cm, .slice x.a x.n x.c, .string x.v] ∧ w.heap.size < b ∧ (∀ k, Bp (w.heap.size + 1 + 1) (w.heap.size + 1) a l k → k ≠ b) ∧ Sv W0 w.heap.size z pre W ∧ pre.length < N ∧ x.lf.length = x.n ∧ x.cm ≤ 1032 ∧ x.n ≤ 1032 ∧ x.v.size ≤ 16384 ∧ w.heap.size < x.b)
      ?_ ?_ ?_ ?_
    · intro pre x a' s X Y row hs hg hr
      obtain ⟨b, e, h1, h2, h4, h5, h6⟩ := hs
      have u : Upd (fun k => row = some k) X Y := (Upd.refl _ _).grown hg (fun k hk _ => hk)
      refine ⟨b, e, h1.upd u (fun e => ?_), h2, h4, Sv.own (Nat.le_refl _) _ _ _ _ h5 hg hr, h6⟩
      obtain ⟨_, o, ho, hc⟩ := hr _ e
      unfold Blk at h1
      rw [h1] at ho; cases ho; cases hc
    · intro lp pre x V W K hI hVW hR hlen hK
      have HKK : Hid _ := hK
      have hVs : w.heap.size + 3 ≤ V.heap.size := by have := hI.upd.size; omega
      have hxb := hR.new
      have hbA : Below W.heap.size W (W.alloc (.cells #[.bool x.wh, .int .i64 x.cm, .slice x.a x.n x.c, .string x.v] 96)) := (Below.refl _ _).alloc (Nat.le_refl _) _
      have hws := hVW.size
      clear hK
      gi_wp2
      refine HKK.out _ _ ((KeepsOthers.alloc _ _).from _) ⟨hbA.size, fun k hk => hbA.block k (by have := (HBp.out k hk).1; have := hI.upd.size; omega), fun c t f e => hbA.block _ (Array.getElem?_eq_some_iff.1 e).1⟩ ⟨W.heap.size, rfl, Blk.new W 96 _, by omega, fun k hk => by have := (HBp.out k hk).1; have := hI.upd.size; omega, (hI.below hVW).below hbA, by rw [← hNN.out]; exact hlen, hR.arg.1, hR.cm, hR.n, hR.v, by omega⟩
    · rintro lp pre x a' W hlW hloop ⟨b, rfl, hB, hwb, hbB, hS, hpl, hlf, hc1, hn1, hv1, hxw⟩
      have y0 := hB.cell1 0 _ rfl
      have y1 := hB.cell1 1 _ rfl
      have y2 := hB.cell1 2 _ rfl
      have y3 := hB.cell1 3 _ rfl
      obtain ⟨Z, hZ⟩ : ∃ Z, Hid (z + szs pre = Z) := ⟨_, rfl⟩
      obtain ⟨p, hp⟩ : ∃ p, Hid (pcZ x.cm x.n x.v.size = p) := ⟨_, rfl⟩
      have hZl : Z ≤ 2000000000 := by
        have h1 := hS.bd
        have h2 := Nat.mul_le_mul_right 17500 (Nat.le_of_lt hpl)
        rw [← hZ.out]; omega
      have hpp : p ≤ 17500 := by
        have a1 := vz_le x.cm
        have a2 := vz_le x.n
        have a3 := vz_le x.v.size
        rw [← hp.out]; unfold pcZ; omega
      have z0 : W.cell? ⟨w.heap.size, 0, none⟩ = some (.int .i64 Z) := by rw [← hZ.out]; exact hS.box.cell1 0 _ rfl
      have HCz : Hid (∀ W', CallsIn Fence.wide 2 Try.prog 58 #[.agg #[.bool x.wh, .int .i64 x.cm, .slice x.a x.n x.c, .string x.v]] W' fun e w' => e = .returned (.int .i64 p) ∧ Below W'.heap.size W' w') := fun W' => by
        have := size_any x.wh x.cm x.a x.n x.c x.v W' (by omega) (by omega) (by omega)
        rw [hp.out] at this
        exact callsIn_wide.2 this
      have h58 : Fence.wide.fn 58 := trivial
      have HFz : Hid (∀ w5, Below W.drew.heap.size W.drew w5 → w5.cell? ⟨w.heap.size, 0, none⟩ = some (.int .i64 Z) ∧ w5.frozen? ⟨w.heap.size, 0, none⟩ = false) := fun w5 hb => by
        have := hS.box.drew.upd (S := Non) (Upd.ofBelow hb) id
        exact ⟨by rw [← hZ.out]; exact this.cell1 0 _ rfl, this.frozen 0⟩
      have HEnd : Hid (∀ (aa : Act) w5, Below W.drew.heap.size W.drew w5 → goesOn W0.heap.size (Kx (Bp (w.heap.size + 1 + 1) (w.heap.size + 1) a l) x) (fun W => Sv W0 w.heap.size z (pre ++ [x]) W) W .normal aa (w5.setCell ⟨w.heap.size, 0, none⟩ (.int .i64 ((Z : Int) + p)))) := fun aa w5 hb => by
        have hb' : Below W.heap.size W w5 := ((Below.refl _ _).drew).trans hb
        have hs := hS.push hb' hlf hc1 hn1 hv1
        rw [hZ.out, hp.out] at hs
        refine ⟨rfl, ⟨by simpa using hb'.size, fun k o _ hk ho => ?_⟩, ⟨by simpa using hb'.size, fun k hk => ?_, fun c t f e => ?_⟩, hs⟩
        · rw [Below.heap_setCell _ _ _ _ (fun e => ?_)]
          · exact (hb'.block k (Array.getElem?_eq_some_iff.1 hk).1).trans hk
          · have := hS.box
            unfold Blk at this
            rw [e] at hk
            rw [this] at hk; cases hk; cases ho
        · rw [Below.heap_setCell _ _ _ _ (by have := (HBp.out k hk).2; exact this)]
          exact hb'.block k (by have := (HBp.out k hk).1; have := hS.upd.size; omega)
        · rw [Below.heap_setCell _ _ _ _ (by show x.b ≠ w.heap.size; omega)]
          exact hb'.block _ (Array.getElem?_eq_some_iff.1 e).1
      have z0' : W.drew.cell? ⟨w.heap.size, 0, none⟩ = some (.int .i64 Z) := z0
      have y0' : W.drew.cell? ⟨b, 0, none⟩ = some (.bool x.wh) := y0
      have y1' : W.drew.cell? ⟨b, 1, none⟩ = some (.int .i64 x.cm) := y1
      have y2' : W.drew.cell? ⟨b, 2, none⟩ = some (.slice x.a x.n x.c) := y2
      have y3' : W.drew.cell? ⟨b, 3, none⟩ = some (.string x.v) := y3
      have hwz : IntKind.i64.wrap ((Z : Int) + p) = Z + p := by rw [IntKind.wrap_i64]; omega
      clear hS hB
      gi_wp2
      refine wpIn_region_any_round rfl (by kernel_rfl) (by kernel_rfl) ?_
      refine wpAnyIn_ready (rs := [0, 1]) (by kernel_rfl) (by simp) ?_
      refine AllReadyIn.cons rfl (fun K hK => ?_) ?_
      · go_simp; refine hK _ _ ?_; clear hK K
        refine wpAnyIn_ready (rs := [1]) (by kernel_rfl) (by simp) ?_
        refine AllReadyIn.cons rfl (fun K hK => ?_) ?_
        · go_simp; refine hK _ _ ?_; clear hK K
          refine wpAnyIn_ready (rs := [2]) (by kernel_rfl) (by simp) ?_
          refine AllReadyIn.cons rfl (fun K hK => ?_) ?_
          · go_simp; gi_wp2_with (gi_at_call 58; refine (HCz.out _).mono ?_; rintro e w5 ⟨rfl, hb5⟩; obtain ⟨v5, v6⟩ := HFz.out w5 hb5)
            refine wpAnyIn_take (i := 3) (v := ?_) rfl rfl (by kernel_rfl) (by kernel_rfl) (by kernel_rfl) (fun _ _ _ h => h) ⟨Or.inl ⟨by rfl, ?_⟩, fun _ => rfl⟩ ?_
            rotate_left
            · intro w; go_simp; (try with_reducible rfl)
            (try simp only [Act.put, List.setIfInBounds_toArray, List.set_cons_zero, List.set_cons_succ])
            refine wpAnyIn_ready (rs := [4]) (by kernel_rfl) (by simp) ?_
            refine AllReadyIn.cons rfl (fun K hK => ?_) ?_
            · go_simp; refine hK _ _ ?_; clear hK K
              refine wpAnyIn_done (by kernel_rfl) ?_ _
              exact HEnd.out ⟨#[], []⟩ w5 hb5
            exact AllReadyIn.nil
          exact AllReadyIn.nil
        exact AllReadyIn.nil
      refine AllReadyIn.cons rfl (fun K hK => ?_) ?_
      · go_simp; refine hK _ _ ?_; clear hK K
        refine wpAnyIn_ready (rs := [0, 2]) (by kernel_rfl) (by simp) ?_
        refine AllReadyIn.cons rfl (fun K hK => ?_) ?_
        · go_simp; refine hK _ _ ?_; clear hK K
          refine wpAnyIn_ready (rs := [2]) (by kernel_rfl) (by simp) ?_
          refine AllReadyIn.cons rfl (fun K hK => ?_) ?_
          · go_simp; gi_wp2_with (gi_at_call 58; refine (HCz.out _).mono ?_; rintro e w5 ⟨rfl, hb5⟩; obtain ⟨v5, v6⟩ := HFz.out w5 hb5)
            refine wpAnyIn_take (i := 3) (v := ?_) rfl rfl (by kernel_rfl) (by kernel_rfl) (by kernel_rfl) (fun _ _ _ h => h) ⟨Or.inl ⟨by rfl, ?_⟩, fun _ => rfl⟩ ?_
            rotate_left
            · intro w; go_simp; (try with_reducible rfl)
            (try simp only [Act.put, List.setIfInBounds_toArray, List.set_cons_zero, List.set_cons_succ])
            refine wpAnyIn_ready (rs := [4]) (by kernel_rfl) (by simp) ?_
            refine AllReadyIn.cons rfl (fun K hK => ?_) ?_
            · go_simp; refine hK _ _ ?_; clear hK K
              refine wpAnyIn_done (by kernel_rfl) ?_ _
              exact HEnd.out ⟨#[], []⟩ w5 hb5
            exact AllReadyIn.nil
          exact AllReadyIn.nil
        refine AllReadyIn.cons rfl (fun K hK => ?_) ?_
        · go_simp; gi_wp2_with (gi_at_call 58; refine (HCz.out _).mono ?_; rintro e w5 ⟨rfl, hb5⟩; obtain ⟨v5, v6⟩ := HFz.out w5 hb5)
          refine wpAnyIn_ready (rs := [0]) (by kernel_rfl) (by simp) ?_
          refine AllReadyIn.cons rfl (fun K hK => ?_) ?_
          · go_simp; refine hK _ _ ?_; clear hK K
            refine wpAnyIn_take (i := 3) (v := ?_) rfl rfl (by kernel_rfl) (by kernel_rfl) (by kernel_rfl) (fun _ _ _ h => h) ⟨Or.inl ⟨by rfl, ?_⟩, fun _ => rfl⟩ ?_
            rotate_left
            · intro w; go_simp; (try with_reducible rfl)
            (try simp only [Act.put, List.setIfInBounds_toArray, List.set_cons_zero, List.set_cons_succ])
            refine wpAnyIn_ready (rs := [4]) (by kernel_rfl) (by simp) ?_
            refine AllReadyIn.cons rfl (fun K hK => ?_) ?_
            · go_simp; refine hK _ _ ?_; clear hK K
              refine wpAnyIn_done (by kernel_rfl) ?_ _
              exact HEnd.out ⟨#[], []⟩ w5 hb5
            exact AllReadyIn.nil
          exact AllReadyIn.nil
        exact AllReadyIn.nil
      exact AllReadyIn.nil
    · rintro D xs W hD hS hI hK
      have HSz : Hid (z + szs xs = (wr8 r l).length) := by
        show _ = _
        rw [szs_bz r l _ xs hS hI.len, wr8_len r hr1, HZ.out, hNN.out, hq.out]
      have x0 : W.cell? ⟨w.heap.size, 0, none⟩ = some (.int .i64 ((wr8 r l).length : Nat)) := by rw [← HSz.out]; exact hI.box.cell1 0 _ rfl
      have hbW : Below w.heap.size w W := ⟨hI.upd.os.trans hb0.os, hI.upd.tape.trans hb0.tape, hI.upd.output.trans hb0.output, Nat.le_trans hb0.size hI.upd.size, fun k hk => (hI.upd.block k (by omega) (by omega)).trans (hb0.block k hk)⟩
      have HBW : Hid _ := hbW
      rw [hT.out] at x0
      clear hI hS hbW hseq
      go_wp2
      refine ⟨by simp, .inl ⟨_, _, rfl, run_takeDeferred hK, ?_⟩⟩
      refine ⟨.int .i64 T, ?_, rfl, HBW.out.trans (belowK_b (w := w) (Nat.le_refl _) _ D _ _ (by omega) hK rfl rfl)⟩
      simp [results, Try.f28, go_sem]
  · obtain ⟨z, hz⟩ : ∃ z : Nat, (z : Int) = 4 * (q : Int) + 4 := ⟨4 * q + 4, by omega⟩
    rw [← hz]
    have HZ : Hid (z = 4 * max q 1 + 4) := by show _ = _; omega
    have hzl : z ≤ 600000 := by omega
    clear hz
    obtain ⟨W0, hW0⟩ : ∃ W0, W0 = ((w.alloc (.cells #[.int .i64 z] 3)).alloc (.cells #[.int .i64 r] 3)).alloc (.cells #[.slice a N c] 22) := ⟨_, rfl⟩
    have hb0 : Below w.heap.size w W0 := by rw [hW0]; exact (((Below.refl _ _).alloc (Nat.le_refl _) _).alloc (by simp) _).alloc (by simp; omega) _
    have hs0 : W0.heap.size = w.heap.size + 3 := by rw [hW0]; simp
    have k0 : Blk W0 w.heap.size 3 [.int .i64 z] := by rw [hW0]; exact ((Blk.new w 3 _).alloc _).alloc _
    have k1 : Blk W0 (w.heap.size + 1) 3 [.int .i64 r] := by
      rw [hW0]
      have := Blk.new (w.alloc (.cells #[.int .i64 z] 3)) 3 [.int .i64 r]
      rw [World.size_alloc] at this
      exact this.alloc _
    have k2 : Blk W0 (w.heap.size + 1 + 1) 22 [.slice a N c] := by
      rw [hW0]
      have := Blk.new ((w.alloc (.cells #[.int .i64 z] 3)).alloc (.cells #[.int .i64 r] 3)) 22 [.slice a N c]
      rw [World.size_alloc, World.size_alloc] at this
      exact this
    rw [← hW0]
    clear hW0
    have hseq := pieces_seq 4 (by omega) (HL.out.below hb0) hf r hr1 hr2 (by rw [hNN.out]; exact hN') c (B1 := w.heap.size + 1 + 1) (B2 := w.heap.size + 1) (by rw [hNN.out]; exact k2.cell1 0 _ rfl) (k1.cell1 0 _ rfl)
    have HBp : Hid (∀ k, Bp (w.heap.size + 1 + 1) (w.heap.size + 1) a l k → k < W0.heap.size ∧ k ≠ w.heap.size) := by
      rintro k (h | h | ⟨hne, off, h⟩)
      · omega
      · omega
      · rcases HL.out with hh | ⟨b, o, e, hlt, _⟩
        · exact absurd hh hne
        · rw [e] at h; cases h; omega
    have HI0 : Hid (Sv W0 w.heap.size z [] W0) := ⟨k0, Upd.refl _ _, by simp, by simp [szs]⟩
    refine (wpIn_wide (n := 5)).1 ?_
    refine wpIn_range_R rfl (by omega) rfl trivial (fun args w => by kernel_rfl) hseq (Below.refl _ _) (fun _ => rfl)
      (fun h k => Kx.trans h k) (kx_b _ (fun k hk => (HBp.out k hk).1))
      (fun pre W => Sv W0 w.heap.size z pre W) (Sv.own (Nat.le_refl _)) HI0.out
      (fun pre x a' W => ∃ b, a' = { tmps := #[Value.int IntKind.i64 ↑r, Value.slice a N c, undef, undef, Value.int IntKind.i64 0, Value.int IntKind.i64 ↑q, Value.pointer (some { block := w.heap.size, off := 0 }), .pointer (some ⟨b, 0, none⟩), Value.slice a N c, Value.int IntKind.i64 ↑N, Value.int IntKind.i64 ↑r, Value.int IntKind.i64 (↑N + ↑r), Value.int IntKind.i64 (↑N + ↑r - 1), Value.int IntKind.i64 ↑r, Value.int IntKind.i64 ↑q, Value.int IntKind.i64 ↑q, Value.int IntKind.i64 ↑q, Value.int IntKind.i64 (4 * ↑q), Value.int IntKind.i64 ↑z, Value.int IntKind.i64 ↑r, Value.slice a N c, Value.func (Fn.func 84) #[] #[Value.pointer (some { block := w.heap.size + 1 + 1, off := 0 }), Value.pointer (some { block := w.heap.size + 1, off := 0 })], x.val, undef, undef, undef, undef, undef], defers := [] } ∧ Blk W b 96 [.bool x.wh, .int .i64 x.cm, .slice x.a x.n x.c, .string x.v] ∧ w.heap.size < b ∧ (∀ k, Bp (w.heap.size + 1 + 1) (w.heap.size + 1) a l k → k ≠ b) ∧ Sv W0 w.heap.size z pre W ∧ pre.length < N ∧ x.lf.length = x.n ∧ x.cm ≤ 1032 ∧ x.n ≤ 1032 ∧ x.v.size ≤ 16384 ∧ w.heap.size < x.b)
      ?_ ?_ ?_ ?_
    · intro pre x a' s X Y row hs hg hr
      obtain ⟨b, e, h1, h2, h4, h5, h6⟩ := hs
      have u : Upd (fun k => row = some k) X Y := (Upd.refl _ _).grown hg (fun k hk _ => hk)
      refine ⟨b, e, h1.upd u (fun e => ?_), h2, h4, Sv.own (Nat.le_refl _) _ _ _ _ h5 hg hr, h6⟩
      obtain ⟨_, o, ho, hc⟩ := hr _ e
      unfold Blk at h1
      rw [h1] at ho; cases ho; cases hc
    · intro lp pre x V W K hI hVW hR hlen hK
      have HKK : Hid _ := hK
      have hVs : w.heap.size + 3 ≤ V.heap.size := by have := hI.upd.size; omega
      have hxb := hR.new
      have hbA : Below W.heap.size W (W.alloc (.cells #[.bool x.wh, .int .i64 x.cm, .slice x.a x.n x.c, .string x.v] 96)) := (Below.refl _ _).alloc (Nat.le_refl _) _
      have hws := hVW.size
      clear hK
      gi_wp2
      refine HKK.out _ _ ((KeepsOthers.alloc _ _).from _) ⟨hbA.size, fun k hk => hbA.block k (by have := (HBp.out k hk).1; have := hI.upd.size; omega), fun c t f e => hbA.block _ (Array.getElem?_eq_some_iff.1 e).1⟩ ⟨W.heap.size, rfl, Blk.new W 96 _, by omega, fun k hk => by have := (HBp.out k hk).1; have := hI.upd.size; omega, (hI.below hVW).below hbA, by rw [← hNN.out]; exact hlen, hR.arg.1, hR.cm, hR.n, hR.v, by omega⟩
    · rintro lp pre x a' W hlW hloop ⟨b, rfl, hB, hwb, hbB, hS, hpl, hlf, hc1, hn1, hv1, hxw⟩
      have y0 := hB.cell1 0 _ rfl
      have y1 := hB.cell1 1 _ rfl
      have y2 := hB.cell1 2 _ rfl
      have y3 := hB.cell1 3 _ rfl
      obtain ⟨Z, hZ⟩ : ∃ Z, Hid (z + szs pre = Z) := ⟨_, rfl⟩
      obtain ⟨p, hp⟩ : ∃ p, Hid (pcZ x.cm x.n x.v.size = p) := ⟨_, rfl⟩
      have hZl : Z ≤ 2000000000 := by
        have h1 := hS.bd
        have h2 := Nat.mul_le_mul_right 17500 (Nat.le_of_lt hpl)
        rw [← hZ.out]; omega
      have hpp : p ≤ 17500 := by
        have a1 := vz_le x.cm
        have a2 := vz_le x.n
        have a3 := vz_le x.v.size
        rw [← hp.out]; unfold pcZ; omega
      have z0 : W.cell? ⟨w.heap.size, 0, none⟩ = some (.int .i64 Z) := by rw [← hZ.out]; exact hS.box.cell1 0 _ rfl
      have HCz : Hid (∀ W', CallsIn Fence.wide 2 Try.prog 58 #[.agg #[.bool x.wh, .int .i64 x.cm, .slice x.a x.n x.c, .string x.v]] W' fun e w' => e = .returned (.int .i64 p) ∧ Below W'.heap.size W' w') := fun W' => by
        have := size_any x.wh x.cm x.a x.n x.c x.v W' (by omega) (by omega) (by omega)
        rw [hp.out] at this
        exact callsIn_wide.2 this
      have h58 : Fence.wide.fn 58 := trivial
      have HFz : Hid (∀ w5, Below W.drew.heap.size W.drew w5 → w5.cell? ⟨w.heap.size, 0, none⟩ = some (.int .i64 Z) ∧ w5.frozen? ⟨w.heap.size, 0, none⟩ = false) := fun w5 hb => by
        have := hS.box.drew.upd (S := Non) (Upd.ofBelow hb) id
        exact ⟨by rw [← hZ.out]; exact this.cell1 0 _ rfl, this.frozen 0⟩
      have HEnd : Hid (∀ (aa : Act) w5, Below W.drew.heap.size W.drew w5 → goesOn W0.heap.size (Kx (Bp (w.heap.size + 1 + 1) (w.heap.size + 1) a l) x) (fun W => Sv W0 w.heap.size z (pre ++ [x]) W) W .normal aa (w5.setCell ⟨w.heap.size, 0, none⟩ (.int .i64 ((Z : Int) + p)))) := fun aa w5 hb => by
        have hb' : Below W.heap.size W w5 := ((Below.refl _ _).drew).trans hb
        have hs := hS.push hb' hlf hc1 hn1 hv1
        rw [hZ.out, hp.out] at hs
        refine ⟨rfl, ⟨by simpa using hb'.size, fun k o _ hk ho => ?_⟩, ⟨by simpa using hb'.size, fun k hk => ?_, fun c t f e => ?_⟩, hs⟩
        · rw [Below.heap_setCell _ _ _ _ (fun e => ?_)]
          · exact (hb'.block k (Array.getElem?_eq_some_iff.1 hk).1).trans hk
          · have := hS.box
            unfold Blk at this
            rw [e] at hk
            rw [this] at hk; cases hk; cases ho
        · rw [Below.heap_setCell _ _ _ _ (by have := (HBp.out k hk).2; exact this)]
          exact hb'.block k (by have := (HBp.out k hk).1; have := hS.upd.size; omega)
        · rw [Below.heap_setCell _ _ _ _ (by show x.b ≠ w.heap.size; omega)]
          exact hb'.block _ (Array.getElem?_eq_some_iff.1 e).1
      have z0' : W.drew.cell? ⟨w.heap.size, 0, none⟩ = some (.int .i64 Z) := z0
      have y0' : W.drew.cell? ⟨b, 0, none⟩ = some (.bool x.wh) := y0
      have y1' : W.drew.cell? ⟨b, 1, none⟩ = some (.int .i64 x.cm) := y1
      have y2' : W.drew.cell? ⟨b, 2, none⟩ = some (.slice x.a x.n x.c) := y2
      have y3' : W.drew.cell? ⟨b, 3, none⟩ = some (.string x.v) := y3
      have hwz : IntKind.i64.wrap ((Z : Int) + p) = Z + p := by rw [IntKind.wrap_i64]; omega
      clear hS hB
      gi_wp2
      refine wpIn_region_any_round rfl (by kernel_rfl) (by kernel_rfl) ?_
      refine wpAnyIn_ready (rs := [0, 1]) (by kernel_rfl) (by simp) ?_
      refine AllReadyIn.cons rfl (fun K hK => ?_) ?_
      · go_simp; refine hK _ _ ?_; clear hK K
        refine wpAnyIn_ready (rs := [1]) (by kernel_rfl) (by simp) ?_
        refine AllReadyIn.cons rfl (fun K hK => ?_) ?_
        · go_simp; refine hK _ _ ?_; clear hK K
          refine wpAnyIn_ready (rs := [2]) (by kernel_rfl) (by simp) ?_
          refine AllReadyIn.cons rfl (fun K hK => ?_) ?_
          · go_simp; gi_wp2_with (gi_at_call 58; refine (HCz.out _).mono ?_; rintro e w5 ⟨rfl, hb5⟩; obtain ⟨v5, v6⟩ := HFz.out w5 hb5)
            refine wpAnyIn_take (i := 3) (v := ?_) rfl rfl (by kernel_rfl) (by kernel_rfl) (by kernel_rfl) (fun _ _ _ h => h) ⟨Or.inl ⟨by rfl, ?_⟩, fun _ => rfl⟩ ?_
            rotate_left
            · intro w; go_simp; (try with_reducible rfl)
            (try simp only [Act.put, List.setIfInBounds_toArray, List.set_cons_zero, List.set_cons_succ])
            refine wpAnyIn_ready (rs := [4]) (by kernel_rfl) (by simp) ?_
            refine AllReadyIn.cons rfl (fun K hK => ?_) ?_
            · go_simp; refine hK _ _ ?_; clear hK K
              refine wpAnyIn_done (by kernel_rfl) ?_ _
              exact HEnd.out ⟨#[], []⟩ w5 hb5
            exact AllReadyIn.nil
          exact AllReadyIn.nil
        exact AllReadyIn.nil
      refine AllReadyIn.cons rfl (fun K hK => ?_) ?_
      · go_simp; refine hK _ _ ?_; clear hK K
        refine wpAnyIn_ready (rs := [0, 2]) (by kernel_rfl) (by simp) ?_
        refine AllReadyIn.cons rfl (fun K hK => ?_) ?_
        · go_simp; refine hK _ _ ?_; clear hK K
          refine wpAnyIn_ready (rs := [2]) (by kernel_rfl) (by simp) ?_
          refine AllReadyIn.cons rfl (fun K hK => ?_) ?_
          · go_simp; gi_wp2_with (gi_at_call 58; refine (HCz.out _).mono ?_; rintro e w5 ⟨rfl, hb5⟩; obtain ⟨v5, v6⟩ := HFz.out w5 hb5)
            refine wpAnyIn_take (i := 3) (v := ?_) rfl rfl (by kernel_rfl) (by kernel_rfl) (by kernel_rfl) (fun _ _ _ h => h) ⟨Or.inl ⟨by rfl, ?_⟩, fun _ => rfl⟩ ?_
            rotate_left
            · intro w; go_simp; (try with_reducible rfl)
            (try simp only [Act.put, List.setIfInBounds_toArray, List.set_cons_zero, List.set_cons_succ])
            refine wpAnyIn_ready (rs := [4]) (by kernel_rfl) (by simp) ?_
            refine AllReadyIn.cons rfl (fun K hK => ?_) ?_
            · go_simp; refine hK _ _ ?_; clear hK K
              refine wpAnyIn_done (by kernel_rfl) ?_ _
              exact HEnd.out ⟨#[], []⟩ w5 hb5
            exact AllReadyIn.nil
          exact AllReadyIn.nil
        refine AllReadyIn.cons rfl (fun K hK => ?_) ?_
        · go_simp; gi_wp2_with (gi_at_call 58; refine (HCz.out _).mono ?_; rintro e w5 ⟨rfl, hb5⟩; obtain ⟨v5, v6⟩ := HFz.out w5 hb5)
          refine wpAnyIn_ready (rs := [0]) (by kernel_rfl) (by simp) ?_
          refine AllReadyIn.cons rfl (fun K hK => ?_) ?_
          · go_simp; refine hK _ _ ?_; clear hK K
            refine wpAnyIn_take (i := 3) (v := ?_) rfl rfl (by kernel_rfl) (by kernel_rfl) (by kernel_rfl) (fun _ _ _ h => h) ⟨Or.inl ⟨by rfl, ?_⟩, fun _ => rfl⟩ ?_
            rotate_left
            · intro w; go_simp; (try with_reducible rfl)
            (try simp only [Act.put, List.setIfInBounds_toArray, List.set_cons_zero, List.set_cons_succ])
            refine wpAnyIn_ready (rs := [4]) (by kernel_rfl) (by simp) ?_
            refine AllReadyIn.cons rfl (fun K hK => ?_) ?_
            · go_simp; refine hK _ _ ?_; clear hK K
              refine wpAnyIn_done (by kernel_rfl) ?_ _
              exact HEnd.out ⟨#[], []⟩ w5 hb5
            exact AllReadyIn.nil
          exact AllReadyIn.nil
        exact AllReadyIn.nil
      exact AllReadyIn.nil
    · rintro D xs W hD hS hI hK
      have HSz : Hid (z + szs xs = (wr8 r l).length) := by
        show _ = _
        rw [szs_bz r l _ xs hS hI.len, wr8_len r hr1, HZ.out, hNN.out, hq.out]
      have x0 : W.cell? ⟨w.heap.size, 0, none⟩ = some (.int .i64 ((wr8 r l).length : Nat)) := by rw [← HSz.out]; exact hI.box.cell1 0 _ rfl
      have hbW : Below w.heap.size w W := ⟨hI.upd.os.trans hb0.os, hI.upd.tape.trans hb0.tape, hI.upd.output.trans hb0.output, Nat.le_trans hb0.size hI.upd.size, fun k hk => (hI.upd.block k (by omega) (by omega)).trans (hb0.block k hk)⟩
      have HBW : Hid _ := hbW
      rw [hT.out] at x0
      clear hI hS hbW hseq
      go_wp2
      refine ⟨by simp, .inl ⟨_, _, rfl, run_takeDeferred hK, ?_⟩⟩
      refine ⟨.int .i64 T, ?_, rfl, HBW.out.trans (belowK_b (w := w) (Nat.le_refl _) _ D _ _ (by omega) hK rfl rfl)⟩
      simp [results, Try.f28, go_sem]
theorem sizeof_any {w : World} {a : Option Addr} {l : List Ent} (hl : RdE w a l) (hf : Fit l) (r : Nat) (hr1 : 1 ≤ r) (hr2 : r ≤ 1024) (hN : l.length ≤ 65536) (c : Nat) :
    Calls Try.prog 28 #[.int .i64 r, .slice a l.length c] w fun e w' => e = .returned (.int .i64 (wr8 r l).length) ∧ Below w.heap.size w w' := (callsIn_wide (n := 5)).1 (sizeof_in hl hf r hr1 hr2 hN c)
end Go.Proofs.Ytbnllobofndckaa
