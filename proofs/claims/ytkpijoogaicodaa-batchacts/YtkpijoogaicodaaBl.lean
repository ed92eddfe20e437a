import Derived.Test.YtkpijoogaicodaaBk
import Derived.BigRegion
namespace Go.Proofs.Ytkpijoogaicodaa
open Go.RowKit
set_option linter.unusedVariables false
set_option linter.unusedSimpArgs false

/-- What Back needs of a list of records, however it lies. -/
structure Cut (w : World) (ra : Option Addr) (rc : Nat) (rs : List Rec) (m : Nat) (ga : Option Addr) (gc : Nat) : Prop where
  lo : ∀ W, (Instr.sliceAt 23 (.slice ra rs.length rc) (some (.int .i64 m)) none none).run Try.prog W = .ok (.slice ga (rs.length - m) gc) W
  rd : RdR w (.slice ga (rs.length - m) gc) (rs.drop m)
  hi : ∀ W, (Instr.sliceAt 23 (.slice ra rs.length rc) none (some (.int .i64 m)) none).run Try.prog W = .ok (.slice ra m rc) W
  own : ∀ k, Value.ownBlock (.slice ga (rs.length - m) gc) = some k → Value.ownBlock (.slice ra rs.length rc) = some k
  clr : ∀ (W : World) (ty : TypeId), W.ownsRow 0 31 4 (.slice ra rs.length rc) rs.length (rcs rs) → ∃ W', (Builtin.clear_ #[23] ty #[.slice ga (rs.length - m) gc]).run Try.prog W = .ok (.tuple #[]) W' ∧ W'.ownsRow 0 31 4 (.slice ra m rc) m (rcs (rs.take m)) ∧ W.grownBy W' (Value.ownBlock (.slice ra rs.length rc))
theorem cut_any {w : World} {ra : Option Addr} {rc : Nat} {rs : List Rec} (h : w.ownsRow 0 31 4 (.slice ra rs.length rc) rs.length (rcs rs)) (m : Nat) (hm : m ≤ rs.length) : ∃ ga gc, Cut w ra rc rs m ga gc := by
  have h' := h
  rcases h.2 with ⟨hv, h0⟩ | ⟨g, cap, cur, hv, hb, hg, h2, h3, h4, h5⟩
  · simp only [Value.slice.injEq] at hv
    obtain ⟨rfl, _, rfl⟩ := hv
    have hr : rs = [] := List.eq_nil_of_length_eq_zero h0
    subst hr
    have hm0 : m = 0 := by simpa using hm
    subst hm0
    refine ⟨none, 0, ?_, .inl ⟨_, _, rfl, rfl⟩, fun W => cut_hi none 0 0 0 (Nat.le_refl _) W, fun k hk => hk, fun W ty hW => ⟨W, by simp [Builtin.clear_, run_underlying Try.underlying23], hW, ⟨rfl, rfl, rfl, Nat.le_refl _, fun _ _ _ => rfl⟩⟩⟩
    intro W
    have hs : (sizeOf 31).run Try.prog W = .ok 4 W := by kernel_rfl
    have hr := run_slice_l (P := Try.prog) W 23 none 0 0 slc23 .i64 ((0 : Nat) : Int) (by omega) (by omega)
    rw [elem23, hs] at hr
    rw [run_sliceAt_slice _ _ _ _ _ _ slc23]
    exact hr
  · simp only [Value.slice.injEq] at hv
    obtain ⟨rfl, _, rfl⟩ := hv
    refine ⟨cutA g rc m, rc - m, fun W => cut_low g rs.length rc m hm W, ?_, fun W => cut_hi _ _ _ _ (by omega) W, ?_, fun W ty hW => clear_tail hW rfl hm _ (fun hlt => cutA_lt (by omega)) _ ty⟩
    · by_cases hmn : m < rs.length
      · rw [cutA_lt (by omega)]
        refine .inr ⟨g, m * 4, rc - m, by rw [List.length_drop], (h'.lt g rfl).2, fun j hj => ?_⟩
        have hj' : m + j < rs.length := by rw [List.length_drop] at hj; omega
        have hr := row_rat h' (m + j) hj'
        rw [List.getElem_drop]
        have e : 0 + (m + j) * 4 = m * 4 + j * 4 := by omega
        rw [e] at hr
        exact hr
      · have e : rs.length - m = 0 := by omega
        rw [e, List.drop_eq_nil_of_le (by omega)]
        exact .inl ⟨_, _, rfl, rfl⟩
    · intro k hk
      unfold cutA at hk
      split at hk <;> simpa [Value.ownBlock] using hk
theorem marks_last {w : World} {mv : Value} {ms : List Nat} {m : Nat} (h : w.ownsRow 0 3 1 mv (ms ++ [m]).length (imc (ms ++ [m]))) : ∃ g c, mv = .slice (some ⟨g, 0, none⟩) (ms.length + 1) c ∧ w.cell? ⟨g, ms.length, none⟩ = some (.int .i64 m) ∧ ms.length + 1 ≤ c ∧ c ≤ maxLen := by
  have hc := fun g => World.ownsRow.cells h (g := g)
  rcases h.2 with ⟨rfl, h0⟩ | ⟨g, cap, cur, rfl, hb, hg, h2, h3, h4, h5⟩
  · simp at h0
  · refine ⟨g, cap, by simp, ?_, by simpa using h2, h3⟩
    have := hc g rfl ms.length (.int .i64 m) (by simp [imc])
    rw [add_at] at this
    simpa using this
set_option maxRecDepth 100000 in
set_option maxHeartbeats 1000000 in
theorem back_none {w : World} {b : Nat} {rv mv : Value} {rs : List Rec} (h : Bt w b rv mv rs []) :
    Calls Try.prog 23 #[ptr b] w fun e w' => e = .returned (.int .i64 6) ∧ w' = w := by
  have c2 := h.blk.cell1 2 _ rfl
  obtain ⟨ma, mc, hmv⟩ := row_len h.marks
  have hmv' : mv = .slice ma 0 mc := hmv
  subst hmv'
  go_enter Try.func23, Try.ntmps23
  go_wp2
  go_ret
  exact ⟨rfl, rfl⟩
theorem own_slice (ra : Option Addr) (n m c : Nat) : Value.ownBlock (.slice ra m c) = Value.ownBlock (.slice ra n c) := by cases ra <;> rfl
def OfA (b : Nat) (rv mv : Value) : Nat → Prop := fun k => k = b ∨ rv.ownBlock = some k ∨ mv.ownBlock = some k
set_option maxRecDepth 100000 in
set_option maxHeartbeats 2000000 in
theorem back_any {w : World} {b : Nat} {rv mv : Value} {rs : List Rec} {ms : List Nat} {m : Nat} (h : Bt w b rv mv rs (ms ++ [m])) (hm : m ≤ rs.length) (hg : Good rs) (hf : ∀ r ∈ rs, Fine r) :
    Calls Try.prog 23 #[ptr b] w fun e w' => ∃ rv' mv', e = .returned (.int .i64 0) ∧ Bt w' b rv' mv' (rs.take m) ms ∧ Upd (OfA b rv mv) w w' ∧ rv'.ownBlock = rv.ownBlock ∧ mv'.ownBlock = mv.ownBlock := by
  have c0 := h.blk.cell1 0 _ rfl
  have c1 := h.blk.cell1 1 _ rfl
  have c2 := h.blk.cell1 2 _ rfl
  have lb := h.blk.lt
  obtain ⟨ra, rc, rfl⟩ := (row_rd h.row).len
  obtain ⟨gm, mc, rfl, cm, hmc1, hmc2⟩ := marks_last h.marks
  obtain ⟨ga, gc, C⟩ := cut_any h.row m hm
  have hcl := C.lo
  have hch := C.hi
  have hgl := hg.len
  have hgs := hg.size
  have HS := fun W (hb : Below w.heap.size w W) => recordsSize_any (C.rd.below hb) (by rw [List.length_drop]; omega) (fun r hr => hf r (List.mem_of_mem_drop hr))
  have hsz : szs rs = szs (rs.take m) + szs (rs.drop m) := by rw [← szs_app, List.take_append_drop]
  have hmc3 : (mc : Int) ≤ 9223372036854775807 := by unfold maxLen at hmc2; omega
  have hmc4 : (ms.length : Int) + 1 ≤ (mc : Int) := by omega
  have t0 : ((ms.length : Int) + 1 == 0) = false := by simp; omega
  have e1 : IntKind.i64.wrap ((ms.length : Int) + 1 - 1) = (ms.length : Int) := by rw [w64 _ (by omega) (by omega)]; omega
  have hclr := C.clr
  have hown := C.own
  have e2 : IntKind.i64.wrap ((szs rs : Int) - (szs (rs.drop m) : Int)) = (szs (rs.take m) : Int) := by rw [w64 _ (by omega) (by omega)]; omega
  clear C
  obtain ⟨d, hd⟩ : ∃ d, rs.length - m = d := ⟨_, rfl⟩
  rw [hd] at hcl HS hclr hown
  have e3 : IntKind.i64.wrap ((rs.length : Int) - (d : Int)) = (m : Int) := by rw [w64 _ (by omega) (by omega)]; omega
  clear hd hsz
  have bD : ∀ n, Below w.heap.size w (w.drewN n).drew := fun n => (belN (Below.refl _ _) n).drew
  go_enter Try.func23, Try.ntmps23
  go_wp2
  go_quiet (fail)
  go_wp2
  go_cut [33] (fun _ wc => Blk wc b 43 (btC (.slice ra rs.length rc) (szs (rs.take m)) (.slice (some ⟨gm, 0, none⟩) (ms.length + 1) mc)) ∧ Upd (fun k => k = b) w wc)
  case first =>
    go_region_with ((go_at_call 27; refine (HS _ (bD _)).mono ?_; rintro e w1 ⟨rfl, hb1⟩; have b1 := bstep (bD _) hb1; have B1 := (h.below b1).blk; have d1 := B1.cell1 1 _ rfl; have f1 := B1.frozen 1))
    all_goals
      go_wp2
      go_meet
      case rel => exact ⟨B1.set 1 (.int .i64 (szs (rs.take m))), Upd.setCell (S := fun k => k = b) (p := ⟨b, 1, none⟩) (Upd.ofBelow b1) (fun _ => rfl) _⟩
  case rest =>
    obtain ⟨B1, U1⟩ := hcut
    have nrb := row_ne h.row h.blk (by decide)
    have nmb := row_ne h.marks h.blk (by decide)
    have nrm := row_row_ne h.marks h.row (by decide)
    have R1 := row_upd h.row U1 (fun k hk e => nrb k hk e)
    have M1 := row_upd h.marks U1 (fun k hk e => nmb k hk e)
    clear c0 c1 c2 cm HS bD hcl hown
    obtain ⟨w2, hrun, R2, g2⟩ := hclr wc 0 R1
    have G2 : Upd (fun k => Value.ownBlock (.slice ra rs.length rc) = some k) wc w2 := (Upd.refl _ _).grown g2 (fun k hk _ => hk)
    have B2 := B1.upd G2 (fun hk => nrb b hk rfl)
    have M2 := row_upd M1 G2 (fun k hk e => nrm k hk e)
    have d0 := B2.cell1 0 _ rfl
    have f0 := B2.frozen 0
    clear hclr
    have U3 : Upd (fun k => k = b) w2 (w2.setCell ⟨b, 0, none⟩ (.slice ra m rc)).drew := (Upd.setCell (p := ⟨b, 0, none⟩) (Upd.refl (fun k => k = b) w2) (fun _ => rfl) _).drew
    have B3 : Bt (w2.setCell ⟨b, 0, none⟩ (.slice ra m rc)).drew b (.slice ra m rc) (.slice (some ⟨gm, 0, none⟩) (ms.length + 1) mc) (rs.take m) (ms ++ [m]) := by
      have el : (rs.take m).length = m := by rw [List.length_take]; omega
      refine ⟨(B2.set 0 (.slice ra m rc)).drew, ?_, row_upd M2 U3 (fun k hk e => nmb k hk e)⟩
      rw [el]
      exact row_upd R2 U3 (fun k hk e => nrb k ((own_slice ra rs.length m rc) ▸ hk) e)
    have HP := pop_any B3
    go_wp2
    go_region
    go_wp2_with (go_at_call 49; refine HP.mono ?_; rintro e w4 ⟨mv', rfl, g1, g2', g3⟩)
    go_ret
    refine ⟨.slice ra m rc, mv', rfl, g1, ?_, own_slice _ _ _ _, g3⟩
    have V1 : Upd (OfA b (.slice ra rs.length rc) (.slice (some ⟨gm, 0, none⟩) (ms.length + 1) mc)) w wc := U1.mono (fun k _ hk => .inl hk)
    have V2 := V1.trans (G2.mono (fun k _ hk => .inr (.inl hk)))
    have V3 := V2.trans (U3.mono (fun k _ hk => .inl hk))
    exact V3.trans (g2'.mono (fun k _ hk => .inl hk))
end Go.Proofs.Ytkpijoogaicodaa
