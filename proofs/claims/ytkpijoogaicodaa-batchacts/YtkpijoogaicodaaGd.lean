import Derived.Test.YtkpijoogaicodaaGc
namespace Go.Proofs.Ytkpijoogaicodaa
open Go.RowKit
set_option linter.unusedVariables false
set_option linter.unusedSimpArgs false

theorem RdR.take {w : World} {a : Option Addr} {n c : Nat} {l : List Rec} (h : RdR w (.slice a n c) l) (m : Nat) (hm : m ≤ l.length) : RdR w (.slice a m c) (l.take m) := by
  rcases h with ⟨a', c', hv, rfl⟩ | ⟨b, off, cap, hv, hb, hc⟩
  · cases hv
    have : m = 0 := by simpa using hm
    subst this
    exact .inl ⟨_, _, rfl, rfl⟩
  · cases hv
    have hl : (l.take m).length = m := by rw [List.length_take]; omega
    refine .inr ⟨b, off, c, by rw [hl], hb, fun j hj => ?_⟩
    have hj' : j < m := by omega
    rw [List.getElem_take]
    exact hc j (by omega)
theorem elem41 : Try.prog.elem 41 = 3 := by kernel_rfl
theorem slc41 : Try.prog.underlying 41 = some (.slice (Try.prog.elem 41)) := by rw [elem41]; exact Try.underlying41
theorem cut_marks (a : Option Addr) (n cap m : Nat) (h : m ≤ cap) (W : World) : (Instr.sliceAt 41 (.slice a n cap) none (some (.int .i64 m)) none).run Try.prog W = .ok (.slice a m cap) W := by
  have hs : (sizeOf 3).run Try.prog W = .ok 1 W := by kernel_rfl
  have hr := run_slice_h (P := Try.prog) W 41 a n cap slc41 .i64 (m : Int) (by omega) (by omega)
  rw [elem41, hs] at hr
  simp only [Result.andThen, sliced, Int.toNat_natCast] at hr
  rw [run_sliceAt_slice _ _ _ _ _ _ slc41, hr]
  cases a <;> simp [Addr.add]
set_option maxRecDepth 100000 in
set_option maxHeartbeats 800000 in
/-- The reference's Pop: the mark away, and, if it is to be, all that was added behind it. -/
theorem qpop_any {w : World} {q : Nat} {rv mv : Value} {rs : List Rec} {ms : List Nat} {m : Nat} (h : Qt w q rv mv rs (ms ++ [m])) (hm : m ≤ rs.length) (all : Bool) :
    Calls Try.prog 48 #[ptr q, .bool all] w fun e w' => ∃ rv' mv', e = .returned (.int .i64 0) ∧ Qt w' q rv' mv' (if all = true then rs.take m else rs) ms ∧ Upd (fun k => k = q) w w' ∧ rv'.ownBlock = rv.ownBlock ∧ mv'.ownBlock = mv.ownBlock := by
  obtain ⟨g, mc, hmv, hcm⟩ := marks_last h.marks
  obtain ⟨ra, rc, hrv⟩ := h.row.len
  subst hmv hrv
  have c0 := h.blk.cell1 0 _ rfl
  have c1 := h.blk.cell1 1 _ rfl
  have f0 := h.blk.frozen 0
  have f1 := h.blk.frozen 1
  obtain ⟨hcm, hc1, hc2⟩ := hcm
  have hc3 : (ms.length : Int) ≤ 9223372036854775806 := by unfold maxLen at hc2; omega
  have e1 : wrap64 (ms.length : Int) = ms.length := by unfold wrap64; omega
  have k1 := fun W => cut_marks (some ⟨g, 0, none⟩) (ms.length + 1) mc ms.length (by omega) W
  have hrc : rs.length ≤ rc := h.cap _ _ _ rfl
  have hms := row_short (show w.ownsRow 0 3 1 (.slice (some ⟨g, 0, none⟩) (ms.length + 1) mc) (ms.length + 1) (imc (ms ++ [m])) by have := h.marks; simpa using this) ms.length (by omega)
  have e : (imc (ms ++ [m])).take (ms.length * 1) = imc ms := by rw [imc_app, Nat.mul_one, List.take_left' (imc_len ms)]
  rw [e] at hms
  clear e hc2 hc3
  have nmb := row_ne h.marks h.blk (by decide)
  obtain ⟨L, hL⟩ : ∃ L, (if all = true then rs.take m else rs) = L := ⟨_, rfl⟩
  rw [hL]
  have HL : Hid ((if all = true then rs.take m else rs) = L) := hL
  clear hL
  cases all with
  | false =>
    go_enter Try.func48, Try.ntmps48
    go_wp2
    go_ret
    have hl : rs = L := HL.out
    subst hl
    have U2 : Upd (fun k => k = q) w (w.setCell ⟨q, 1, none⟩ (.slice (some ⟨g, 0, none⟩) ms.length mc)) := Upd.setCell (p := ⟨q, 1, none⟩) (Upd.refl (fun k => k = q) w) (fun _ => rfl) _
    exact ⟨.slice ra rs.length rc, .slice (some ⟨g, 0, none⟩) ms.length mc, rfl, ⟨h.blk.set 1 _, h.row.upd U2 (fun k hk e => h.ne (by rw [hk, e])), row_upd hms U2 (fun k hk e => nmb k hk e), h.ne, h.cap, fun k hk => Nat.lt_of_lt_of_le (h.lt k hk) U2.size⟩, U2, rfl, rfl⟩
  | true =>
    have k2 := fun W => cut_hi ra rs.length rc m (by omega) W
    have hgl : g < w.heap.size := (h.marks.lt g rfl).2
    have hgq := nmb g rfl
    go_enter Try.func48, Try.ntmps48
    go_wp2
    go_region
    go_wp2
    go_ret
    have hl : rs.take m = L := HL.out
    subst hl
    have U2 : Upd (fun k => k = q) w ((w.setCell ⟨q, 0, none⟩ (.slice ra m rc)).setCell ⟨q, 1, none⟩ (.slice (some ⟨g, 0, none⟩) ms.length mc)).drew := (Upd.setCell (p := ⟨q, 1, none⟩) (Upd.setCell (p := ⟨q, 0, none⟩) (Upd.refl (fun k => k = q) w) (fun _ => rfl) _) (fun _ => rfl) _).drew
    have hro : (Value.slice ra m rc).ownBlock = (Value.slice ra rs.length rc).ownBlock := own_slice _ _ _ _
    refine ⟨.slice ra m rc, .slice (some ⟨g, 0, none⟩) ms.length mc, rfl, ⟨((h.blk.set 0 _).set 1 _).drew, (h.row.take m hm).upd U2 (fun k hk e => h.ne (by rw [← hro, hk, e])), row_upd hms U2 (fun k hk e => nmb k hk e), by rw [hro]; exact h.ne, fun a n c e => by cases e; omega, fun k hk => Nat.lt_of_lt_of_le (h.lt k (by rw [← hro]; exact hk)) U2.size⟩, U2, hro, rfl⟩
theorem run_append_marks {w : World} {base : Nat} {rv sv : Value} {rs l : List Nat} (h : w.ownsRow base 3 1 rv rs.length (imc rs)) (hbase : base ≤ w.heap.size) (hs : w.ownsRow 0 3 1 sv l.length (imc l)) (ty : TypeId) (hn : (rs.length + l.length) * 8 ≤ 140737488355328) :
    ∃ v' w', (Builtin.append_ #[41, 41] ty #[rv, sv]).run Try.prog w = .ok v' w' ∧ w'.ownsRow base 3 1 v' (rs ++ l).length (imc (rs ++ l)) ∧ w.grownBy w' rv.ownBlock ∧ (v'.ownBlock = rv.ownBlock ∨ v'.ownBlock = some w.heap.size) := by
  obtain ⟨i0, hi, hz0, hz1, hz2⟩ := info_parts info3
  have hcs := fun g => World.ownsRow.cells hs (g := g)
  rcases hs.2 with ⟨rfl, hl0⟩ | ⟨b, cap, cur, rfl, hb, hg, h2, h3, h4, h5⟩
  · have : l = [] := List.eq_nil_of_length_eq_zero hl0
    subst this
    rcases h.2 with ⟨rfl, h0⟩ | ⟨g, cap, cur, rfl, hb, hg, h2, h3, h4, h5⟩
    · refine ⟨.slice none 0 0, w, ?_, by rw [List.append_nil]; exact h, ⟨rfl, rfl, rfl, Nat.le_refl _, fun _ _ _ => rfl⟩, .inl rfl⟩
      exact run_append_nothing (P := Try.prog) w 41 41 ty 3 i0 Try.underlying41 hi none 0 0 (Nat.le_refl 0) _ (Src.ofNil w Try.underlying41 0)
    · refine ⟨_, w, ?_, by rw [List.append_nil]; exact h, ⟨rfl, rfl, rfl, Nat.le_refl _, fun _ _ _ => rfl⟩, .inl rfl⟩
      exact run_append_nothing (P := Try.prog) w 41 41 ty 3 i0 Try.underlying41 hi (some ⟨g, 0, none⟩) rs.length cap h2 _ (Src.ofNil w Try.underlying41 0)
  · obtain ⟨v', w', hr, g2, g3, _, g5⟩ := run_append_own_at (P := Try.prog) w base 41 ty 3 i0 _ 1 8 Try.underlying41 hi hz0 hz1 hz2 rfl (by decide) rv rs.length (imc rs) h ⟨b, 0, none⟩ l.length cap (imc l) (by rw [imc_len]; omega) (hcs b rfl) (imc_one l) (by unfold maxLen; omega) hn hbase
    refine ⟨v', w', hr, ?_, g3, g5⟩
    rw [imc_app, List.length_append]
    exact g2
/-- At a step of a region that draws. -/
theorem step_marks {w : World} {base : Nat} {rv sv : Value} {rs l : List Nat} {ops : Array Oper} {o : Oper} {a : Act} {K : Act → World → Prop} {Q : Exit → Act → World → Prop} {Ex : Prop} {d : Nat} (hgd : o.guard = none) (hd : o.dst = some d) (s x : Operand)
    (ho : o.op = .call { callee := .builtin .append, args := #[s, x], argTypes := #[41, 41] }) (hs : a.eval s = rv) (hx : a.eval x = sv) (h : w.ownsRow base 3 1 rv rs.length (imc rs)) (hbase : base ≤ w.heap.size) (hr : w.ownsRow 0 3 1 sv l.length (imc l)) (hn : (rs.length + l.length) * 8 ≤ 140737488355328)
    (hK : ∀ v' w', w'.ownsRow base 3 1 v' (rs ++ l).length (imc (rs ++ l)) → w.grownBy w' rv.ownBlock → (v'.ownBlock = rv.ownBlock ∨ v'.ownBlock = some w.heap.size) → K (a.put (some d) v') w') :
    if Region.wanted o (yielded ops a.tmps) = true then Oper.wp Try.prog o a w K Q else Ex := by
  have hw : Region.wanted o (yielded ops a.tmps) = true := by simp [Region.wanted, hgd]
  rw [if_pos hw]
  obtain ⟨v', w', hrun, h2, h3, h4⟩ := run_append_marks h hbase hr o.type hn
  unfold Oper.wp execOp
  simp only [ho, resolve, invoke, builtin, Sem.run_bind, Sem.run_pure, Result.andThen_ok, List.map_toArray, List.map_cons, List.map_nil, hs, hx, hrun]
  have hk := hK v' w' h2 h3 h4
  rw [← hd] at hk
  exact hk
end Go.Proofs.Ytkpijoogaicodaa
