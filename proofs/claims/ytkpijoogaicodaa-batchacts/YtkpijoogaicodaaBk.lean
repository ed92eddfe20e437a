import Derived.Test.YtkpijoogaicodaaPa
import Derived.Deep.RegionLaw
namespace Go.Proofs.Ytkpijoogaicodaa
open Go.RowKit
set_option linter.unusedVariables false
set_option linter.unusedSimpArgs false

theorem info3 : (Try.prog.info? 3).map (fun i => (i.zero, i.size, i.bytes)) = some (some (.int .i64 0), 1, 8) := by kernel_rfl
theorem imc_len (ms : List Nat) : (imc ms).length = ms.length := by simp [imc]
theorem imc_app (a b : List Nat) : imc (a ++ b) = imc a ++ imc b := by simp [imc]
theorem imc_one (ms : List Nat) : ∀ u ∈ imc ms, u.oneCell' = true := by
  intro u hu
  obtain ⟨_, _, rfl⟩ := List.mem_map.1 hu
  rfl
theorem row_len {w : World} {base : Nat} {e : TypeId} {size : Nat} {v : Value} {n : Nat} {xs : List Value} (h : w.ownsRow base e size v n xs) : ∃ a c, v = .slice a n c := by
  rcases h.2 with ⟨rfl, rfl⟩ | ⟨g, cap, cur, rfl, _⟩
  · exact ⟨none, 0, rfl⟩
  · exact ⟨_, _, rfl⟩
/-- append of one mark, at a step of a region that draws its order. -/
theorem step_mark {ops : Array Oper} {o : Oper} {a : Act} {w : World} {K : Act → World → Prop} {Q : Exit → Act → World → Prop} {Ex : Prop} (hgd : o.guard = none) (s x : Operand)
    (ho : o.op = .call { callee := .builtin .append, args := #[s, x], argTypes := #[41, 41] }) {mv : Value} {ms : List Nat} (hs : a.eval s = mv) (hown : w.ownsRow 0 3 1 mv ms.length (imc ms))
    {B m : Nat} (hx : a.eval x = .slice (some ⟨B, 0, none⟩) 1 1) (hc : w.cell? ⟨B, 0, none⟩ = some (.int .i64 m)) (hl : ms.length ≤ 10000000000000)
    (h : ∀ v' w', w'.ownsRow 0 3 1 v' (ms ++ [m]).length (imc (ms ++ [m])) → w.grownBy w' mv.ownBlock → (v'.ownBlock = mv.ownBlock ∨ v'.ownBlock = some w.heap.size) → K (a.put o.dst v') w') :
    if Region.wanted o (yielded ops a.tmps) = true then Oper.wp Try.prog o a w K Q else Ex := by
  obtain ⟨i0, hi, hz0, hz1, hz2⟩ := info_parts info3
  have hw : Region.wanted o (yielded ops a.tmps) = true := by simp [Region.wanted, hgd]
  rw [if_pos hw]
  obtain ⟨v', w', hr, h2, h3, h4, h5⟩ := run_append_own_at (P := Try.prog) w 0 41 o.type 3 i0 (.int .i64 0) 1 8 Try.underlying41 hi hz0 hz1 hz2 rfl (by decide) mv ms.length (imc ms) hown ⟨B, 0, none⟩ 1 1 (imc [m]) rfl (by
    intro j u hu
    have : j = 0 := by have := (List.getElem?_eq_some_iff.1 hu).1; simp [imc] at this; omega
    subst this
    simp [imc] at hu
    subst hu
    exact hc) (imc_one _) (by unfold maxLen; omega) (by omega) (Nat.zero_le _)
  unfold Oper.wp execOp
  simp only [ho, resolve, invoke, builtin, Sem.run_bind, Sem.run_pure, Result.andThen_ok, List.map_toArray, List.map_cons, List.map_nil, hs, hx, hr]
  exact h v' w' (by rw [imc_app, List.length_append]; exact h2) h3 h5
/-- Only the marks. -/
def OfM (b : Nat) (mv : Value) : Nat → Prop := fun k => k = b ∨ mv.ownBlock = some k
theorem Bt.row_ofm {w : World} {b : Nat} {rv mv : Value} {rs : List Rec} {ms : List Nat} (h : Bt w b rv mv rs ms) : ∀ k, rv.ownBlock = some k → ¬ OfM b mv k := by
  rintro k hk (rfl | h1)
  · exact row_ne h.row h.blk (by decide) k hk rfl
  · exact row_row_ne h.row h.marks (by decide) k hk h1
theorem save_end {w w1 : World} {b : Nat} {rv mv mv' : Value} {rs : List Rec} {ms : List Nat} (h : Bt w b rv mv rs ms) (ho : w1.ownsRow 0 3 1 mv' (ms ++ [rs.length]).length (imc (ms ++ [rs.length]))) (hU : Upd (fun k => mv.ownBlock = some k) w w1) (v2 : Value) (hv : v2 = mv')
    (hloc : mv'.ownBlock = mv.ownBlock ∨ ∀ j, mv'.ownBlock = some j → w.heap.size ≤ j) :
    Bt (w1.setCell ⟨b, 2, none⟩ v2) b rv mv' rs (ms ++ [rs.length]) ∧ Upd (OfM b mv) w (w1.setCell ⟨b, 2, none⟩ v2) := by
  subst hv
  have nmb := row_ne h.marks h.blk (by decide)
  have B1 := h.blk.upd hU (fun hk => nmb b hk rfl)
  have nmb' := row_ne ho B1 (by decide)
  have R1 := row_upd h.row hU (fun k hk hk' => row_row_ne h.row h.marks (by decide) k hk hk')
  have nrb := row_ne h.row h.blk (by decide)
  have U2 : Upd (fun k => k = b) w1 (w1.setCell ⟨b, 2, none⟩ v2) := Upd.setCell (p := ⟨b, 2, none⟩) (Upd.refl (fun k => k = b) w1) (fun _ => rfl) _
  refine ⟨⟨B1.set 2 v2, row_upd R1 U2 (fun k hk e => nrb k hk e), row_upd ho U2 (fun k hk e => nmb' k hk e)⟩, ?_⟩
  exact (hU.mono (fun k _ hk => .inr hk)).trans (U2.mono (fun k _ hk => .inl hk))
set_option maxRecDepth 100000 in
set_option maxHeartbeats 1000000 in
theorem save_any {w : World} {b : Nat} {rv mv : Value} {rs : List Rec} {ms : List Nat} (h : Bt w b rv mv rs ms) (hl : ms.length ≤ 10000000000000) :
    Calls Try.prog 22 #[ptr b] w fun e w' => ∃ mv', e = .returned (.tuple #[]) ∧ Bt w' b rv mv' rs (ms ++ [rs.length]) ∧ Upd (OfM b mv) w w' ∧ (mv'.ownBlock = mv.ownBlock ∨ ∀ j, mv'.ownBlock = some j → w.heap.size ≤ j) := by
  have c0 := h.blk.cell1 0 _ rfl
  have c2 := h.blk.cell1 2 _ rfl
  have f2 := h.blk.frozen 2
  have lb := h.blk.lt
  have hm := h.marks
  have nmb := row_ne h.marks h.blk (by decide)
  obtain ⟨ra, rc, rfl⟩ := (row_rd h.row).len
  obtain ⟨ma, mc, rfl⟩ := row_len h.marks
  go_enter Try.func22, Try.ntmps22
  go_region_law ((refine step_mark (by rfl) _ _ (by rfl) (mv := .slice ma ms.length mc) (ms := ms) (by rfl) (hm.drew.alloc _) (B := w.heap.size) (m := rs.length) (by rfl) (World.cell?_alloc_new w.drew _ 3 0) hl ?_; intro v' w1 ho hg hloc; obtain ⟨ma', mc', rfl⟩ := row_len ho; have B1 := h.blk.drew.upd (S := fun k => Value.ownBlock (.slice ma ms.length mc) = some k) (((Upd.refl _ _).alloc _).grown hg (fun k hk _ => hk)) (fun hk => nmb b hk rfl); have d2 := B1.cell1 2 _ rfl; have e2 := B1.frozen 2))
  all_goals
    go_wp2
    go_end0
    have hloc' : (Value.slice ma' (ms ++ [rs.length]).length mc').ownBlock = (Value.slice ma ms.length mc).ownBlock ∨ ∀ j, (Value.slice ma' (ms ++ [rs.length]).length mc').ownBlock = some j → w.heap.size ≤ j := by
      rcases hloc with e | e
      · exact .inl e
      · refine .inr fun j hj => ?_
        rw [e] at hj
        simp at hj
        omega
    have hE := save_end h ho (((Upd.refl (fun k => Value.ownBlock (.slice ma ms.length mc) = some k) w).alloc _).drew.grown hg (fun k hk _ => hk)) (Value.slice ma' (ms.length + 1) mc') (by rw [List.length_append]; rfl) hloc'
    exact ⟨_, rfl, hE.1, hE.2, hloc'⟩

theorem row_short {w : World} {base : Nat} {e : TypeId} {size g n cap : Nat} {xs : List Value} (h : w.ownsRow base e size (.slice (some ⟨g, 0, none⟩) n cap) n xs) (m : Nat) (hm : m ≤ n) : w.ownsRow base e size (.slice (some ⟨g, 0, none⟩) m cap) m (xs.take (m * size)) := by
  have hms : m * size ≤ n * size := Nat.mul_le_mul_right _ hm
  obtain ⟨hl, ⟨hv, _⟩ | ⟨g', cap', cur, hv, hb, hg, h2, h3, h4, h5⟩⟩ := h
  · cases hv
  · cases hv
    refine ⟨by rw [List.length_take, hl, Nat.min_eq_left hms], .inr ⟨g, cap, cur, rfl, hb, hg, by omega, h3, h4, ?_⟩⟩
    rw [← h5, List.take_take, Nat.min_eq_left hms]
set_option maxRecDepth 100000 in
set_option maxHeartbeats 1000000 in
theorem pop_none {w : World} {b : Nat} {rv mv : Value} {rs : List Rec} (h : Bt w b rv mv rs []) :
    Calls Try.prog 49 #[ptr b] w fun e w' => e = .returned (.int .i64 6) ∧ w' = w := by
  have c2 := h.blk.cell1 2 _ rfl
  obtain ⟨ma, mc, hmv⟩ := row_len h.marks
  have hmv' : mv = .slice ma 0 mc := hmv
  subst hmv'
  go_enter Try.func49, Try.ntmps49
  go_wp2
  go_ret
  exact ⟨rfl, rfl⟩
set_option maxRecDepth 100000 in
set_option maxHeartbeats 1000000 in
theorem pop_any {w : World} {b : Nat} {rv mv : Value} {rs : List Rec} {ms : List Nat} {m : Nat} (h : Bt w b rv mv rs (ms ++ [m])) :
    Calls Try.prog 49 #[ptr b] w fun e w' => ∃ mv', e = .returned (.int .i64 0) ∧ Bt w' b rv mv' rs ms ∧ Upd (fun k => k = b) w w' ∧ mv'.ownBlock = mv.ownBlock := by
  have c2 := h.blk.cell1 2 _ rfl
  have f2 := h.blk.frozen 2
  obtain ⟨hlen, ⟨rfl, h0⟩ | ⟨g, cap, cur, rfl, hb, hg, h2, h3, h4, h5⟩⟩ := h.marks
  · simp at h0
  · obtain ⟨n, hn⟩ : ∃ n, (ms ++ [m]).length = n := ⟨_, rfl⟩
    have hn1 : n = ms.length + 1 := by rw [← hn]; simp
    have hcap : n ≤ cap := by omega
    have hc63 : (cap : Int) ≤ 9223372036854775807 := by unfold maxLen at h3; omega
    rw [hn] at c2
    have t0 : ((n : Int) == 0) = false := by simp; omega
    have n1 : (1 : Int) ≤ (n : Int) := by omega
    have n2 : (n : Int) ≤ (cap : Int) := by omega
    have e1 : IntKind.i64.wrap ((n : Int) - 1) = (n : Int) - 1 := w64 _ (by omega) (by omega)
    clear h5 h4 hg hlen h2
    go_enter Try.func49, Try.ntmps49
    go_wp2
    go_region
    go_wp2
    go_ret
    have nrb := row_ne h.row h.blk (by decide)
    have nmb := row_ne h.marks h.blk (by decide)
    have U2 : Upd (fun k => k = b) w (w.setCell ⟨b, 2, none⟩ (.slice (some ⟨g, 0, none⟩) ms.length cap)) := Upd.setCell (p := ⟨b, 2, none⟩) (Upd.refl (fun k => k = b) w) (fun _ => rfl) _
    refine ⟨.slice (some ⟨g, 0, none⟩) ms.length cap, rfl, ⟨(h.blk.set 2 _).drew, row_upd h.row U2.drew (fun k hk e => nrb k hk e), ?_⟩, U2.drew, rfl⟩
    have hs := row_short h.marks ms.length (by simp)
    have e : (imc (ms ++ [m])).take (ms.length * 1) = imc ms := by rw [imc_app, Nat.mul_one, List.take_left' (imc_len ms)]
    rw [e] at hs
    exact row_upd hs U2.drew (fun k hk e => nmb k hk e)

def zrec : Value := .agg #[.int .u32 0, .int .i64 0, .string ⟨#[]⟩, .string ⟨#[]⟩]
theorem zero31 (w : World) : (zeroValue 31).run Try.prog w = .ok zrec w := by kernel_rfl
/-- clear of what lies behind the first m records of a row. -/
theorem clear_tail {w : World} {base g n cap m : Nat} {rs : List Rec} (h : w.ownsRow base 31 4 (.slice (some ⟨g, 0, none⟩) n cap) n (rcs rs)) (hn : n = rs.length) (hm : m ≤ n) (ga : Option Addr) (hga : m < n → ga = some ⟨g, m * 4, none⟩) (c ty : TypeId) :
    ∃ w', (Builtin.clear_ #[23] ty #[.slice ga (n - m) c]).run Try.prog w = .ok (.tuple #[]) w' ∧ w'.ownsRow base 31 4 (.slice (some ⟨g, 0, none⟩) m cap) m (rcs (rs.take m)) ∧ w.grownBy w' (some g) := by
  have hrt : (rcs rs).take (m * 4) = rcs (rs.take m) := by
    have e := rcs_app (rs.take m) (rs.drop m)
    rw [List.take_append_drop] at e
    rw [e, List.take_left']
    rw [rcs_len, List.length_take]; omega
  by_cases h0 : m = n
  · subst h0
    refine ⟨w, ?_, by rw [← hrt]; exact row_short h m (Nat.le_refl _), ⟨rfl, rfl, rfl, Nat.le_refl _, fun _ _ _ => rfl⟩⟩
    rw [Nat.sub_self]
    cases ga with
    | none => simp [Builtin.clear_, run_underlying Try.underlying23]
    | some x => simp [Builtin.clear_, run_underlying Try.underlying23]
  · have hlt : m < n := by omega
    rw [hga hlt]
    obtain ⟨k, hk⟩ : ∃ k, n - m = k + 1 := ⟨n - m - 1, by omega⟩
    obtain ⟨hl, ⟨hv, _⟩ | ⟨g', cap', cur, hv, hb, hg, h2, h3, h4, h5⟩⟩ := h
    · cases hv
    · cases hv
      rw [hk]
      have hzs : zrec.cells.size = 4 := rfl
      have hlen : (Builtin.zeroCells zrec.cells (k + 1)).toList.length = (k + 1) * 4 := by rw [Array.length_toList (xs := Builtin.zeroCells zrec.cells (k + 1)), size_zeroCells, hzs]
      have hfit : m * 4 + 0 + (Builtin.zeroCells zrec.cells (k + 1)).toList.length ≤ cur.size := by
        rw [hlen, h4]; omega
      have hone : ∀ v ∈ (Builtin.zeroCells zrec.cells (k + 1)).toList, v.oneCell' = true := by
        intro v hv
        rw [Array.mem_toList_iff] at hv
        simp only [Builtin.zeroCells, Array.mem_map] at hv
        obtain ⟨i, hi, rfl⟩ := hv
        have hi' : i % zrec.cells.size < zrec.cells.size := Nat.mod_lt _ (by rw [hzs]; decide)
        rw [getElem!_pos zrec.cells _ hi']
        have : ∀ u ∈ zrec.cells.toList, u.oneCell' = true := by decide
        exact this _ (by simp)
      have hst := run_storeCells_at Try.prog g (m * 4) 31 (Builtin.zeroCells zrec.cells (k + 1)).toList 0 cur w hg hfit hone
      refine ⟨_, (by simp [Builtin.clear_, run_underlying Try.underlying23, zero31]; show ((Sem.run Try.prog (storeCells ⟨g, m * 4, none⟩ (Builtin.zeroCells zrec.cells (k + 1)).toList) w).andThen _) = _; rw [hst]; rfl), ⟨by rw [rcs_len, List.length_take]; congr 1; omega, .inr ⟨g, cap, _, rfl, hb, setRow_heap w g cur _ 31 _ hg, by omega, h3, ?_, ?_⟩⟩, ⟨rfl, rfl, rfl, by simp, fun i _ hi => setRow_other w g i _ (fun e => hi (by simp [e]))⟩⟩
      · simp only [List.size_toArray, List.length_append, List.length_take, List.length_drop, Array.length_toList]
        simp only [Array.length_toList] at hfit
        omega
      · rw [← hrt, ← h5]
        simp only [Nat.add_zero, List.append_assoc]
        rw [List.take_left' (by rw [List.length_take, Array.length_toList]; omega), List.take_take]
        congr 1
        omega

/-- clear at a plain region's list. -/
theorem wpList_clear_tail {w : World} {base g n cap m : Nat} {rs : List Rec} {ops : Array Oper} {rest : List Oper} {o : Oper} {a : Act} {Q : Exit → Act → World → Prop} (hgd : o.guard = none) (s : Operand)
    (ho : o.op = .call { callee := .builtin .clear, args := #[s], argTypes := #[23] }) (ga : Option Addr) (c : Nat) (hs : a.eval s = .slice ga (n - m) c) (h : w.ownsRow base 31 4 (.slice (some ⟨g, 0, none⟩) n cap) n (rcs rs)) (hn : n = rs.length) (hm : m ≤ n) (hga : m < n → ga = some ⟨g, m * 4, none⟩)
    (hK : ∀ w', w'.ownsRow base 31 4 (.slice (some ⟨g, 0, none⟩) m cap) m (rcs (rs.take m)) → w.grownBy w' (some g) → wpList Try.prog ops Q rest (a.put o.dst (.tuple #[])) w') : wpList Try.prog ops Q (o :: rest) a w := by
  refine wpList_plain hgd fun K' hKK => ?_
  obtain ⟨w', hrun, h2, h3⟩ := clear_tail h hn hm ga hga c o.type
  unfold Oper.wp execOp
  simp only [ho, resolve, invoke, builtin, Sem.run_bind, Sem.run_pure, Result.andThen_ok, List.map_toArray, List.map_cons, List.map_nil, hs, hrun]
  exact hKK _ _ (hK w' h2 h3)
def cutA (g cap m : Nat) : Option Addr := if cap = m then some ⟨g, 0, none⟩ else some ⟨g, m * 4, none⟩
theorem cutA_lt {g cap m : Nat} (h : m < cap) : cutA g cap m = some ⟨g, m * 4, none⟩ := by unfold cutA; rw [if_neg (by omega)]
theorem elem23 : Try.prog.elem 23 = 31 := by kernel_rfl
theorem slc23 : Try.prog.underlying 23 = some (.slice (Try.prog.elem 23)) := by rw [elem23]; exact Try.underlying23
theorem cut_low (g n cap m : Nat) (h : m ≤ n) (W : World) : (Instr.sliceAt 23 (.slice (some ⟨g, 0, none⟩) n cap) (some (.int .i64 m)) none none).run Try.prog W = .ok (.slice (cutA g cap m) (n - m) (cap - m)) W := by
  have hs : (sizeOf 31).run Try.prog W = .ok 4 W := by kernel_rfl
  have hr := run_slice_l (P := Try.prog) W 23 (some ⟨g, 0, none⟩) n cap slc23 .i64 (m : Int) (by omega) (by omega)
  rw [elem23, hs] at hr
  simp only [Result.andThen, sliced, Int.toNat_natCast] at hr
  rw [run_sliceAt_slice _ _ _ _ _ _ slc23, hr]
  unfold cutA
  split <;> simp [add_at]
theorem cut_hi (a : Option Addr) (n cap m : Nat) (h : m ≤ cap) (W : World) : (Instr.sliceAt 23 (.slice a n cap) none (some (.int .i64 m)) none).run Try.prog W = .ok (.slice a m cap) W := by
  have hs : (sizeOf 31).run Try.prog W = .ok 4 W := by kernel_rfl
  have hr := run_slice_h (P := Try.prog) W 23 a n cap slc23 .i64 (m : Int) (by omega) (by omega)
  rw [elem23, hs] at hr
  simp only [Result.andThen, sliced, Int.toNat_natCast] at hr
  rw [run_sliceAt_slice _ _ _ _ _ _ slc23, hr]
  cases a <;> simp [Addr.add]
end Go.Proofs.Ytkpijoogaicodaa
