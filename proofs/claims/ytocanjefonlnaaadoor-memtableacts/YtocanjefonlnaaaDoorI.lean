import Derived.Test.YtocanjefonlnaaaDoorFo
import Derived.Laws.CopyRow
import Derived.Lib.Overlaps
import Derived.Lib.AppendZerosOnto
import Derived.Deep.RegionLaw
namespace Go.Proofs.YtocanjefonlnaaaDoor
open Go.RowKit
set_option linter.unusedVariables false
set_option linter.unusedSimpArgs false
/-- A tombstone. -/
structure Tm where
  b : ByteArray
  e : ByteArray
  s : Int
def Tm.c (t : Tm) : List Value := [.string t.b, .string t.e, .int .u64 t.s]
def tcs : List Tm → List Value
  | [] => []
  | t :: l => t.c ++ tcs l
theorem tcs_len (l : List Tm) : (tcs l).length = l.length * 3 := by
  induction l with
  | nil => rfl
  | cons r l ih => simp [tcs, Tm.c, ih]; omega
theorem tcs_app (l m : List Tm) : tcs (l ++ m) = tcs l ++ tcs m := by
  induction l with
  | nil => rfl
  | cons r l ih => simp [tcs, ih]
theorem tcs_one (l : List Tm) : ∀ u ∈ tcs l, u.oneCell' = true := by
  induction l with
  | nil => simp [tcs]
  | cons r l ih =>
    intro u hu
    rw [tcs, List.mem_append] at hu
    rcases hu with hu | hu
    · simp [Tm.c] at hu
      rcases hu with rfl | rfl | rfl <;> rfl
    · exact ih u hu
theorem tcs_take (l : List Tm) (i : Nat) : tcs (l.take i) = (tcs l).take (i * 3) := by
  induction l generalizing i with
  | nil => simp [tcs]
  | cons r l ih =>
    cases i with
    | zero => simp [tcs]
    | succ i =>
      rw [List.take_succ_cons, tcs, tcs, ih, show (i + 1) * 3 = r.c.length + i * 3 by simp [Tm.c]; omega, List.take_length_add_append]
theorem tcs_drop (l : List Tm) (i : Nat) : tcs (l.drop i) = (tcs l).drop (i * 3) := by
  induction l generalizing i with
  | nil => simp [tcs]
  | cons r l ih =>
    cases i with
    | zero => simp [tcs]
    | succ i =>
      rw [List.drop_succ_cons, tcs, ih, show (i + 1) * 3 = r.c.length + i * 3 by simp [Tm.c]; omega, List.drop_length_add_append]
def tins (l : List Tm) (i : Nat) (t : Tm) : List Tm := l.take i ++ t :: l.drop i
/-- A tombstone at a place. -/
def TAt (w : World) (b o : Nat) (t : Tm) : Prop := w.cell? ⟨b, o, none⟩ = some (.string t.b) ∧ w.cell? ⟨b, o + 1, none⟩ = some (.string t.e) ∧ w.cell? ⟨b, o + 2, none⟩ = some (.int .u64 t.s)
theorem tcs_get (l : List Tm) (j : Nat) (t : Tm) (h : l[j]? = some t) (i : Nat) (hi : i < 3) : (tcs l)[j * 3 + i]? = (t.c)[i]? := by
  have : (tcs l).drop (j * 3) = t.c ++ tcs (l.drop (j + 1)) := by
    obtain ⟨hj, rfl⟩ := List.getElem?_eq_some_iff.1 h
    rw [← tcs_drop, List.drop_eq_getElem_cons hj]; rfl
  rw [← List.getElem?_drop, this, List.getElem?_append_left (by simp [Tm.c]; omega)]
theorem row_tat {w : World} {base g n cap : Nat} {l : List Tm} (h : w.ownsRow base 81 3 (.slice (some ⟨g, 0, none⟩) n cap) l.length (tcs l)) (j : Nat) (t : Tm) (hj : l[j]? = some t) : TAt w g (j * 3) t := by
  have hc := h.cells (g := g) rfl
  have hg := fun i hi => tcs_get l j t hj i hi
  have add_at : ∀ b off j : Nat, (⟨b, off, none⟩ : Addr).add j = ⟨b, off + j, none⟩ := fun b off j => by unfold Addr.add; split <;> simp_all
  refine ⟨?_, ?_, ?_⟩
  · have := hc (j * 3 + 0) _ ((hg 0 (by decide)).trans rfl); rw [add_at] at this; simpa using this
  · have := hc (j * 3 + 1) _ ((hg 1 (by decide)).trans rfl); rw [add_at] at this; simpa using this
  · have := hc (j * 3 + 2) _ ((hg 2 (by decide)).trans rfl); rw [add_at] at this; simpa using this
theorem info81 : (Tryd.prog.info? 81).map (fun i => (i.zero, i.size, i.bytes)) = some (some (.agg #[.string ⟨#[]⟩, .string ⟨#[]⟩, .int .u64 0]), 3, 40) := by kernel_rfl
theorem run_copy3 (w : World) (ty : TypeId) (g o dLen dCap : Nat) (a : Addr) (sLen sCap : Nat) (cur : Array Value) (t : TypeId) (cs : List Value)
    (hg : w.heap[g]? = some (.cells cur t (0, 0))) (hn : cs.length = Nat.min sLen dLen * 3)
    (hsrc : ∀ j v, cs[j]? = some v → w.cell? (a.add j) = some v) (hfit : o + cs.length ≤ cur.size) (h1 : ∀ v ∈ cs, v.oneCell' = true) :
    (Builtin.copy_ #[60, 60] ty #[.slice (some ⟨g, o, none⟩) dLen dCap, .slice (some a) sLen sCap]).run Tryd.prog w =
      .ok (goInt (Nat.min sLen dLen)) (w.setRow g (cur.toList.take o ++ cs ++ cur.toList.drop (o + cs.length)).toArray) := by
  have hl := run_loadCells_list (P := Tryd.prog) w a cs hsrc
  have hst := run_storeCells_at Tryd.prog g o t cs 0 cur w hg (by simpa using hfit) h1
  obtain ⟨i0, hi, hz0, hz1, hz2⟩ := info_parts info81
  simp [Builtin.copy_, run_underlying Tryd.underlying60, Builtin.lenOf, Builtin.firstCells, sizeOf, typeInfo, hi, hz1, ← hn, hl, hst]
theorem add_at (b off j : Nat) : (⟨b, off, none⟩ : Addr).add j = ⟨b, off + j, none⟩ := by unfold Addr.add; split <;> simp_all
theorem blk_src {w : World} {vb : Nat} {t : Tm} (hv : Blk w vb 81 t.c) : ∀ j u, t.c[j]? = some u → w.cell? ((⟨vb, 0, none⟩ : Addr).add j) = some u := fun j u hj => by
  rw [add_at, Nat.zero_add]; exact hv.cell1 j u hj
/-- What Insert leaves. -/
def InsPost (w : World) (rv : Value) (l : List Tm) (i : Nat) (t : Tm) (e : Ending) (w' : World) : Prop :=
  ∃ v', e = .returned v' ∧ w'.ownsRow 0 81 3 v' (l.length + 1) (tcs (tins l i t)) ∧ Upd (fun k => rv.ownBlock = some k) w w' ∧ (v'.ownBlock = rv.ownBlock ∨ ∃ k, v'.ownBlock = some k ∧ w.heap.size ≤ k)
set_option maxRecDepth 100000 in
set_option maxHeartbeats 1000000 in
theorem insert_end {w : World} {rv : Value} {l : List Tm} (h : w.ownsRow 0 81 3 rv l.length (tcs l)) (t : Tm) {vb : Nat} (hv : Blk w vb 81 t.c) (hl : l.length ≤ 10000) :
    Calls Tryd.prog 58 #[rv, .int .i64 l.length, .slice (some ⟨vb, 0, none⟩) 1 1] w (InsPost w rv l l.length t) := by
  have H : Hid (w.ownsRow 0 81 3 rv l.length (tcs l)) := h
  obtain ⟨i0, hi, hz0, hz1, hz2⟩ := info_parts info81
  obtain ⟨v', w', hr, h2, h3, _, h5⟩ := run_append_own_at (P := Tryd.prog) w 0 60 60 81 i0 _ 3 40 Tryd.underlying60 hi hz0 hz1 hz2 rfl (by decide) rv l.length (tcs l) h ⟨vb, 0, none⟩ 1 1 t.c (by simp [Tm.c]) (blk_src hv) (fun u hu => by simp [Tm.c] at hu; rcases hu with rfl | rfl | rfl <;> rfl) (by unfold maxLen; omega) (by omega) (Nat.zero_le _)
  have HP : Hid (InsPost w rv l l.length t (.returned v') w') := by
    refine ⟨v', rfl, ?_, (Upd.refl _ _).grown h3 (fun k hk _ => hk), ?_⟩
    · unfold tins
      rw [List.take_of_length_le (Nat.le_refl _), List.drop_eq_nil_of_le (Nat.le_refl _), tcs_app]
      simpa [tcs] using h2
    · rcases h5 with h5 | h5
      · exact .inl h5
      · exact .inr ⟨_, h5, Nat.le_refl _⟩
  clear hi hz0 hz1 hz2 h2 h3 h5
  rcases h.2 with ⟨rfl, h0⟩ | ⟨g, cap, cur, rfl, _, hgg, hnc, _⟩
  · have h0' : l.length = 0 := h0
    rw [h0'] at HP ⊢
    clear h0 h0' h
    go_enter Tryd.func58, Tryd.ntmps58
    go_wp2_with (at_builtin; refine Lib.wpList_append_run _ rfl _ _ _ _ rfl _ _ rfl rfl _ _ hr ?_)
    go_ret
    exact HP.out
  · generalize l.length = N at *
    have hcc : (N : Int) ≤ cap := by omega
    clear h hgg
    go_enter Tryd.func58, Tryd.ntmps58
    go_wp2_with (at_builtin; refine Lib.wpList_append_run _ rfl _ _ _ _ rfl _ _ rfl rfl _ _ hr ?_)
    all_goals (go_ret; exact HP.out)
theorem wp_copy_runI (w : World) {o : Oper} {a : Act} {K : Act → World → Prop} {Q : Exit → Act → World → Prop} (d s : Operand) (t t' : TypeId)
    (ho : o.op = .call { callee := .builtin .copy, args := #[d, s], argTypes := #[t, t'] }) (v u : Value) (hd : a.eval d = v) (hs : a.eval s = u) {v' : Value} {w' : World}
    (hr : (Builtin.copy_ #[t, t'] o.type #[v, u]).run Tryd.prog w = .ok v' w') (h : K (a.put o.dst v') w') : o.wp Tryd.prog a w K Q := by
  unfold Oper.wp execOp
  simp only [ho, resolve, invoke, builtin, Sem.run_bind, Sem.run_pure, Result.andThen_ok, List.map_toArray, List.map_cons, List.map_nil, hd, hs, hr]
  exact h
theorem wpList_copy_runI (w : World) {ops : Array Oper} {rest : List Oper} {o : Oper} {a : Act} {Q : Exit → Act → World → Prop} (hgd : o.guard = none) (d s : Operand) (t t' : TypeId)
    (ho : o.op = .call { callee := .builtin .copy, args := #[d, s], argTypes := #[t, t'] }) (v u : Value) (hd : a.eval d = v) (hs : a.eval s = u) {v' : Value} {w' : World}
    (hr : (Builtin.copy_ #[t, t'] o.type #[v, u]).run Tryd.prog w = .ok v' w') (h : wpList Tryd.prog ops Q rest (a.put o.dst v') w') : wpList Tryd.prog ops Q (o :: rest) a w :=
  wpList_plain hgd fun _ hK => wp_copy_runI w d s t t' ho v u hd hs hr (hK _ _ h)
theorem step_copy_runI {ops : Array Oper} {o : Oper} {a : Act} {w : World} {K : Act → World → Prop} {Q : Exit → Act → World → Prop} {E : Prop}
    (hg : o.guard = none) (d x : Operand) (dT sT : TypeId) (hop : o.op = Op.call { callee := Callee.builtin Builtin.copy, args := #[d, x], argTypes := #[dT, sT] })
    (v u : Value) (hd : a.eval d = v) (hx : a.eval x = u) {v' : Value} {w' : World} (hr : (Builtin.copy_ #[dT, sT] o.type #[v, u]).run Tryd.prog w = .ok v' w') (hK : K (a.put o.dst v') w') :
    if Region.wanted o (yielded ops a.tmps) = true then Oper.wp Tryd.prog o a w K Q else E := by
  have hw : Region.wanted o (yielded ops a.tmps) = true := by simp [Region.wanted, hg]
  rw [if_pos hw]
  unfold Oper.wp
  simp [execOp, hop, resolve, invoke, builtin, hd, hx, hr, Result.andThen]
  exact hK
/-- Cells put into a row at a place. -/
def lay (l : List Value) (o : Nat) (cs : List Value) : List Value := l.take o ++ cs ++ l.drop (o + cs.length)
theorem lay_len (l : List Value) (o : Nat) (cs : List Value) (h : o + cs.length ≤ l.length) : (lay l o cs).length = l.length := by
  unfold lay; simp; omega
/-- A block of tombstones, with what stands behind them. -/
theorem seg_src {w : World} {g : Nat} {cur : Array Value} {t : TypeId} (hg : w.heap[g]? = some (.cells cur t (0, 0))) (o : Nat) (cs : List Value) (hcs : (cur.toList.drop o).take cs.length = cs) :
    ∀ j v, cs[j]? = some v → w.cell? ((⟨g, o, none⟩ : Addr).add j) = some v := by
  intro j v hj
  rw [add_at]
  have hl : j < cs.length := (List.getElem?_eq_some_iff.1 hj).1
  rw [← hcs, List.getElem?_take_of_lt hl, List.getElem?_drop] at hj
  simp only [World.cell?, hg]
  simpa using hj
theorem setRow_get {w : World} {g : Nat} {cur : Array Value} {t : TypeId} (hg : w.heap[g]? = some (.cells cur t (0, 0))) (c2 : Array Value) : (w.setRow g c2).heap[g]? = some (.cells c2 t (0, 0)) := setRow_heap w g cur c2 t (0, 0) hg
theorem setRow_other {w : World} {g k : Nat} (c2 : Array Value) (h : k ≠ g) : (w.setRow g c2).heap[k]? = w.heap[k]? := by
  unfold World.setRow
  simp [Array.getElem?_modify, Ne.symm h]
theorem Upd.setRow {S : Nat → Prop} {a w : World} (h : Upd S a w) {g : Nat} (hg : g < a.heap.size → S g) (c2 : Array Value) : Upd S a (w.setRow g c2) :=
  ⟨h.os, h.tape, h.output, Nat.le_trans h.size (by unfold World.setRow; simp), fun i hi hs => (setRow_other c2 (fun e => by subst e; exact hs (hg hi))).trans (h.block i hi hs)⟩
/-- In place: what the two copies make of a row. -/
theorem lay_room (l : List Tm) (i : Nat) (t : Tm) (cur : List Value) (hi : i ≤ l.length) (hc : cur.take (l.length * 3) = tcs l) (hs : (l.length + 1) * 3 ≤ cur.length) :
    (lay (lay cur ((i + 1) * 3) (tcs (l.drop i))) (i * 3) t.c).take ((l.length + 1) * 3) = tcs (tins l i t) := by
  have hd := tcs_len (l.drop i)
  rw [List.length_drop] at hd
  have e1 : lay cur ((i + 1) * 3) (tcs (l.drop i)) = cur.take ((i + 1) * 3) ++ tcs (l.drop i) ++ cur.drop ((l.length + 1) * 3) := by
    unfold lay; rw [hd, show (i + 1) * 3 + (l.length - i) * 3 = (l.length + 1) * 3 by omega]
  have e2 : cur.take (i * 3) = tcs (l.take i) := by
    rw [tcs_take, ← hc, List.take_take, Nat.min_eq_left (by omega)]
  have hc1 : (cur.take ((i + 1) * 3)).length = (i + 1) * 3 := by simp; omega
  have hcl : t.c.length = 3 := rfl
  have e3 : lay (lay cur ((i + 1) * 3) (tcs (l.drop i))) (i * 3) t.c = tcs (l.take i) ++ t.c ++ (tcs (l.drop i) ++ cur.drop ((l.length + 1) * 3)) := by
    rw [e1]
    unfold lay
    rw [hcl, show i * 3 + 3 = (i + 1) * 3 by omega]
    congr 1
    · congr 1
      rw [List.append_assoc, List.take_append_of_le_length (by rw [hc1]; omega), List.take_take, Nat.min_eq_left (by omega), e2]
    · rw [List.append_assoc, List.drop_append_of_le_length (by rw [hc1]; omega), List.drop_eq_nil_of_le (by rw [hc1]; omega), List.nil_append]
  have e4 : tcs (tins l i t) = tcs (l.take i) ++ t.c ++ tcs (l.drop i) := by unfold tins; rw [tcs_app]; simp [tcs]
  rw [e3, e4, ← List.append_assoc]
  rw [List.take_append_of_le_length, List.take_of_length_le]
  · have := tcs_len (l.take i)
    simp only [List.length_append, hd, hcl, this, List.length_take]
    omega
  · have := tcs_len (l.take i)
    simp only [List.length_append, hd, hcl, this, List.length_take]
    omega
set_option maxRecDepth 100000 in
set_option maxHeartbeats 1000000 in
theorem insert_room {w : World} {g cap : Nat} {l : List Tm} (h : w.ownsRow 0 81 3 (.slice (some ⟨g, 0, none⟩) l.length cap) l.length (tcs l)) (i : Nat) (hil : i < l.length) (hroom : l.length + 1 ≤ cap) (t : Tm) {vb : Nat} (hv : Blk w vb 81 t.c) (hvb : vb ≠ g) (hl : l.length ≤ 10000) :
    Calls Tryd.prog 58 #[.slice (some ⟨g, 0, none⟩) l.length cap, .int .i64 i, .slice (some ⟨vb, 0, none⟩) 1 1] w (InsPost w (.slice (some ⟨g, 0, none⟩) l.length cap) l i t) := by
  obtain ⟨cur, hgg, hcap, hcs, htk⟩ : ∃ cur, w.heap[g]? = some (.cells cur 81 (0, 0)) ∧ cap ≤ maxLen ∧ cur.size = cap * 3 ∧ cur.toList.take (l.length * 3) = tcs l := by
    rcases h.2 with ⟨h0, _⟩ | ⟨g', cap', cur, h0, _, h2, h3, h4, h5, h6⟩
    · cases h0
    · cases h0; exact ⟨cur, h2, h4, h5, h6⟩
  have hgl : g < w.heap.size := (Array.getElem?_eq_some_iff.1 hgg).1
  have hcl : cur.toList.length = cap * 3 := by simpa using hcs
  have hdl := tcs_len (l.drop i)
  rw [List.length_drop] at hdl
  have hz : ∀ w, (Go.sizeOf 81).run Tryd.prog w = .ok 3 w := fun w => by kernel_rfl
  have hov : (callFunc 63 #[.slice (some ⟨vb, 0, none⟩) 1 1, .slice (some ⟨g, (i + 1) * 3, none⟩) (l.length - i) (cap - (i + 1))]).run Tryd.prog w = .ok (.value (.bool false)) w := by
    rw [run_callFunc_extern Tryd.func63 (by kernel_rfl) (by kernel_rfl) (by kernel_rfl) (e := Extern.SlicesOverlaps.overlaps #[60, 60] #[4]) (by kernel_rfl),
      Lib.run_overlaps_apart w 60 4 81 Tryd.underlying60 3 hz ⟨vb, 0, none⟩ ⟨g, (i + 1) * 3, none⟩ 1 1 _ _ hvb 81 81 3 (cap * 3) (by unfold Blk at hv; simp [World.shape?, hv, Tm.c]) (by simp [World.shape?, hgg, hcs]) (by omega) (hv.frozen 0) (hv.frozen 3)]
    rfl
  -- the two copies
  have hcp1 : ∀ ty dc sc, (Builtin.copy_ #[60, 60] ty #[.slice (some ⟨g, (i + 1) * 3, none⟩) (l.length - i) dc, .slice (some ⟨g, i * 3, none⟩) (l.length + 1 - i) sc]).run Tryd.prog w.drew = .ok (goInt (Nat.min (l.length + 1 - i) (l.length - i))) (w.drew.setRow g (lay cur.toList ((i + 1) * 3) (tcs (l.drop i))).toArray) := fun ty dc sc => by
    refine run_copy3 w.drew ty g ((i + 1) * 3) _ dc ⟨g, i * 3, none⟩ _ sc cur 81 (tcs (l.drop i)) hgg ?_ ?_ ?_ (tcs_one _)
    · rw [hdl]; congr 1; simp only [Nat.min_def]; split <;> omega
    · refine seg_src (w := w.drew) hgg (i * 3) _ ?_
      rw [hdl, tcs_drop, ← htk, List.drop_take, show (l.length - i) * 3 = l.length * 3 - i * 3 by omega]
    · rw [hdl, hcs]; omega
  obtain ⟨W1, hW1⟩ : ∃ W1, W1 = w.drew.setRow g (lay cur.toList ((i + 1) * 3) (tcs (l.drop i))).toArray := ⟨_, rfl⟩
  have hg1 : W1.heap[g]? = some (.cells (lay cur.toList ((i + 1) * 3) (tcs (l.drop i))).toArray 81 (0, 0)) := by rw [hW1]; exact setRow_get (w := w.drew) hgg _
  have hv1 : Blk W1 vb 81 t.c := by unfold Blk; rw [hW1, setRow_other _ hvb]; exact hv
  have U1 : Upd (fun k => k = g) w W1 := by rw [hW1]; exact (Upd.refl (fun k => k = g) w).drew.setRow (fun _ => rfl) _
  have hl1 : (lay cur.toList ((i + 1) * 3) (tcs (l.drop i))).length = cap * 3 := by rw [lay_len _ _ _ (by rw [hdl, hcl]; omega), hcl]
  have hcp2 : ∀ ty dc, (Builtin.copy_ #[60, 60] ty #[.slice (some ⟨g, i * 3, none⟩) (l.length + 1 - i) dc, .slice (some ⟨vb, 0, none⟩) 1 1]).run Tryd.prog W1 = .ok (goInt (Nat.min 1 (l.length + 1 - i))) (W1.setRow g (lay (lay cur.toList ((i + 1) * 3) (tcs (l.drop i))) (i * 3) t.c).toArray) := fun ty dc => by
    refine run_copy3 W1 ty g (i * 3) _ dc ⟨vb, 0, none⟩ 1 1 _ 81 t.c hg1 ?_ (blk_src hv1) ?_ (fun u hu => by simp [Tm.c] at hu; rcases hu with rfl | rfl | rfl <;> rfl)
    · have : Nat.min 1 (l.length + 1 - i) = 1 := Nat.min_eq_left (by omega)
      rw [this]; rfl
    · simp [hl1, Tm.c]; omega
  rw [← hW1] at hcp1
  have HP : Hid (InsPost w (.slice (some ⟨g, 0, none⟩) l.length cap) l i t (.returned (.slice (some ⟨g, 0, none⟩) (l.length + 1) cap)) (W1.setRow g (lay (lay cur.toList ((i + 1) * 3) (tcs (l.drop i))) (i * 3) t.c).toArray)) := by
    refine ⟨_, rfl, ⟨?_, .inr ⟨g, cap, _, rfl, Nat.zero_le _, setRow_get hg1 _, hroom, hcap, ?_, ?_⟩⟩, ?_, .inl rfl⟩
    · rw [tcs_len]; unfold tins; simp; omega
    · rw [List.size_toArray, lay_len _ _ _ (by rw [hl1]; simp [Tm.c]; omega), hl1]
    · rw [List.toList_toArray]; exact lay_room l i t cur.toList (by omega) htk (by rw [hcl]; omega)
    · exact (U1.setRow (fun _ => rfl) _).mono (fun k _ e => by subst e; rfl)
  have hiz : (i : Int) < (l.length : Int) := by omega
  have hrz : ((l.length : Int) + 1) ≤ (cap : Int) := by omega
  have hmx : (cap : Int) ≤ 9223372036854775807 := by unfold maxLen at hcap; omega
  have hne1 : ¬ (cap = i) := by omega
  have hw1 : IntKind.i64.wrap ((i : Int) + 1) = (i : Int) + 1 := by rw [IntKind.wrap_i64]; omega
  have htn : ((i : Int) + 1).toNat = i + 1 := by omega
  have hne2 : ¬ (cap = i + 1) := by omega
  have hne3 : ¬ ((i : Int) = (l.length : Int)) := by omega
  have hb1 : (0 : Int) ≤ (i : Int) + 1 := by omega
  have hin : i ≤ l.length := by omega
  have hinz : (i : Int) ≤ (l.length : Int) := by omega
  have hb3 : (i : Int) ≤ (l.length : Int) + 1 := by omega
  clear hW1 hcs htk hcl hdl hz hg1 hv1 U1 hl1 h hv
  generalize l.length = N at *
  go_enter Tryd.func58, Tryd.ntmps58
  go_wp2_with (simp only [hov])
  go_region_law ((refine step_copy_runI rfl _ _ 60 60 rfl _ _ (by simp [Act.eval, Act.put]) (by simp [Act.eval, Act.put]) (hcp1 _ _ _) ?_))
  go_wp2_with (at_builtin; refine wpList_copy_runI _ rfl _ _ 60 60 rfl _ _ rfl rfl (hcp2 _ _) ?_)
  go_ret
  exact HP.out
end Go.Proofs.YtocanjefonlnaaaDoor
