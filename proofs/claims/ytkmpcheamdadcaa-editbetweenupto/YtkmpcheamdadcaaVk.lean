/-
  slices.Insert of one table.
-/
import Derived.Test.YtkmpcheamdadcaaVf
import Derived.Laws.CopyRow
import Derived.Lib.Overlaps
import Derived.Lib.AppendZerosOnto
import Derived.Deep.RegionLaw
namespace Go.Proofs.Ytkmpcheamdadcaa
open Go.RowKit
set_option linter.unusedVariables false
set_option linter.unusedSimpArgs false
abbrev tcs (l : List Fi) : List Value := cls Fi.c l
theorem tcs_len (l : List Fi) : (tcs l).length = l.length * 10 := cls_len fi_k l
theorem tcs_app (l m : List Fi) : tcs (l ++ m) = tcs l ++ tcs m := cls_app l m
theorem tcs_one (l : List Fi) : ∀ u ∈ tcs l, u.oneCell' = true := cls_oc fi_1 l
theorem tcs_take (l : List Fi) (i : Nat) : tcs (l.take i) = (tcs l).take (i * 10) := cls_take fi_k l i
theorem tcs_drop (l : List Fi) (i : Nat) : tcs (l.drop i) = (tcs l).drop (i * 10) := cls_drop fi_k l i
theorem tcs_cons (t : Fi) (l : List Fi) : tcs (t :: l) = t.c ++ tcs l := cls_cons t l
def tins (l : List Fi) (i : Nat) (t : Fi) : List Fi := l.take i ++ t :: l.drop i
theorem run_copy3 (w : World) (ty : TypeId) (g o dLen dCap : Nat) (a : Addr) (sLen sCap : Nat) (cur : Array Value) (t : TypeId) (cs : List Value)
    (hg : w.heap[g]? = some (.cells cur t (0, 0))) (hn : cs.length = Nat.min sLen dLen * 10)
    (hsrc : ∀ j v, cs[j]? = some v → w.cell? (a.add j) = some v) (hfit : o + cs.length ≤ cur.size) (h1 : ∀ v ∈ cs, v.oneCell' = true) :
    (Builtin.copy_ #[38, 38] ty #[.slice (some ⟨g, o, none⟩) dLen dCap, .slice (some a) sLen sCap]).run Try.prog w =
      .ok (goInt (Nat.min sLen dLen)) (w.setRow g (cur.toList.take o ++ cs ++ cur.toList.drop (o + cs.length)).toArray) := by
  have hl := run_loadCells_list (P := Try.prog) w a cs hsrc
  have hst := run_storeCells_at Try.prog g o t cs 0 cur w hg (by simpa using hfit) h1
  obtain ⟨i0, hi, hz0, hz1, hz2⟩ := info_parts info50
  simp [Builtin.copy_, run_underlying Try.underlying38, Builtin.lenOf, Builtin.firstCells, sizeOf, typeInfo, hi, hz1, ← hn, hl, hst]
theorem blk_src {w : World} {vb : Nat} {t : Fi} (hv : Blk w vb 50 t.c) : ∀ j u, t.c[j]? = some u → w.cell? ((⟨vb, 0, none⟩ : Addr).add j) = some u := fun j u hj => by
  rw [add_at, Nat.zero_add]; exact hv.cell1 j u hj
/-- What Insert leaves. -/
def InsPost (w : World) (rv : Value) (l : List Fi) (i : Nat) (t : Fi) (e : Ending) (w' : World) : Prop :=
  ∃ v', e = .returned v' ∧ w'.ownsRow 0 50 10 v' (l.length + 1) (tcs (tins l i t)) ∧ Upd (fun k => rv.ownBlock = some k) w w' ∧ (v'.ownBlock = rv.ownBlock ∨ ∃ k, v'.ownBlock = some k ∧ w.heap.size ≤ k)
set_option maxRecDepth 100000 in
set_option maxHeartbeats 1000000 in
theorem insert_end {w : World} {rv : Value} {l : List Fi} (h : w.ownsRow 0 50 10 rv l.length (tcs l)) (t : Fi) {vb : Nat} (hv : Blk w vb 50 t.c) (hl : l.length ≤ 10000) :
    Calls Try.prog 51 #[rv, .int .i64 l.length, .slice (some ⟨vb, 0, none⟩) 1 1] w (InsPost w rv l l.length t) := by
  have H : Hid (w.ownsRow 0 50 10 rv l.length (tcs l)) := h
  obtain ⟨i0, hi, hz0, hz1, hz2⟩ := info_parts info50
  obtain ⟨v', w', hr, h2, h3, _, h5⟩ := run_append_own_at (P := Try.prog) w 0 38 38 50 i0 _ 10 96 Try.underlying38 hi hz0 hz1 hz2 rfl (by decide) rv l.length (tcs l) h ⟨vb, 0, none⟩ 1 1 t.c (by simp [Fi.c]) (blk_src hv) (fi_1 t) (by unfold maxLen; omega) (by omega) (Nat.zero_le _)
  have HP : Hid (InsPost w rv l l.length t (.returned v') w') := by
    refine ⟨v', rfl, ?_, (Upd.refl _ _).grown h3 (fun k hk _ => hk), ?_⟩
    · unfold tins
      rw [List.take_of_length_le (Nat.le_refl _), List.drop_eq_nil_of_le (Nat.le_refl _), tcs_app]
      simpa [tcs_cons, cls] using h2
    · rcases h5 with h5 | h5
      · exact .inl h5
      · exact .inr ⟨_, h5, Nat.le_refl _⟩
  clear hi hz0 hz1 hz2 h2 h3 h5
  rcases h.2 with ⟨rfl, h0⟩ | ⟨g, cap, cur, rfl, _, hgg, hnc, _⟩
  · have h0' : l.length = 0 := h0
    rw [h0'] at HP ⊢
    clear h0 h0' h
    go_enter Try.func51, Try.ntmps51
    go_wp2_with (at_builtin; refine Lib.wpList_append_run _ rfl _ _ _ _ rfl _ _ rfl rfl _ _ hr ?_)
    go_ret
    exact HP.out
  · generalize l.length = N at *
    have hcc : (N : Int) ≤ cap := by omega
    clear h hgg
    go_enter Try.func51, Try.ntmps51
    go_wp2_with (at_builtin; refine Lib.wpList_append_run _ rfl _ _ _ _ rfl _ _ rfl rfl _ _ hr ?_)
    all_goals (go_ret; exact HP.out)
theorem wp_copy_runI (w : World) {o : Oper} {a : Act} {K : Act → World → Prop} {Q : Exit → Act → World → Prop} (d s : Operand) (t t' : TypeId)
    (ho : o.op = .call { callee := .builtin .copy, args := #[d, s], argTypes := #[t, t'] }) (v u : Value) (hd : a.eval d = v) (hs : a.eval s = u) {v' : Value} {w' : World}
    (hr : (Builtin.copy_ #[t, t'] o.type #[v, u]).run Try.prog w = .ok v' w') (h : K (a.put o.dst v') w') : o.wp Try.prog a w K Q := by
  unfold Oper.wp execOp
  simp only [ho, resolve, invoke, builtin, Sem.run_bind, Sem.run_pure, Result.andThen_ok, List.map_toArray, List.map_cons, List.map_nil, hd, hs, hr]
  exact h
theorem wpList_copy_runI (w : World) {ops : Array Oper} {rest : List Oper} {o : Oper} {a : Act} {Q : Exit → Act → World → Prop} (hgd : o.guard = none) (d s : Operand) (t t' : TypeId)
    (ho : o.op = .call { callee := .builtin .copy, args := #[d, s], argTypes := #[t, t'] }) (v u : Value) (hd : a.eval d = v) (hs : a.eval s = u) {v' : Value} {w' : World}
    (hr : (Builtin.copy_ #[t, t'] o.type #[v, u]).run Try.prog w = .ok v' w') (h : wpList Try.prog ops Q rest (a.put o.dst v') w') : wpList Try.prog ops Q (o :: rest) a w :=
  wpList_plain hgd fun _ hK => wp_copy_runI w d s t t' ho v u hd hs hr (hK _ _ h)
theorem step_copy_runI {ops : Array Oper} {o : Oper} {a : Act} {w : World} {K : Act → World → Prop} {Q : Exit → Act → World → Prop} {E : Prop}
    (hg : o.guard = none) (d x : Operand) (dT sT : TypeId) (hop : o.op = Op.call { callee := Callee.builtin Builtin.copy, args := #[d, x], argTypes := #[dT, sT] })
    (v u : Value) (hd : a.eval d = v) (hx : a.eval x = u) {v' : Value} {w' : World} (hr : (Builtin.copy_ #[dT, sT] o.type #[v, u]).run Try.prog w = .ok v' w') (hK : K (a.put o.dst v') w') :
    if Region.wanted o (yielded ops a.tmps) = true then Oper.wp Try.prog o a w K Q else E := by
  have hw : Region.wanted o (yielded ops a.tmps) = true := by simp [Region.wanted, hg]
  rw [if_pos hw]
  unfold Oper.wp
  simp [execOp, hop, resolve, invoke, builtin, hd, hx, hr, Result.andThen]
  exact hK
/-- Cells put into a row at a place. -/
def lay (l : List Value) (o : Nat) (cs : List Value) : List Value := l.take o ++ cs ++ l.drop (o + cs.length)
theorem lay_len (l : List Value) (o : Nat) (cs : List Value) (h : o + cs.length ≤ l.length) : (lay l o cs).length = l.length := by
  unfold lay; simp; omega
/-- A block of tombstones, with what stands behind them. -/
theorem seg_src {w : World} {g : Nat} {cur : Array Value} {t : TypeId} (hg : w.heap[g]? = some (.cells cur t (0, 0))) (o : Nat) (cs : List Value) (hcs : (cur.toList.drop o).take cs.length = cs) :
    ∀ j v, cs[j]? = some v → w.cell? ((⟨g, o, none⟩ : Addr).add j) = some v := by
  intro j v hj
  rw [add_at]
  have hl : j < cs.length := (List.getElem?_eq_some_iff.1 hj).1
  rw [← hcs, List.getElem?_take_of_lt hl, List.getElem?_drop] at hj
  simp only [World.cell?, hg]
  simpa using hj
theorem setRow_get {w : World} {g : Nat} {cur : Array Value} {t : TypeId} (hg : w.heap[g]? = some (.cells cur t (0, 0))) (c2 : Array Value) : (w.setRow g c2).heap[g]? = some (.cells c2 t (0, 0)) := setRow_heap w g cur c2 t (0, 0) hg
theorem setRow_other {w : World} {g k : Nat} (c2 : Array Value) (h : k ≠ g) : (w.setRow g c2).heap[k]? = w.heap[k]? := by
  unfold World.setRow
  simp [Array.getElem?_modify, Ne.symm h]
theorem Upd.setRow {S : Nat → Prop} {a w : World} (h : Upd S a w) {g : Nat} (hg : g < a.heap.size → S g) (c2 : Array Value) : Upd S a (w.setRow g c2) :=
  ⟨h.os, h.tape, h.output, Nat.le_trans h.size (by unfold World.setRow; simp), fun i hi hs => (setRow_other c2 (fun e => by subst e; exact hs (hg hi))).trans (h.block i hi hs)⟩
/-- In place: what the two copies make of a row. -/
theorem lay_room (l : List Fi) (i : Nat) (t : Fi) (cur : List Value) (hi : i ≤ l.length) (hc : cur.take (l.length * 10) = tcs l) (hs : (l.length + 1) * 10 ≤ cur.length) :
    (lay (lay cur ((i + 1) * 10) (tcs (l.drop i))) (i * 10) t.c).take ((l.length + 1) * 10) = tcs (tins l i t) := by
  have hd := tcs_len (l.drop i)
  rw [List.length_drop] at hd
  have e1 : lay cur ((i + 1) * 10) (tcs (l.drop i)) = cur.take ((i + 1) * 10) ++ tcs (l.drop i) ++ cur.drop ((l.length + 1) * 10) := by
    unfold lay; rw [hd, show (i + 1) * 10 + (l.length - i) * 10 = (l.length + 1) * 10 by omega]
  have e2 : cur.take (i * 10) = tcs (l.take i) := by
    rw [tcs_take, ← hc, List.take_take, Nat.min_eq_left (by omega)]
  have hc1 : (cur.take ((i + 1) * 10)).length = (i + 1) * 10 := by simp; omega
  have hcl : t.c.length = 10 := rfl
  have e3 : lay (lay cur ((i + 1) * 10) (tcs (l.drop i))) (i * 10) t.c = tcs (l.take i) ++ t.c ++ (tcs (l.drop i) ++ cur.drop ((l.length + 1) * 10)) := by
    rw [e1]
    unfold lay
    rw [hcl, show i * 10 + 10 = (i + 1) * 10 by omega]
    congr 1
    · congr 1
      rw [List.append_assoc, List.take_append_of_le_length (by rw [hc1]; omega), List.take_take, Nat.min_eq_left (by omega), e2]
    · rw [List.append_assoc, List.drop_append_of_le_length (by rw [hc1]; omega), List.drop_eq_nil_of_le (by rw [hc1]; omega), List.nil_append]
  have e4 : tcs (tins l i t) = tcs (l.take i) ++ t.c ++ tcs (l.drop i) := by unfold tins; rw [tcs_app]; simp [tcs_cons, cls]
  rw [e3, e4, ← List.append_assoc]
  rw [List.take_append_of_le_length, List.take_of_length_le]
  · have := tcs_len (l.take i)
    simp only [List.length_append, hd, hcl, this, List.length_take]
    omega
  · have := tcs_len (l.take i)
    simp only [List.length_append, hd, hcl, this, List.length_take]
    omega
set_option maxRecDepth 100000 in
set_option maxHeartbeats 1000000 in
theorem insert_room {w : World} {g cap : Nat} {l : List Fi} (h : w.ownsRow 0 50 10 (.slice (some ⟨g, 0, none⟩) l.length cap) l.length (tcs l)) (i : Nat) (hil : i < l.length) (hroom : l.length + 1 ≤ cap) (t : Fi) {vb : Nat} (hv : Blk w vb 50 t.c) (hvb : vb ≠ g) (hl : l.length ≤ 10000) :
    Calls Try.prog 51 #[.slice (some ⟨g, 0, none⟩) l.length cap, .int .i64 i, .slice (some ⟨vb, 0, none⟩) 1 1] w (InsPost w (.slice (some ⟨g, 0, none⟩) l.length cap) l i t) := by
  obtain ⟨cur, hgg, hcap, hcs, htk⟩ : ∃ cur, w.heap[g]? = some (.cells cur 50 (0, 0)) ∧ cap ≤ maxLen ∧ cur.size = cap * 10 ∧ cur.toList.take (l.length * 10) = tcs l := by
    rcases h.2 with ⟨h0, _⟩ | ⟨g', cap', cur, h0, _, h2, h3, h4, h5, h6⟩
    · cases h0
    · cases h0; exact ⟨cur, h2, h4, h5, h6⟩
  have hgl : g < w.heap.size := (Array.getElem?_eq_some_iff.1 hgg).1
  have hcl : cur.toList.length = cap * 10 := by simpa using hcs
  have hdl := tcs_len (l.drop i)
  rw [List.length_drop] at hdl
  have hz : ∀ w, (Go.sizeOf 50).run Try.prog w = .ok 10 w := fun w => by kernel_rfl
  have hov : (callFunc 87 #[.slice (some ⟨vb, 0, none⟩) 1 1, .slice (some ⟨g, (i + 1) * 10, none⟩) (l.length - i) (cap - (i + 1))]).run Try.prog w = .ok (.value (.bool false)) w := by
    rw [run_callFunc_extern Try.func87 (by kernel_rfl) (by kernel_rfl) (by kernel_rfl) (e := Extern.SlicesOverlaps.overlaps #[38, 38] #[4]) (by kernel_rfl),
      Lib.run_overlaps_apart w 38 4 50 Try.underlying38 10 hz ⟨vb, 0, none⟩ ⟨g, (i + 1) * 10, none⟩ 1 1 _ _ hvb 50 50 10 (cap * 10) (by unfold Blk at hv; simp [World.shape?, hv, Fi.c]) (by simp [World.shape?, hgg, hcs]) (by omega) (hv.frozen 0) (hv.frozen 10)]
    rfl
  -- the two copies
  have hcp1 : ∀ ty dc sc, (Builtin.copy_ #[38, 38] ty #[.slice (some ⟨g, (i + 1) * 10, none⟩) (l.length - i) dc, .slice (some ⟨g, i * 10, none⟩) (l.length + 1 - i) sc]).run Try.prog w.drew = .ok (goInt (Nat.min (l.length + 1 - i) (l.length - i))) (w.drew.setRow g (lay cur.toList ((i + 1) * 10) (tcs (l.drop i))).toArray) := fun ty dc sc => by
    refine run_copy3 w.drew ty g ((i + 1) * 10) _ dc ⟨g, i * 10, none⟩ _ sc cur 50 (tcs (l.drop i)) hgg ?_ ?_ ?_ (tcs_one _)
    · rw [hdl]; congr 1; simp only [Nat.min_def]; split <;> omega
    · refine seg_src (w := w.drew) hgg (i * 10) _ ?_
      rw [hdl, tcs_drop, ← htk, List.drop_take, show (l.length - i) * 10 = l.length * 10 - i * 10 by omega]
    · rw [hdl, hcs]; omega
  obtain ⟨W1, hW1⟩ : ∃ W1, W1 = w.drew.setRow g (lay cur.toList ((i + 1) * 10) (tcs (l.drop i))).toArray := ⟨_, rfl⟩
  have hg1 : W1.heap[g]? = some (.cells (lay cur.toList ((i + 1) * 10) (tcs (l.drop i))).toArray 50 (0, 0)) := by rw [hW1]; exact setRow_get (w := w.drew) hgg _
  have hv1 : Blk W1 vb 50 t.c := by unfold Blk; rw [hW1, setRow_other _ hvb]; exact hv
  have U1 : Upd (fun k => k = g) w W1 := by rw [hW1]; exact (Upd.refl (fun k => k = g) w).drew.setRow (fun _ => rfl) _
  have hl1 : (lay cur.toList ((i + 1) * 10) (tcs (l.drop i))).length = cap * 10 := by rw [lay_len _ _ _ (by rw [hdl, hcl]; omega), hcl]
  have hcp2 : ∀ ty dc, (Builtin.copy_ #[38, 38] ty #[.slice (some ⟨g, i * 10, none⟩) (l.length + 1 - i) dc, .slice (some ⟨vb, 0, none⟩) 1 1]).run Try.prog W1 = .ok (goInt (Nat.min 1 (l.length + 1 - i))) (W1.setRow g (lay (lay cur.toList ((i + 1) * 10) (tcs (l.drop i))) (i * 10) t.c).toArray) := fun ty dc => by
    refine run_copy3 W1 ty g (i * 10) _ dc ⟨vb, 0, none⟩ 1 1 _ 50 t.c hg1 ?_ (blk_src hv1) ?_ (fi_1 t)
    · have : Nat.min 1 (l.length + 1 - i) = 1 := Nat.min_eq_left (by omega)
      rw [this]; rfl
    · simp [hl1, Fi.c]; omega
  rw [← hW1] at hcp1
  have HP : Hid (InsPost w (.slice (some ⟨g, 0, none⟩) l.length cap) l i t (.returned (.slice (some ⟨g, 0, none⟩) (l.length + 1) cap)) (W1.setRow g (lay (lay cur.toList ((i + 1) * 10) (tcs (l.drop i))) (i * 10) t.c).toArray)) := by
    refine ⟨_, rfl, ⟨?_, .inr ⟨g, cap, _, rfl, Nat.zero_le _, setRow_get hg1 _, hroom, hcap, ?_, ?_⟩⟩, ?_, .inl rfl⟩
    · rw [tcs_len]; unfold tins; simp; omega
    · rw [List.size_toArray, lay_len _ _ _ (by rw [hl1]; simp [Fi.c]; omega), hl1]
    · rw [List.toList_toArray]; exact lay_room l i t cur.toList (by omega) htk (by rw [hcl]; omega)
    · exact (U1.setRow (fun _ => rfl) _).mono (fun k _ e => by subst e; rfl)
  have hiz : (i : Int) < (l.length : Int) := by omega
  have hrz : ((l.length : Int) + 1) ≤ (cap : Int) := by omega
  have hmx : (cap : Int) ≤ 9223372036854775807 := by unfold maxLen at hcap; omega
  have hne1 : ¬ (cap = i) := by omega
  have hw1 : IntKind.i64.wrap ((i : Int) + 1) = (i : Int) + 1 := by rw [IntKind.wrap_i64]; omega
  have htn : ((i : Int) + 1).toNat = i + 1 := by omega
  have hne2 : ¬ (cap = i + 1) := by omega
  have hne3 : ¬ ((i : Int) = (l.length : Int)) := by omega
  have hb1 : (0 : Int) ≤ (i : Int) + 1 := by omega
  have hin : i ≤ l.length := by omega
  have hinz : (i : Int) ≤ (l.length : Int) := by omega
  have hb3 : (i : Int) ≤ (l.length : Int) + 1 := by omega
  clear hW1 hcs htk hcl hdl hz hg1 hv1 U1 hl1 h hv
  generalize l.length = N at *
  go_enter Try.func51, Try.ntmps51
  go_wp2_with (simp only [hov])
  go_region_law ((refine step_copy_runI rfl _ _ 38 38 rfl _ _ (by simp [Act.eval, Act.put]) (by simp [Act.eval, Act.put]) (hcp1 _ _ _) ?_))
  go_wp2_with (at_builtin; refine wpList_copy_runI _ rfl _ _ 38 38 rfl _ _ rfl rfl (hcp2 _ _) ?_)
  go_ret
  exact HP.out
theorem lay_grow (l : List Fi) (i : Nat) (t : Fi) (Z : List Value) (hi : i ≤ l.length) (hz : (l.length + 1 - i) * 10 ≤ Z.length) :
    (lay (lay (tcs (l.take i) ++ Z) (i * 10) t.c) ((i + 1) * 10) (tcs (l.drop i))).take ((l.length + 1) * 10) = tcs (tins l i t) := by
  have hd := tcs_len (l.drop i)
  rw [List.length_drop] at hd
  have ht := tcs_len (l.take i)
  rw [List.length_take, Nat.min_eq_left hi] at ht
  have hcl : t.c.length = 10 := rfl
  have e1 : lay (tcs (l.take i) ++ Z) (i * 10) t.c = tcs (l.take i) ++ t.c ++ Z.drop 10 := by
    unfold lay
    rw [← ht, List.take_left, hcl, List.drop_length_add_append]
  have hA : (tcs (l.take i) ++ t.c).length = (i + 1) * 10 := by rw [List.length_append, ht, hcl]; omega
  have e2 : lay (tcs (l.take i) ++ t.c ++ Z.drop 10) ((i + 1) * 10) (tcs (l.drop i)) = tcs (l.take i) ++ t.c ++ tcs (l.drop i) ++ (Z.drop 10).drop (tcs (l.drop i)).length := by
    unfold lay
    rw [← hA, List.take_left, List.drop_length_add_append]
  have e4 : tcs (tins l i t) = tcs (l.take i) ++ t.c ++ tcs (l.drop i) := by unfold tins; rw [tcs_app]; simp [tcs_cons, cls]
  rw [e1, e2, e4]
  rw [List.take_append_of_le_length, List.take_of_length_le]
  · rw [List.length_append, hA, hd]; omega
  · rw [List.length_append, hA, hd]; omega
set_option maxRecDepth 100000 in
set_option maxHeartbeats 2000000 in
theorem insert_grow {w : World} {g cap : Nat} {l : List Fi} (h : w.ownsRow 0 50 10 (.slice (some ⟨g, 0, none⟩) l.length cap) l.length (tcs l)) (i : Nat) (hil : i < l.length) (hroom : cap < l.length + 1) (t : Fi) {vb : Nat} (hv : Blk w vb 50 t.c) (hl : l.length ≤ 10000) :
    Calls Try.prog 51 #[.slice (some ⟨g, 0, none⟩) l.length cap, .int .i64 i, .slice (some ⟨vb, 0, none⟩) 1 1] w (InsPost w (.slice (some ⟨g, 0, none⟩) l.length cap) l i t) := by
  obtain ⟨cur, hgg, hnc, hcap, hcs, htk⟩ : ∃ cur, w.heap[g]? = some (.cells cur 50 (0, 0)) ∧ l.length ≤ cap ∧ cap ≤ maxLen ∧ cur.size = cap * 10 ∧ cur.toList.take (l.length * 10) = tcs l := by
    rcases h.2 with ⟨h0, _⟩ | ⟨g', cap', cur, h0, _, h2, h3, h4, h5, h6⟩
    · cases h0
    · cases h0; exact ⟨cur, h2, h3, h4, h5, h6⟩
  have hgl : g < w.heap.size := (Array.getElem?_eq_some_iff.1 hgg).1
  have hvl := hv.lt
  have hdl := tcs_len (l.drop i)
  rw [List.length_drop] at hdl
  have htl := tcs_len (l.take i)
  rw [List.length_take, Nat.min_eq_left (Nat.le_of_lt hil)] at htl
  obtain ⟨i0, hi0, hz0, hz1, hz2⟩ := info_parts info50
  obtain ⟨G, hG⟩ : ∃ G, G = grownCap w (l.length + 1) cap 50 := ⟨_, rfl⟩
  have hGe : l.length + 1 ≤ G := by rw [hG]; exact grownCap_ge w _ _ _
  have hGm : G ≤ maxLen := by rw [hG]; exact grownCap_le_maxLen w _ _ _ (by unfold maxLen; omega)
  have hold : (Builtin.firstCells i0.size i (.slice (some ⟨g, 0, none⟩) i cap)).run Try.prog w.drew = .ok (tcs (l.take i)).toArray w.drew := by
    rw [hz1]
    refine run_firstCells_some w.drew 10 i ⟨g, 0, none⟩ i cap (tcs (l.take i)) (by rw [htl]) (seg_src (w := w.drew) hgg 0 _ ?_)
    rw [List.drop_zero, htl, tcs_take, ← htk, List.take_take, Nat.min_eq_left (by omega)]
  obtain ⟨Z, hZ⟩ : ∃ Z : Array Value, Z = Builtin.zeroCells (Value.agg #[.int .u64 0, .int .u64 0, .string ⟨#[]⟩, .int .u64 0, .int .i64 0, .string ⟨#[]⟩, .int .u64 0, .int .i64 0, .int .u64 0, .int .u64 0]).cells (l.length + 1 - i) ++ Builtin.zeroCells (Value.agg #[.int .u64 0, .int .u64 0, .string ⟨#[]⟩, .int .u64 0, .int .i64 0, .string ⟨#[]⟩, .int .u64 0, .int .i64 0, .int .u64 0, .int .u64 0]).cells (G - (l.length + 1)) := ⟨_, rfl⟩
  have hZl : Z.toList.length = (G - i) * 10 := by rw [hZ]; simp [Builtin.zeroCells, Value.cells]; omega
  obtain ⟨W1, hW1⟩ : ∃ W1, W1 = w.drew.alloc (.cells (tcs (l.take i) ++ Z.toList).toArray 50) := ⟨_, rfl⟩
  have hap : ∀ ty, (Builtin.append_ #[38, 3] ty #[.slice (some ⟨g, 0, none⟩) i cap, .int .i64 ((l.length : Int) + 1 - i)]).run Try.prog w = .ok (.slice (some ⟨w.heap.size, 0, none⟩) (l.length + 1) G) W1 := fun ty => by
    have hh := Lib.run_append_grow_zeros (P := Try.prog) w 38 3 ty 50 i0 _ .i64 .i64 Try.underlying38 Try.underlying3 hi0 hz0 (some ⟨g, 0, none⟩) i cap (tcs (l.take i)) hold (l.length + 1 - i) (by omega) (by omega) (by omega) (by omega) (by rw [hz2]; omega) (by rw [hz2, show i + (l.length + 1 - i) = l.length + 1 by omega]; exact growslice_fits hroom (by omega))
    rw [show i + (l.length + 1 - i) = l.length + 1 by omega, ← hG] at hh
    rw [show (l.length : Int) + 1 - i = ((l.length + 1 - i : Nat) : Int) by omega, hh, hW1, hZ]
    congr 3
    simp
  have hN1 : W1.heap[w.heap.size]? = some (.cells (tcs (l.take i) ++ Z.toList).toArray 50 (0, 0)) := by rw [hW1]; exact heap_alloc_new w.drew _
  have hv1 : Blk W1 vb 50 t.c := by rw [hW1]; exact (Blk.alloc (w := w.drew) hv _)
  have hg1 : W1.heap[g]? = some (.cells cur 50 (0, 0)) := by rw [hW1]; exact (Below.heap_alloc w.drew _ g hgl).trans hgg
  have U1 : Upd (fun k => k = g) w W1 := by rw [hW1]; exact (Upd.refl (fun k => k = g) w).drew.alloc _
  have hcp1 : ∀ ty dl dc, 1 ≤ dl → (Builtin.copy_ #[38, 38] ty #[.slice (some ⟨w.heap.size, i * 10, none⟩) dl dc, .slice (some ⟨vb, 0, none⟩) 1 1]).run Try.prog W1 = .ok (goInt 1) (W1.setRow w.heap.size (lay (tcs (l.take i) ++ Z.toList) (i * 10) t.c).toArray) := fun ty dl dc hdl1 => by
    have hm : Nat.min 1 dl = 1 := Nat.min_eq_left hdl1
    have := run_copy3 W1 ty w.heap.size (i * 10) dl dc ⟨vb, 0, none⟩ 1 1 _ 50 t.c hN1 (by rw [hm]; rfl) (blk_src hv1) (by simp only [List.size_toArray, List.length_append, htl, hZl]; simp [Fi.c]; omega) (fi_1 t)
    rw [hm] at this
    exact this
  obtain ⟨W2, hW2⟩ : ∃ W2, W2 = W1.setRow w.heap.size (lay (tcs (l.take i) ++ Z.toList) (i * 10) t.c).toArray := ⟨_, rfl⟩
  have hl1 : (lay (tcs (l.take i) ++ Z.toList) (i * 10) t.c).length = G * 10 := by
    rw [lay_len _ _ _ (by simp only [List.length_append, htl, hZl]; simp [Fi.c]; omega), List.length_append, htl, hZl]; omega
  have hN2 : W2.heap[w.heap.size]? = some (.cells (lay (tcs (l.take i) ++ Z.toList) (i * 10) t.c).toArray 50 (0, 0)) := by rw [hW2]; exact setRow_get hN1 _
  have hg2 : W2.heap[g]? = some (.cells cur 50 (0, 0)) := by rw [hW2, setRow_other _ (by omega)]; exact hg1
  have U2 : Upd (fun k => k = g) w W2 := by rw [hW2]; exact U1.setRow (fun hh => by omega) _
  have hcp2 : ∀ ty dl dc sc, l.length - i ≤ dl → (Builtin.copy_ #[38, 38] ty #[.slice (some ⟨w.heap.size, (i + 1) * 10, none⟩) dl dc, .slice (some ⟨g, i * 10, none⟩) (l.length - i) sc]).run Try.prog W2.drew = .ok (goInt (l.length - i : Nat)) (W2.drew.setRow w.heap.size (lay (lay (tcs (l.take i) ++ Z.toList) (i * 10) t.c) ((i + 1) * 10) (tcs (l.drop i))).toArray) := fun ty dl dc sc hdl1 => by
    have hm : Nat.min (l.length - i) dl = l.length - i := Nat.min_eq_left hdl1
    have := run_copy3 W2.drew ty w.heap.size ((i + 1) * 10) dl dc ⟨g, i * 10, none⟩ (l.length - i) sc _ 50 (tcs (l.drop i)) hN2 (by rw [hm, hdl]) (seg_src (w := W2.drew) hg2 (i * 10) _ (by rw [hdl, tcs_drop, ← htk, List.drop_take, show (l.length - i) * 10 = l.length * 10 - i * 10 by omega])) (by rw [List.size_toArray, hl1, hdl]; omega) (tcs_one _)
    rw [hm] at this
    exact this
  rw [← hW1] at *
  rw [← hW2] at hcp1
  have HP : Hid (InsPost w (.slice (some ⟨g, 0, none⟩) l.length cap) l i t (.returned (.slice (some ⟨w.heap.size, 0, none⟩) (l.length + 1) G)) (W2.drew.setRow w.heap.size (lay (lay (tcs (l.take i) ++ Z.toList) (i * 10) t.c) ((i + 1) * 10) (tcs (l.drop i))).toArray)) := by
    refine ⟨_, rfl, ⟨?_, .inr ⟨w.heap.size, G, _, rfl, Nat.zero_le _, setRow_get (w := W2.drew) hN2 _, hGe, hGm, ?_, ?_⟩⟩, ?_, .inr ⟨_, rfl, Nat.le_refl _⟩⟩
    · rw [tcs_len]; unfold tins; simp; omega
    · rw [List.size_toArray, lay_len _ _ _ (by rw [hl1, hdl]; omega), hl1]
    · rw [List.toList_toArray]; exact lay_grow l i t Z.toList (by omega) (by rw [hZl]; omega)
    · exact (U2.drew.setRow (fun hh => by omega) _).mono (fun k _ e => by subst e; rfl)
  have hiz : (i : Int) < (l.length : Int) := by omega
  have hrz : (cap : Int) < ((l.length : Int) + 1) := by omega
  have hicap : (i : Int) ≤ (cap : Int) := by omega
  have hne1 : ¬ (cap = i) := by omega
  have hneG : ¬ (G = i) := by omega
  have hneG2 : ¬ (G = i + 1) := by omega
  have hne3 : ¬ ((i : Int) = (l.length : Int)) := by omega
  have hw1 : IntKind.i64.wrap ((i : Int) + 1) = (i : Int) + 1 := by rw [IntKind.wrap_i64]; omega
  have htn : ((i : Int) + 1).toNat = i + 1 := by omega
  have hb1 : (0 : Int) ≤ (i : Int) + 1 := by omega
  have hin : i ≤ l.length := by omega
  have hinz : (i : Int) ≤ (l.length : Int) := by omega
  have hb3 : (i : Int) ≤ (l.length : Int) + 1 := by omega
  have hGz : (l.length : Int) + 1 ≤ (G : Int) := by omega
  have hq1 : 1 ≤ l.length + 1 - i := by omega
  have hq2 : l.length - i ≤ l.length - i := Nat.le_refl _
  clear hW1 hW2 hcs htk hdl hz0 hz1 hz2 hi0 hg1 hv1 U1 hl1 h hv hold hZl hZ hN1 hN2 hg2 U2 hG
  generalize l.length = N at *
  go_enter Try.func51, Try.ntmps51
  go_wp2_with (first
    | (at_builtin; refine Lib.wpList_append_run _ rfl _ _ _ _ rfl _ _ rfl rfl _ _ (hap _) ?_)
    | (at_builtin; refine wpList_copy_runI _ rfl _ _ 38 38 rfl _ _ rfl rfl (hcp1 _ _ _ hq1) ?_))
  go_region_law ((refine step_copy_runI rfl _ _ 38 38 rfl _ _ (by simp [Act.eval, Act.put]) (by simp [Act.eval, Act.put]) (hcp2 _ _ _ _ hq2) ?_))
  go_wp2_with fail
  go_ret
  exact HP.out
/-- Insert of one, anywhere. -/
theorem insert_any {w : World} {rv : Value} {l : List Fi} (h : w.ownsRow 0 50 10 rv l.length (tcs l)) (i : Nat) (hil : i ≤ l.length) (t : Fi) {vb : Nat} (hv : Blk w vb 50 t.c) (hvb : rv.ownBlock ≠ some vb) (hl : l.length ≤ 10000) :
    Calls Try.prog 51 #[rv, .int .i64 i, .slice (some ⟨vb, 0, none⟩) 1 1] w (InsPost w rv l i t) := by
  rcases Nat.lt_or_ge i l.length with hi | hi
  · rcases h.2 with ⟨_, h0⟩ | ⟨g, cap, cur, rfl, _⟩
    · omega
    · rcases Nat.lt_or_ge cap (l.length + 1) with hc | hc
      · exact insert_grow h i hi hc t hv hl
      · exact insert_room h i hi hc t hv (fun e => hvb (by rw [e]; rfl)) hl
  · obtain rfl : i = l.length := by omega
    exact insert_end h t hv hl
end Go.Proofs.Ytkmpcheamdadcaa
