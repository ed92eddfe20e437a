import Derived.Test.YtocanjefonlnaaaDoorI
namespace Go.Proofs.YtocanjefonlnaaaDoor
open Go.RowKit
set_option linter.unusedVariables false
set_option linter.unusedSimpArgs false
theorem lay_grow (l : List Tm) (i : Nat) (t : Tm) (Z : List Value) (hi : i ≤ l.length) (hz : (l.length + 1 - i) * 3 ≤ Z.length) :
    (lay (lay (tcs (l.take i) ++ Z) (i * 3) t.c) ((i + 1) * 3) (tcs (l.drop i))).take ((l.length + 1) * 3) = tcs (tins l i t) := by
  have hd := tcs_len (l.drop i)
  rw [List.length_drop] at hd
  have ht := tcs_len (l.take i)
  rw [List.length_take, Nat.min_eq_left hi] at ht
  have hcl : t.c.length = 3 := rfl
  have e1 : lay (tcs (l.take i) ++ Z) (i * 3) t.c = tcs (l.take i) ++ t.c ++ Z.drop 3 := by
    unfold lay
    rw [← ht, List.take_left, hcl, List.drop_length_add_append]
  have hA : (tcs (l.take i) ++ t.c).length = (i + 1) * 3 := by rw [List.length_append, ht, hcl]; omega
  have e2 : lay (tcs (l.take i) ++ t.c ++ Z.drop 3) ((i + 1) * 3) (tcs (l.drop i)) = tcs (l.take i) ++ t.c ++ tcs (l.drop i) ++ (Z.drop 3).drop (tcs (l.drop i)).length := by
    unfold lay
    rw [← hA, List.take_left, List.drop_length_add_append]
  have e4 : tcs (tins l i t) = tcs (l.take i) ++ t.c ++ tcs (l.drop i) := by unfold tins; rw [tcs_app]; simp [tcs]
  rw [e1, e2, e4]
  rw [List.take_append_of_le_length, List.take_of_length_le]
  · rw [List.length_append, hA, hd]; omega
  · rw [List.length_append, hA, hd]; omega
set_option maxRecDepth 100000 in
set_option maxHeartbeats 2000000 in
theorem insert_grow {w : World} {g cap : Nat} {l : List Tm} (h : w.ownsRow 0 81 3 (.slice (some ⟨g, 0, none⟩) l.length cap) l.length (tcs l)) (i : Nat) (hil : i < l.length) (hroom : cap < l.length + 1) (t : Tm) {vb : Nat} (hv : Blk w vb 81 t.c) (hl : l.length ≤ 10000) :
    Calls Tryd.prog 58 #[.slice (some ⟨g, 0, none⟩) l.length cap, .int .i64 i, .slice (some ⟨vb, 0, none⟩) 1 1] w (InsPost w (.slice (some ⟨g, 0, none⟩) l.length cap) l i t) := by
  obtain ⟨cur, hgg, hnc, hcap, hcs, htk⟩ : ∃ cur, w.heap[g]? = some (.cells cur 81 (0, 0)) ∧ l.length ≤ cap ∧ cap ≤ maxLen ∧ cur.size = cap * 3 ∧ cur.toList.take (l.length * 3) = tcs l := by
    rcases h.2 with ⟨h0, _⟩ | ⟨g', cap', cur, h0, _, h2, h3, h4, h5, h6⟩
    · cases h0
    · cases h0; exact ⟨cur, h2, h3, h4, h5, h6⟩
  have hgl : g < w.heap.size := (Array.getElem?_eq_some_iff.1 hgg).1
  have hvl := hv.lt
  have hdl := tcs_len (l.drop i)
  rw [List.length_drop] at hdl
  have htl := tcs_len (l.take i)
  rw [List.length_take, Nat.min_eq_left (Nat.le_of_lt hil)] at htl
  obtain ⟨i0, hi0, hz0, hz1, hz2⟩ := info_parts info81
  obtain ⟨G, hG⟩ : ∃ G, G = grownCap w (l.length + 1) cap 81 := ⟨_, rfl⟩
  have hGe : l.length + 1 ≤ G := by rw [hG]; exact grownCap_ge w _ _ _
  have hGm : G ≤ maxLen := by rw [hG]; exact grownCap_le_maxLen w _ _ _ (by unfold maxLen; omega)
  have hold : (Builtin.firstCells i0.size i (.slice (some ⟨g, 0, none⟩) i cap)).run Tryd.prog w.drew = .ok (tcs (l.take i)).toArray w.drew := by
    rw [hz1]
    refine run_firstCells_some w.drew 3 i ⟨g, 0, none⟩ i cap (tcs (l.take i)) (by rw [htl]) (seg_src (w := w.drew) hgg 0 _ ?_)
    rw [List.drop_zero, htl, tcs_take, ← htk, List.take_take, Nat.min_eq_left (by omega)]
  obtain ⟨Z, hZ⟩ : ∃ Z : Array Value, Z = Builtin.zeroCells (Value.agg #[.string ⟨#[]⟩, .string ⟨#[]⟩, .int .u64 0]).cells (l.length + 1 - i) ++ Builtin.zeroCells (Value.agg #[.string ⟨#[]⟩, .string ⟨#[]⟩, .int .u64 0]).cells (G - (l.length + 1)) := ⟨_, rfl⟩
  have hZl : Z.toList.length = (G - i) * 3 := by rw [hZ]; simp [Builtin.zeroCells, Value.cells]; omega
  obtain ⟨W1, hW1⟩ : ∃ W1, W1 = w.drew.alloc (.cells (tcs (l.take i) ++ Z.toList).toArray 81) := ⟨_, rfl⟩
  have hap : ∀ ty, (Builtin.append_ #[60, 3] ty #[.slice (some ⟨g, 0, none⟩) i cap, .int .i64 ((l.length : Int) + 1 - i)]).run Tryd.prog w = .ok (.slice (some ⟨w.heap.size, 0, none⟩) (l.length + 1) G) W1 := fun ty => by
    have hh := Lib.run_append_grow_zeros (P := Tryd.prog) w 60 3 ty 81 i0 _ .i64 .i64 Tryd.underlying60 Tryd.underlying3 hi0 hz0 (some ⟨g, 0, none⟩) i cap (tcs (l.take i)) hold (l.length + 1 - i) (by omega) (by omega) (by omega) (by omega) (by rw [hz2]; omega) (by rw [hz2, show i + (l.length + 1 - i) = l.length + 1 by omega]; exact growslice_fits hroom (by omega))
    rw [show i + (l.length + 1 - i) = l.length + 1 by omega, ← hG] at hh
    rw [show (l.length : Int) + 1 - i = ((l.length + 1 - i : Nat) : Int) by omega, hh, hW1, hZ]
    congr 3
    simp
  have hN1 : W1.heap[w.heap.size]? = some (.cells (tcs (l.take i) ++ Z.toList).toArray 81 (0, 0)) := by rw [hW1]; exact heap_alloc_new w.drew _
  have hv1 : Blk W1 vb 81 t.c := by rw [hW1]; exact (Blk.alloc (w := w.drew) hv _)
  have hg1 : W1.heap[g]? = some (.cells cur 81 (0, 0)) := by rw [hW1]; exact (Below.heap_alloc w.drew _ g hgl).trans hgg
  have U1 : Upd (fun k => k = g) w W1 := by rw [hW1]; exact (Upd.refl (fun k => k = g) w).drew.alloc _
  have hcp1 : ∀ ty dl dc, 1 ≤ dl → (Builtin.copy_ #[60, 60] ty #[.slice (some ⟨w.heap.size, i * 3, none⟩) dl dc, .slice (some ⟨vb, 0, none⟩) 1 1]).run Tryd.prog W1 = .ok (goInt 1) (W1.setRow w.heap.size (lay (tcs (l.take i) ++ Z.toList) (i * 3) t.c).toArray) := fun ty dl dc hdl1 => by
    have hm : Nat.min 1 dl = 1 := Nat.min_eq_left hdl1
    have := run_copy3 W1 ty w.heap.size (i * 3) dl dc ⟨vb, 0, none⟩ 1 1 _ 81 t.c hN1 (by rw [hm]; rfl) (blk_src hv1) (by simp only [List.size_toArray, List.length_append, htl, hZl]; simp [Tm.c]; omega) (fun u hu => by simp [Tm.c] at hu; rcases hu with rfl | rfl | rfl <;> rfl)
    rw [hm] at this
    exact this
  obtain ⟨W2, hW2⟩ : ∃ W2, W2 = W1.setRow w.heap.size (lay (tcs (l.take i) ++ Z.toList) (i * 3) t.c).toArray := ⟨_, rfl⟩
  have hl1 : (lay (tcs (l.take i) ++ Z.toList) (i * 3) t.c).length = G * 3 := by
    rw [lay_len _ _ _ (by simp only [List.length_append, htl, hZl]; simp [Tm.c]; omega), List.length_append, htl, hZl]; omega
  have hN2 : W2.heap[w.heap.size]? = some (.cells (lay (tcs (l.take i) ++ Z.toList) (i * 3) t.c).toArray 81 (0, 0)) := by rw [hW2]; exact setRow_get hN1 _
  have hg2 : W2.heap[g]? = some (.cells cur 81 (0, 0)) := by rw [hW2, setRow_other _ (by omega)]; exact hg1
  have U2 : Upd (fun k => k = g) w W2 := by rw [hW2]; exact U1.setRow (fun hh => by omega) _
  have hcp2 : ∀ ty dl dc sc, l.length - i ≤ dl → (Builtin.copy_ #[60, 60] ty #[.slice (some ⟨w.heap.size, (i + 1) * 3, none⟩) dl dc, .slice (some ⟨g, i * 3, none⟩) (l.length - i) sc]).run Tryd.prog W2.drew = .ok (goInt (l.length - i : Nat)) (W2.drew.setRow w.heap.size (lay (lay (tcs (l.take i) ++ Z.toList) (i * 3) t.c) ((i + 1) * 3) (tcs (l.drop i))).toArray) := fun ty dl dc sc hdl1 => by
    have hm : Nat.min (l.length - i) dl = l.length - i := Nat.min_eq_left hdl1
    have := run_copy3 W2.drew ty w.heap.size ((i + 1) * 3) dl dc ⟨g, i * 3, none⟩ (l.length - i) sc _ 81 (tcs (l.drop i)) hN2 (by rw [hm, hdl]) (seg_src (w := W2.drew) hg2 (i * 3) _ (by rw [hdl, tcs_drop, ← htk, List.drop_take, show (l.length - i) * 3 = l.length * 3 - i * 3 by omega])) (by rw [List.size_toArray, hl1, hdl]; omega) (tcs_one _)
    rw [hm] at this
    exact this
  rw [← hW1] at *
  rw [← hW2] at hcp1
  have HP : Hid (InsPost w (.slice (some ⟨g, 0, none⟩) l.length cap) l i t (.returned (.slice (some ⟨w.heap.size, 0, none⟩) (l.length + 1) G)) (W2.drew.setRow w.heap.size (lay (lay (tcs (l.take i) ++ Z.toList) (i * 3) t.c) ((i + 1) * 3) (tcs (l.drop i))).toArray)) := by
    refine ⟨_, rfl, ⟨?_, .inr ⟨w.heap.size, G, _, rfl, Nat.zero_le _, setRow_get (w := W2.drew) hN2 _, hGe, hGm, ?_, ?_⟩⟩, ?_, .inr ⟨_, rfl, Nat.le_refl _⟩⟩
    · rw [tcs_len]; unfold tins; simp; omega
    · rw [List.size_toArray, lay_len _ _ _ (by rw [hl1, hdl]; omega), hl1]
    · rw [List.toList_toArray]; exact lay_grow l i t Z.toList (by omega) (by rw [hZl]; omega)
    · exact (U2.drew.setRow (fun hh => by omega) _).mono (fun k _ e => by subst e; rfl)
  have hiz : (i : Int) < (l.length : Int) := by omega
  have hrz : (cap : Int) < ((l.length : Int) + 1) := by omega
  have hicap : (i : Int) ≤ (cap : Int) := by omega
  have hne1 : ¬ (cap = i) := by omega
  have hneG : ¬ (G = i) := by omega
  have hneG2 : ¬ (G = i + 1) := by omega
  have hne3 : ¬ ((i : Int) = (l.length : Int)) := by omega
  have hw1 : IntKind.i64.wrap ((i : Int) + 1) = (i : Int) + 1 := by rw [IntKind.wrap_i64]; omega
  have htn : ((i : Int) + 1).toNat = i + 1 := by omega
  have hb1 : (0 : Int) ≤ (i : Int) + 1 := by omega
  have hin : i ≤ l.length := by omega
  have hinz : (i : Int) ≤ (l.length : Int) := by omega
  have hb3 : (i : Int) ≤ (l.length : Int) + 1 := by omega
  have hGz : (l.length : Int) + 1 ≤ (G : Int) := by omega
  have hq1 : 1 ≤ l.length + 1 - i := by omega
  have hq2 : l.length - i ≤ l.length - i := Nat.le_refl _
  clear hW1 hW2 hcs htk hdl hz0 hz1 hz2 hi0 hg1 hv1 U1 hl1 h hv hold hZl hZ hN1 hN2 hg2 U2 hG
  generalize l.length = N at *
  go_enter Tryd.func58, Tryd.ntmps58
  go_wp2_with (first
    | (at_builtin; refine Lib.wpList_append_run _ rfl _ _ _ _ rfl _ _ rfl rfl _ _ (hap _) ?_)
    | (at_builtin; refine wpList_copy_runI _ rfl _ _ 60 60 rfl _ _ rfl rfl (hcp1 _ _ _ hq1) ?_))
  go_region_law ((refine step_copy_runI rfl _ _ 60 60 rfl _ _ (by simp [Act.eval, Act.put]) (by simp [Act.eval, Act.put]) (hcp2 _ _ _ _ hq2) ?_))
  go_wp2_with fail
  go_ret
  exact HP.out
/-- Insert of one, anywhere. -/
theorem insert_any {w : World} {rv : Value} {l : List Tm} (h : w.ownsRow 0 81 3 rv l.length (tcs l)) (i : Nat) (hil : i ≤ l.length) (t : Tm) {vb : Nat} (hv : Blk w vb 81 t.c) (hvb : rv.ownBlock ≠ some vb) (hl : l.length ≤ 10000) :
    Calls Tryd.prog 58 #[rv, .int .i64 i, .slice (some ⟨vb, 0, none⟩) 1 1] w (InsPost w rv l i t) := by
  rcases Nat.lt_or_ge i l.length with hi | hi
  · rcases h.2 with ⟨_, h0⟩ | ⟨g, cap, cur, rfl, _⟩
    · omega
    · rcases Nat.lt_or_ge cap (l.length + 1) with hc | hc
      · exact insert_grow h i hi hc t hv hl
      · exact insert_room h i hi hc t hv (fun e => hvb (by rw [e]; rfl)) hl
  · obtain rfl : i = l.length := by omega
    exact insert_end h t hv hl
end Go.Proofs.YtocanjefonlnaaaDoor
