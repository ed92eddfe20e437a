import Derived.Test.YtkpijoogaicodaaBk
import Derived.BigRegion
import Derived.Test.YtkpijoogaicodaaHb
namespace Go.Proofs.Ytkpijoogaicodaa
open Go.RowKit
set_option linter.unusedVariables false
set_option linter.unusedSimpArgs false

/-- What Back needs of a list of records, however it lies. -/
structure Cut (w : World) (ra : Option Addr) (rc : Nat) (rs : List Rec) (m : Nat) (ga : Option Addr) (gc : Nat) : Prop where
  lo : ∀ W, (Instr.sliceAt 23 (.slice ra rs.length rc) (some (.int .i64 m)) none none).run Try.prog W = .ok (.slice ga (rs.length - m) gc) W
  rd : RdR w (.slice ga (rs.length - m) gc) (rs.drop m)
  hi : ∀ W, (Instr.sliceAt 23 (.slice ra rs.length rc) none (some (.int .i64 m)) none).run Try.prog W = .ok (.slice ra m rc) W
  own : ∀ k, Value.ownBlock (.slice ga (rs.length - m) gc) = some k → Value.ownBlock (.slice ra rs.length rc) = some k
  clr : ∀ (W : World) (ty : TypeId), W.ownsRow 0 31 4 (.slice ra rs.length rc) rs.length (rcs rs) → ∃ W', (Builtin.clear_ #[23] ty #[.slice ga (rs.length - m) gc]).run Try.prog W = .ok (.tuple #[]) W' ∧ W'.ownsRow 0 31 4 (.slice ra m rc) m (rcs (rs.take m)) ∧ W.grownBy W' (Value.ownBlock (.slice ra rs.length rc))
theorem cut_any {w : World} {ra : Option Addr} {rc : Nat} {rs : List Rec} (h : w.ownsRow 0 31 4 (.slice ra rs.length rc) rs.length (rcs rs)) (m : Nat) (hm : m ≤ rs.length) : ∃ ga gc, Cut w ra rc rs m ga gc := by
  have h' := h
  rcases h.2 with ⟨hv, h0⟩ | ⟨g, cap, cur, hv, hb, hg, h2, h3, h4, h5⟩
  · simp only [Value.slice.injEq] at hv
    obtain ⟨rfl, _, rfl⟩ := hv
    have hr : rs = [] := List.eq_nil_of_length_eq_zero h0
    subst hr
    have hm0 : m = 0 := by simpa using hm
    subst hm0
    refine ⟨none, 0, ?_, .inl ⟨_, _, rfl, rfl⟩, fun W => cut_hi none 0 0 0 (Nat.le_refl _) W, fun k hk => hk, fun W ty hW => ⟨W, by simp [Builtin.clear_, run_underlying Try.underlying23], hW, ⟨rfl, rfl, rfl, Nat.le_refl _, fun _ _ _ => rfl⟩⟩⟩
    intro W
    have hs : (sizeOf 31).run Try.prog W = .ok 4 W := by kernel_rfl
    have hr := run_slice_l (P := Try.prog) W 23 none 0 0 slc23 .i64 ((0 : Nat) : Int) (by omega) (by omega)
    rw [elem23, hs] at hr
    rw [run_sliceAt_slice _ _ _ _ _ _ slc23]
    exact hr
  · simp only [Value.slice.injEq] at hv
    obtain ⟨rfl, _, rfl⟩ := hv
    refine ⟨cutA g rc m, rc - m, fun W => cut_low g rs.length rc m hm W, ?_, fun W => cut_hi _ _ _ _ (by omega) W, ?_, fun W ty hW => clear_tail hW rfl hm _ (fun hlt => cutA_lt (by omega)) _ ty⟩
    · by_cases hmn : m < rs.length
      · rw [cutA_lt (by omega)]
        refine .inr ⟨g, m * 4, rc - m, by rw [List.length_drop], (h'.lt g rfl).2, fun j hj => ?_⟩
        have hj' : m + j < rs.length := by rw [List.length_drop] at hj; omega
        have hr := row_rat h' (m + j) hj'
        rw [List.getElem_drop]
        have e : 0 + (m + j) * 4 = m * 4 + j * 4 := by omega
        rw [e] at hr
        exact hr
      · have e : rs.length - m = 0 := by omega
        rw [e, List.drop_eq_nil_of_le (by omega)]
        exact .inl ⟨_, _, rfl, rfl⟩
    · intro k hk
      unfold cutA at hk
      split at hk <;> simpa [Value.ownBlock] using hk
theorem marks_last {w : World} {mv : Value} {ms : List Nat} {m : Nat} (h : w.ownsRow 0 3 1 mv (ms ++ [m]).length (imc (ms ++ [m]))) : ∃ g c, mv = .slice (some ⟨g, 0, none⟩) (ms.length + 1) c ∧ w.cell? ⟨g, ms.length, none⟩ = some (.int .i64 m) ∧ ms.length + 1 ≤ c ∧ c ≤ maxLen := by
  have hc := fun g => World.ownsRow.cells h (g := g)
  rcases h.2 with ⟨rfl, h0⟩ | ⟨g, cap, cur, rfl, hb, hg, h2, h3, h4, h5⟩
  · simp at h0
  · refine ⟨g, cap, by simp, ?_, by simpa using h2, h3⟩
    have := hc g rfl ms.length (.int .i64 m) (by simp [imc])
    rw [add_at] at this
    simpa using this
set_option maxRecDepth 100000 in
set_option maxHeartbeats 1000000 in
theorem back_none {w : World} {b : Nat} {rv mv : Value} {rs : List Rec} (h : Bt w b rv mv rs []) :
    Calls Try.prog 23 #[ptr b] w fun e w' => e = .returned (.int .i64 6) ∧ w' = w := by
  have c2 := h.blk.cell1 2 _ rfl
  obtain ⟨ma, mc, hmv⟩ := row_len h.marks
  have hmv' : mv = .slice ma 0 mc := hmv
  subst hmv'
  go_enter Try.func23, Try.ntmps23
  go_wp2
  go_ret
  exact ⟨rfl, rfl⟩
theorem own_slice (ra : Option Addr) (n m c : Nat) : Value.ownBlock (.slice ra m c) = Value.ownBlock (.slice ra n c) := by cases ra <;> rfl
def OfA (b : Nat) (rv mv : Value) : Nat → Prop := fun k => k = b ∨ rv.ownBlock = some k ∨ mv.ownBlock = some k
set_option maxRecDepth 100000 in
set_option maxHeartbeats 2000000 in
theorem back_any {w : World} {b : Nat} {rv mv : Value} {rs : List Rec} {ms : List Nat} {m : Nat} (h : Bt w b rv mv rs (ms ++ [m])) (hm : m ≤ rs.length) (hg : Good rs) (hf : ∀ r ∈ rs, Fine r) :
    Calls Try.prog 23 #[ptr b] w fun e w' => ∃ rv' mv', e = .returned (.int .i64 0) ∧ Bt w' b rv' mv' (rs.take m) ms ∧ Upd (OfA b rv mv) w w' ∧ rv'.ownBlock = rv.ownBlock ∧ mv'.ownBlock = mv.ownBlock := by
  have c0 := h.blk.cell1 0 _ rfl
  have c1 := h.blk.cell1 1 _ rfl
  have c2 := h.blk.cell1 2 _ rfl
  have lb := h.blk.lt
  obtain ⟨ra, rc, rfl⟩ := (row_rd h.row).len
  obtain ⟨gm, mc, rfl, cm, hmc1, hmc2⟩ := marks_last h.marks
  obtain ⟨ga, gc, C⟩ := cut_any h.row m hm
  have hcl := C.lo
  have hch := C.hi
  have hgl := hg.len
  have hgs := hg.size
  have HS := fun W (hb : Below w.heap.size w W) => recordsSize_any (C.rd.below hb) (by rw [List.length_drop]; omega) (fun r hr => hf r (List.mem_of_mem_drop hr))
  have hsz : szs rs = szs (rs.take m) + szs (rs.drop m) := by rw [← szs_app, List.take_append_drop]
  have hmc3 : (mc : Int) ≤ 9223372036854775807 := by unfold maxLen at hmc2; omega
  have hmc4 : (ms.length : Int) + 1 ≤ (mc : Int) := by omega
  have t0 : ((ms.length : Int) + 1 == 0) = false := by simp; omega
  have e1 : IntKind.i64.wrap ((ms.length : Int) + 1 - 1) = (ms.length : Int) := by rw [w64 _ (by omega) (by omega)]; omega
  have hclr := C.clr
  have hown := C.own
  have e2 : IntKind.i64.wrap ((szs rs : Int) - (szs (rs.drop m) : Int)) = (szs (rs.take m) : Int) := by rw [w64 _ (by omega) (by omega)]; omega
  clear C
  obtain ⟨d, hd⟩ : ∃ d, rs.length - m = d := ⟨_, rfl⟩
  rw [hd] at hcl HS hclr hown
  have e3 : IntKind.i64.wrap ((rs.length : Int) - (d : Int)) = (m : Int) := by rw [w64 _ (by omega) (by omega)]; omega
  clear hd hsz
  have bD : ∀ n, Below w.heap.size w (w.drewN n).drew := fun n => (belN (Below.refl _ _) n).drew
  go_enter Try.func23, Try.ntmps23
  go_wp2
  go_quiet (fail)
  go_wp2
  go_cut [33] (fun _ wc => Blk wc b 43 (btC (.slice ra rs.length rc) (szs (rs.take m)) (.slice (some ⟨gm, 0, none⟩) (ms.length + 1) mc)) ∧ Upd (fun k => k = b) w wc)
  case first =>
    go_region_with ((go_at_call 27; refine (HS _ (bD _)).mono ?_; rintro e w1 ⟨rfl, hb1⟩; have b1 := bstep (bD _) hb1; have B1 := (h.below b1).blk; have d1 := B1.cell1 1 _ rfl; have f1 := B1.frozen 1))
    all_goals
      go_wp2
      go_meet
      case rel => exact ⟨B1.set 1 (.int .i64 (szs (rs.take m))), Upd.setCell (S := fun k => k = b) (p := ⟨b, 1, none⟩) (Upd.ofBelow b1) (fun _ => rfl) _⟩
  case rest =>
    obtain ⟨B1, U1⟩ := hcut
    have nrb := row_ne h.row h.blk (by decide)
    have nmb := row_ne h.marks h.blk (by decide)
    have nrm := row_row_ne h.marks h.row (by decide)
    have R1 := row_upd h.row U1 (fun k hk e => nrb k hk e)
    have M1 := row_upd h.marks U1 (fun k hk e => nmb k hk e)
    clear c0 c1 c2 cm HS bD hcl hown
    obtain ⟨w2, hrun, R2, g2⟩ := hclr wc 0 R1
    have G2 : Upd (fun k => Value.ownBlock (.slice ra rs.length rc) = some k) wc w2 := (Upd.refl _ _).grown g2 (fun k hk _ => hk)
    have B2 := B1.upd G2 (fun hk => nrb b hk rfl)
    have M2 := row_upd M1 G2 (fun k hk e => nrm k hk e)
    have d0 := B2.cell1 0 _ rfl
    have f0 := B2.frozen 0
    clear hclr
    have U3 : Upd (fun k => k = b) w2 (w2.setCell ⟨b, 0, none⟩ (.slice ra m rc)).drew := (Upd.setCell (p := ⟨b, 0, none⟩) (Upd.refl (fun k => k = b) w2) (fun _ => rfl) _).drew
    have B3 : Bt (w2.setCell ⟨b, 0, none⟩ (.slice ra m rc)).drew b (.slice ra m rc) (.slice (some ⟨gm, 0, none⟩) (ms.length + 1) mc) (rs.take m) (ms ++ [m]) := by
      have el : (rs.take m).length = m := by rw [List.length_take]; omega
      refine ⟨(B2.set 0 (.slice ra m rc)).drew, ?_, row_upd M2 U3 (fun k hk e => nmb k hk e)⟩
      rw [el]
      exact row_upd R2 U3 (fun k hk e => nrb k ((own_slice ra rs.length m rc) ▸ hk) e)
    have HP := pop_any B3
    go_wp2
    go_region
    go_wp2_with (go_at_call 49; refine HP.mono ?_; rintro e w4 ⟨mv', rfl, g1, g2', g3⟩)
    go_ret
    refine ⟨.slice ra m rc, mv', rfl, g1, ?_, own_slice _ _ _ _, g3⟩
    have V1 : Upd (OfA b (.slice ra rs.length rc) (.slice (some ⟨gm, 0, none⟩) (ms.length + 1) mc)) w wc := U1.mono (fun k _ hk => .inl hk)
    have V2 := V1.trans (G2.mono (fun k _ hk => .inr (.inl hk)))
    have V3 := V2.trans (U3.mono (fun k _ hk => .inl hk))
    exact V3.trans (g2'.mono (fun k _ hk => .inl hk))
end Go.Proofs.Ytkpijoogaicodaa
namespace Go.Proofs.Ytkpijoogaicodaa
open Go.RowKit
set_option linter.unusedVariables false
set_option linter.unusedSimpArgs false

set_option maxRecDepth 100000 in
set_option maxHeartbeats 400000 in
theorem delete_any {w : World} {b : Nat} {rv mv : Value} {rs : List Rec} {ms : List Nat} (h : Bt w b rv mv rs ms) (hg : Good rs) (f : Int) (key : ByteArray) (f0 : 0 ≤ f) (f1 : f < 4294967296) :
    Calls Try.prog 65 #[ptr b, .int .u32 f, .string key] w (AddPost w b rv mv rs ms ⟨f, 0, key, ⟨#[]⟩⟩) := by
  have HA := add_any h hg ⟨f, 0, key, ⟨#[]⟩⟩ f0 f1
  dsimp only at HA
  go_enter Try.func65, Try.ntmps65
  go_wp2_with (go_at_call 19; refine HA.mono ?_; rintro e w' ⟨rv', rfl, h1, h2, h3⟩)
  go_ret
  exact ⟨rv', rfl, h1, h2, h3⟩
set_option maxRecDepth 100000 in
set_option maxHeartbeats 400000 in
theorem deleteRange_any {w : World} {b : Nat} {rv mv : Value} {rs : List Rec} {ms : List Nat} (h : Bt w b rv mv rs ms) (hg : Good rs) (f : Int) (key val : ByteArray) (f0 : 0 ≤ f) (f1 : f < 4294967296) :
    Calls Try.prog 66 #[ptr b, .int .u32 f, .string key, .string val] w (AddPost w b rv mv rs ms ⟨f, 2, key, val⟩) := by
  have HA := add_any h hg ⟨f, 2, key, val⟩ f0 f1
  dsimp only at HA
  go_enter Try.func66, Try.ntmps66
  go_wp2_with (go_at_call 19; refine HA.mono ?_; rintro e w' ⟨rv', rfl, h1, h2, h3⟩)
  go_ret
  exact ⟨rv', rfl, h1, h2, h3⟩
set_option maxRecDepth 100000 in
set_option maxHeartbeats 400000 in
theorem len_any {w : World} {b : Nat} {rv mv : Value} {rs : List Rec} {ms : List Nat} (h : Bt w b rv mv rs ms) :
    Calls Try.prog 52 #[ptr b] w fun e w' => e = .returned (.int .i64 rs.length) ∧ w' = w := by
  obtain ⟨a, c, rfl⟩ := row_len h.row
  have c0 := h.blk.cell1 0 _ rfl
  go_enter Try.func52, Try.ntmps52
  go_wp2
  go_ret
  exact ⟨rfl, rfl⟩
set_option maxRecDepth 100000 in
set_option maxHeartbeats 400000 in
theorem clear_any {w : World} {b : Nat} {rv mv : Value} {rs : List Rec} {ms : List Nat} (h : Bt w b rv mv rs ms) :
    Calls Try.prog 46 #[ptr b] w fun e w' => (∃ v, e = .returned v) ∧ Bt w' b nilv nilv [] [] ∧ Upd (fun k => k = b) w w' := by
  have c0 := h.blk.cell1 0 _ rfl
  have c1 := h.blk.cell1 1 _ rfl
  have c2 := h.blk.cell1 2 _ rfl
  have f0 := h.blk.frozen 0
  have f1 := h.blk.frozen 1
  have f2 := h.blk.frozen 2
  go_enter Try.func46, Try.ntmps46
  go_wp2
  go_end0
  refine ⟨⟨_, rfl⟩, ⟨((h.blk.set 0 _).set 1 _).set 2 _, World.ownsRow_nil _ _ _ _, World.ownsRow_nil _ _ _ _⟩, ?_⟩
  exact Upd.setCell (p := ⟨b, 2, none⟩) (Upd.setCell (p := ⟨b, 1, none⟩) (Upd.setCell (p := ⟨b, 0, none⟩) (Upd.refl (fun k => k = b) w) (fun _ => rfl) _) (fun _ => rfl) _) (fun _ => rfl) _
/-- The reference's Batch. -/
structure Qt (w : World) (q : Nat) (rv mv : Value) (rs : List Rec) (ms : List Nat) : Prop where
  blk : Blk w q 46 [rv, mv]
  row : RdR w rv rs
  marks : w.ownsRow 0 3 1 mv ms.length (imc ms)
  ne : rv.ownBlock ≠ some q
  cap : ∀ a n c, rv = .slice a n c → n ≤ c
  lt : ∀ k, rv.ownBlock = some k → k < w.heap.size
theorem Qt.upd {S : Nat → Prop} {w w' : World} {b : Nat} {rv mv : Value} {rs : List Rec} {ms : List Nat} (h : Qt w b rv mv rs ms) (u : Upd S w w') (hb : ¬ S b) (h1 : ∀ k, rv.ownBlock = some k → ¬ S k) (h2 : ∀ k, mv.ownBlock = some k → ¬ S k) : Qt w' b rv mv rs ms :=
  ⟨h.blk.upd u hb, h.row.upd u h1, row_upd h.marks u h2, h.ne, h.cap, fun k hk => Nat.lt_of_lt_of_le (h.lt k hk) u.size⟩
theorem Qt.below {w w' : World} {b : Nat} {rv mv : Value} {rs : List Rec} {ms : List Nat} (h : Qt w b rv mv rs ms) (u : Below w.heap.size w w') : Qt w' b rv mv rs ms :=
  h.upd (S := Non) (Upd.ofBelow u) (fun hh => hh) (fun _ _ hh => hh) (fun _ _ hh => hh)
theorem Qt.new (w : World) : Qt (w.alloc (.cells #[.slice none 0 0, .slice none 0 0] 46)) w.heap.size (.slice none 0 0) (.slice none 0 0) [] [] :=
  ⟨Blk.new w 46 _, .inl ⟨_, _, rfl, rfl⟩, World.ownsRow_nil _ _ _ _, by simp [Value.ownBlock], fun a n c e => by cases e; exact Nat.le_refl _, fun k hk => by simp [Value.ownBlock] at hk⟩
set_option maxRecDepth 100000 in
set_option maxHeartbeats 400000 in
theorem qpop_none {w : World} {q : Nat} {rv mv : Value} {rs : List Rec} (h : Qt w q rv mv rs []) (all : Bool) :
    Calls Try.prog 48 #[ptr q, .bool all] w fun e w' => e = .returned (.int .i64 6) ∧ w' = w := by
  obtain ⟨a, c, rfl⟩ := row_len h.marks
  have c1 := h.blk.cell1 1 _ rfl
  go_enter Try.func48, Try.ntmps48
  go_wp2
  go_ret
  exact ⟨rfl, rfl⟩
end Go.Proofs.Ytkpijoogaicodaa
namespace Go.Proofs.Ytkpijoogaicodaa
open Go.RowKit
set_option linter.unusedVariables false
set_option linter.unusedSimpArgs false

theorem row_set {w : World} {base : Nat} {e : TypeId} {size g n cap : Nat} {xs : List Value} (h : w.ownsRow base e size (.slice (some ⟨g, 0, none⟩) n cap) n xs) (i : Nat) (u : Value) : (w.setCell ⟨g, i, none⟩ u).ownsRow base e size (.slice (some ⟨g, 0, none⟩) n cap) n (xs.set i u) := by
  obtain ⟨hl, ⟨hv, _⟩ | ⟨g', cap', cur, hv, hb, hg, h2, h3, h4, h5⟩⟩ := h
  · cases hv
  · cases hv
    have hB : Blk w g e cur.toList := by unfold Blk; simpa using hg
    have hB2 := hB.set i u
    refine ⟨by rw [List.length_set]; exact hl, .inr ⟨g, cap, (cur.toList.set i u).toArray, rfl, hb, hB2, h2, h3, by simpa using h4, ?_⟩⟩
    rw [← h5]
    simp [List.take_set]
theorem rcs_set : ∀ (l : List Rec) (k : Nat) (r : Rec), k < l.length → rcs (l.set k r) = ((((rcs l).set (k * 4) (.int .u32 r.fam)).set (k * 4 + 1) (.int .i64 r.kind)).set (k * 4 + 2) (.string r.key)).set (k * 4 + 3) (.string r.val)
  | [], k, r, h => by simp at h
  | x :: l, 0, r, h => by simp [rcs, Rec.c]
  | x :: l, k + 1, r, h => by
    have ih := rcs_set l k r (by simpa using h)
    have e : (k + 1) * 4 = k * 4 + 1 + 1 + 1 + 1 := by omega
    simp only [List.set_cons_succ, rcs, Rec.c, e, List.cons_append, List.nil_append, ih]
theorem row_put {w : World} {base g n cap : Nat} {l : List Rec} (h : w.ownsRow base 31 4 (.slice (some ⟨g, 0, none⟩) n cap) n (rcs l)) (k : Nat) (hk : k < l.length) (r : Rec) :
    ((((w.setCell ⟨g, k * 4, none⟩ (.int .u32 r.fam)).setCell ⟨g, k * 4 + 1, none⟩ (.int .i64 r.kind)).setCell ⟨g, k * 4 + 2, none⟩ (.string r.key)).setCell ⟨g, k * 4 + 3, none⟩ (.string r.val)).ownsRow base 31 4 (.slice (some ⟨g, 0, none⟩) n cap) n (rcs (l.set k r)) := by
  rw [rcs_set l k r hk]
  exact row_set (row_set (row_set (row_set h _ _) _ _) _ _) _ _
/-- What the reference's Add answers, and what it leaves. -/
def qadE (rs l : List Rec) : Int := if fbad l ≠ 0 then fbad l else if 4096 < rs.length + l.length ∨ 4194304 < 12 + szs (rs ++ l) then 2 else 0
def qadL (rs l : List Rec) : List Rec := if qadE rs l = 0 then (rs ++ l).map plainR else rs
def QAddPost (w : World) (q : Nat) (rv mv : Value) (rs : List Rec) (ms : List Nat) (l : List Rec) : Ending → World → Prop := fun e w' => ∃ rv', e = .returned (.int .i64 (qadE rs l)) ∧ Qt w' q rv' mv (qadL rs l) ms ∧ Upd (fun k => k = q) w w' ∧ (rv' = rv ∨ ∀ j, rv'.ownBlock = some j → w.heap.size ≤ j)
theorem QAddPost.no {w w' : World} {q : Nat} {rv mv : Value} {rs : List Rec} {ms : List Nat} {l : List Rec} {E : Int} (h : Qt w q rv mv rs ms) (hE : qadE rs l = E) (h0 : E ≠ 0) (hb : Below w.heap.size w w') : QAddPost w q rv mv rs ms l (.returned (.int .i64 E)) w' := by
  subst hE
  refine ⟨rv, rfl, ?_, Upd.ofBelow hb, .inl rfl⟩
  unfold qadL
  rw [if_neg h0]
  exact h.below hb
def mixP (l : List Rec) (k : Nat) : List Rec := (l.take k).map plainR ++ l.drop k
theorem mixP_len (l : List Rec) (k : Nat) : (mixP l k).length = l.length := by simp [mixP]; omega
theorem mixP_zero (l : List Rec) : mixP l 0 = l := by simp [mixP]
theorem mixP_all (l : List Rec) : mixP l l.length = l.map plainR := by unfold mixP; rw [List.take_length, List.drop_length, List.append_nil]
theorem mixP_get (l : List Rec) (k : Nat) (h : k < l.length) : (mixP l k)[k]'(by rw [mixP_len]; exact h) = l[k] := by
  unfold mixP
  rw [List.getElem_append_right (by simp; omega)]
  simp
  congr 1
  omega
theorem mixP_step (l : List Rec) (k : Nat) (h : k < l.length) : (mixP l k).set k (plainR l[k]) = mixP l (k + 1) := by
  unfold mixP
  rw [List.set_append_right _ _ (by simp; omega)]
  have e : ((l.take k).map plainR).length = k := by simp; omega
  rw [e, Nat.sub_self, List.drop_eq_getElem_cons h, List.set_cons_zero, List.take_succ_eq_append_getElem h, List.map_append, List.append_assoc]
  rfl
end Go.Proofs.Ytkpijoogaicodaa
