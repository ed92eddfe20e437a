import Derived.Test.YtocanjefonlnaaaDoorK
import Derived.Shelf.Abstract
namespace Go.Proofs.YtocanjefonlnaaaDoor
open Go.RowKit
set_option linter.unusedVariables false
set_option linter.unusedSimpArgs false
set_option maxRecDepth 100000 in
theorem step_call58 {ops : Array Oper} {o : Oper} {a : Act} {w : World} {K : Act → World → Prop} {Q : Exit → Act → World → Prop} {Ex : Prop} (hgd : o.guard = none) {d : Nat} (hd' : o.dst = some d) (x y z : Operand) (ts : Array TypeId)
    (ho : o.op = .call { callee := .value (.func 58), args := #[x, y, z], argTypes := ts }) (v1 v2 v3 : Value) (hx : a.eval x = v1) (hy : a.eval y = v2) (hz : a.eval z = v3) {R : Ending → World → Prop} (hc : Calls Tryd.prog 58 #[v1, v2, v3] w R)
    (h : ∀ e w', R e w' → ∃ r, e = .returned r ∧ K (a.put (some d) r) w') :
    if Region.wanted o (yielded ops a.tmps) = true then Oper.wp Tryd.prog o a w K Q else Ex := by
  have hw : Region.wanted o (yielded ops a.tmps) = true := by simp [Region.wanted, hgd]
  rw [if_pos hw]
  have he := enters_of (P := Tryd.prog) Tryd.func58 (by kernel_rfl) rfl #[v1, v2, v3]
  unfold Oper.wp execOp
  simp only [ho, resolve, invoke, Sem.run_bind, Sem.run_pure, Result.andThen_ok, List.map_toArray, List.map_cons, List.map_nil, hx, hy, hz, go_sem]
  show Oper.upon Tryd.prog o a K Q (Sem.run Tryd.prog (callFunc 58 (#[] ++ #[a.eval x, a.eval y, a.eval z] ++ #[])) w)
  rw [show (#[] ++ #[a.eval x, a.eval y, a.eval z] ++ #[] : Array Value) = #[v1, v2, v3] by simp [hx, hy, hz], he, Oper.upon_enter]
  refine hc.mono ?_
  intro e w' hR
  obtain ⟨r, rfl, hk⟩ := h e w' hR
  rw [← hd'] at hk
  exact hk
theorem row_slice {w : World} {base : Nat} {e : TypeId} {size : Nat} {v : Value} {n : Nat} {xs : List Value} (h : w.ownsRow base e size v n xs) : ∃ a c, v = .slice a n c := by
  rcases h.2 with ⟨rfl, rfl⟩ | ⟨g, cap, cur, rfl, _⟩
  · exact ⟨_, _, rfl⟩
  · exact ⟨_, _, rfl⟩
theorem keep4 {w w1 : World} (h : Below w.heap.size w w1) {b1 b2 b3 b4 o1 o2 o3 o4 : Nat} {v1 v2 v3 v4 : Value}
    (hc : w.cell? ⟨b1, o1, none⟩ = some v1 ∧ w.cell? ⟨b2, o2, none⟩ = some v2 ∧ w.cell? ⟨b3, o3, none⟩ = some v3 ∧ w.cell? ⟨b4, o4, none⟩ = some v4) :
    w1.cell? ⟨b1, o1, none⟩ = some v1 ∧ w1.cell? ⟨b2, o2, none⟩ = some v2 ∧ w1.cell? ⟨b3, o3, none⟩ = some v3 ∧ w1.cell? ⟨b4, o4, none⟩ = some v4 :=
  ⟨keepc h hc.1, keepc h hc.2.1, keepc h hc.2.2.1, keepc h hc.2.2.2⟩
set_option maxRecDepth 100000 in
set_option maxHeartbeats 2000000 in
theorem radd_any {w : World} {T : Nat} {C : Tc} {f : Nat → Value} (h : Blk w T 72 (tbC C f)) {l : List Tm} (hr : w.ownsRow 0 81 3 C.rv l.length (tcs l)) (x : Tm) (p : Nat) (hc : TCut C.how l x p) (hl : l.length ≤ 9000) :
    Calls Tryd.prog 47 #[rptr T, x.v] w fun e w' => (tis C.how l x p = true ∧ e = .returned (.bool false) ∧ Below w.heap.size w w') ∨
      (tis C.how l x p = false ∧ e = .returned (.bool true) ∧ ∃ rv', Blk w' T 72 (tbC { C with rv := rv' } f) ∧ w'.ownsRow 0 81 3 rv' (l.length + 1) (tcs (tins l p x)) ∧ Upd (fun k => k = T ∨ C.rv.ownBlock = some k) w w' ∧ (rv'.ownBlock = C.rv.ownBlock ∨ ∃ k, rv'.ownBlock = some k ∧ w.heap.size ≤ k)) := by
  have hT := h.lt
  have b0 : Below w.heap.size w (w.alloc (.cells #[.string x.b, .string x.e, .int .u64 x.s] 81)) := (Below.refl _ _).alloc (Nat.le_refl _) _
  have B1 : Blk (w.alloc (.cells #[.string x.b, .string x.e, .int .u64 x.s] 81)) w.heap.size 81 x.c := Blk.new w 81 x.c
  have HB : Hid (∀ W, Below w.heap.size w W → Calls Tryd.prog 56 #[C.rv, x.v, .func (.func 57) #[rptr T] #[]] W fun e w' => e = .returned (.tuple #[.int .i64 p, .bool (tis C.how l x p)]) ∧ Below W.heap.size W w') := fun W hb =>
    bsearch_any (keepc hb (h.cell1 17 _ rfl)) ((row_rdt hr).below hb) x p hc (by omega)
  have H : Hid (Blk w T 72 (tbC C f)) := h
  have HRow : Hid (w.ownsRow 0 81 3 C.rv l.length (tcs l)) := hr
  have HC : Hid (TCut C.how l x p) := hc
  clear h hr hc
  go_enter Tryd.func47, Tryd.ntmps47
  go_upto_region 1 with fail
  obtain ⟨W0, hW0⟩ : ∃ W0, W0 = w.alloc (.cells #[.string x.b, .string x.e, .int .u64 x.s] 81) := ⟨_, rfl⟩
  rw [← hW0] at b0 B1 ⊢
  clear hW0
  have BT := H.out.upd (S := Non) (Upd.ofBelow b0) (fun x => x)
  have x0 := B1.cell1 0 _ rfl
  have x1 := B1.cell1 1 _ rfl
  have x2 := B1.cell1 2 _ rfl
  have t18 := BT.cell1 18 _ rfl
  have HX : Hid (Blk W0 w.heap.size 81 x.c) := B1
  have HB0 : Hid (Below w.heap.size w W0) := b0
  obtain ⟨rv, hrv⟩ : ∃ rv, Hid (C.rv = rv) := ⟨_, rfl⟩
  rw [hrv.out] at t18 HB HRow
  obtain ⟨ti, hti⟩ : ∃ ti, tis C.how l x p = ti := ⟨_, rfl⟩
  rw [hti] at HB
  have HTI : Hid (tis C.how l x p = ti) := hti
  clear B1 BT b0 hti
  go_region_held_law (fun w' => w'.cell? ⟨T, 18, none⟩ = some rv ∧ w'.cell? ⟨w.heap.size, 0, none⟩ = some (.string x.b) ∧ w'.cell? ⟨w.heap.size, 1, none⟩ = some (.string x.e) ∧ w'.cell? ⟨w.heap.size, 2, none⟩ = some (.int .u64 x.s))
    (first | (go_keep; done) | (refine keep4 hb1 ?_ <;> assumption))
    ((go_at_call 56; refine (HB.out _ HB0.out.drew).mono ?_; rintro e w1 ⟨rfl, hb1⟩))
  have HB1 : Hid (Below w.heap.size w w1) := HB0.out.drew.trans (hb1.mono HB0.out.drew.size)
  have HX1 : Hid (Blk w1 w.heap.size 81 x.c) := (Blk.drew HX.out).upd (S := Non) (Upd.ofBelow hb1) (fun x => x)
  clear hb1 x0 x1 x2 t18 HX HB0 HB
  cases ti with
  | true =>
    go_wp2_with fail
    go_ret
    exact .inl ⟨HTI.out, rfl, HB1.out⟩
  | false =>
    go_wp2_with fail
    have y0 := HX1.out.cell1 0 _ rfl
    have y1 := HX1.out.cell1 1 _ rfl
    have y2 := HX1.out.cell1 2 _ rfl
    have BT := H.out.upd (S := Non) (Upd.ofBelow HB1.out) (fun x => x)
    have t18 := BT.cell1 18 _ rfl
    rw [hrv.out] at t18
    have hT1 := BT.lt
    have hX1 := HX1.out.lt
    have hTX : T ≠ w.heap.size := by omega
    -- the world in which Insert is called
    have BC : Blk (w1.drew.alloc (.cells #[.string x.b, .string x.e, .int .u64 x.s] 81)) w1.heap.size 81 x.c := Blk.new w1.drew 81 x.c
    have bC : Below w1.heap.size w1 (w1.drew.alloc (.cells #[.string x.b, .string x.e, .int .u64 x.s] 81)) := (Below.refl _ _).drew.alloc (Nat.le_refl _) _
    have hrow1 : (w1.drew.alloc (.cells #[.string x.b, .string x.e, .int .u64 x.s] 81)).ownsRow 0 81 3 rv l.length (tcs l) := row_upd HRow.out (S := Non) (Upd.ofBelow (HB1.out.trans (bC.mono HB1.out.size))) (fun _ _ h => h)
    have hrl : ∀ k, rv.ownBlock = some k → k < w.heap.size := fun k hk => by
      rcases HRow.out.2 with ⟨rfl, _⟩ | ⟨g, cap, cur, rfl, _, hg, _⟩
      · cases hk
      · cases hk; exact (Array.getElem?_eq_some_iff.1 hg).1
    have HIns : Hid (Calls Tryd.prog 58 #[rv, .int .i64 p, .slice (some ⟨w1.heap.size, 0, none⟩) 1 1] (w1.drew.alloc (.cells #[.string x.b, .string x.e, .int .u64 x.s] 81)) (InsPost (w1.drew.alloc (.cells #[.string x.b, .string x.e, .int .u64 x.s] 81)) rv l p x)) := insert_any hrow1 p HC.out.le x BC (fun e => by have := hrl _ e; have := HB1.out.size; omega) (by omega)
    obtain ⟨WC, hWC⟩ : ∃ WC, Hid (WC = w1.drew.alloc (.cells #[.string x.b, .string x.e, .int .u64 x.s] 81)) := ⟨_, rfl⟩
    have BTC : Hid (Blk WC T 72 (tbC C f)) := by show Blk WC T 72 _; rw [hWC.out]; exact BT.upd (S := Non) (Upd.ofBelow bC) (fun x => x)
    have HbC : Hid (Below w.heap.size w WC) := by show Below _ _ WC; rw [hWC.out]; exact HB1.out.trans (bC.mono HB1.out.size)
    have hrT : ∀ k, rv.ownBlock = some k → k ≠ T := row_ne HRow.out H.out (by decide)
    have HrT : Hid (∀ k, rv.ownBlock = some k → k ≠ T) := hrT
    rw [← hWC.out] at HIns
    clear BC bC hrow1 hrl hrT
    go_region_law ((refine step_call58 rfl (by rfl) _ _ _ _ (by rfl) rv (.int .i64 p) (.slice (some ⟨w1.heap.size, 0, none⟩) 1 1) (by rfl) (by rfl) (by rfl) (hWC.out ▸ HIns.out) ?_; rintro e w2 ⟨rv', rfl, hro, hup, hloc⟩; obtain ⟨ra, rc, hrr⟩ := row_slice hro; subst hrr; refine ⟨_, rfl, ?_⟩; rw [← hWC.out] at hup hloc; have BT2 := BTC.out.upd hup (fun e => HrT.out T e rfl); have f18 := BT2.frozen 18; have t18' := BT2.cell1 18 _ rfl))
    all_goals
      go_wp2_with fail
      go_ret
      refine .inr ⟨HTI.out, rfl, .slice ra (l.length + 1) rc, BT2.set 18 _, ?_, ?_, ?_⟩
      · exact row_upd hro (S := fun k => k = T) ((Upd.refl (fun k => k = T) w2).setCell (fun _ => rfl) _) (fun k hk e => row_ne hro BT2 (by decide) k hk e)
      · rw [hrv.out]
        refine Upd.setCell (p := ⟨T, 18, none⟩) ?_ (fun _ => .inl rfl) _
        exact ((Upd.refl _ w).then (Upd.ofBelow HbC.out) (fun _ _ h => h)).then hup (fun i _ h => .inr h)
      · rw [hrv.out]
        rcases hloc with hloc | ⟨k, hk, hlt⟩
        · exact .inl hloc
        · exact .inr ⟨k, hk, Nat.le_trans HbC.out.size hlt⟩
end Go.Proofs.YtocanjefonlnaaaDoor
