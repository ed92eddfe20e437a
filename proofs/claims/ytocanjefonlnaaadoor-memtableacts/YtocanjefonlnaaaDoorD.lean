import Derived.Test.YtocanjefonlnaaaDoorC
namespace Go.Proofs.YtocanjefonlnaaaDoor
open Go.RowKit
set_option linter.unusedVariables false
set_option linter.unusedSimpArgs false
theorem nxt_zero (L : List Nd) (p : Nat) (hh : ∀ n ∈ L, 1 ≤ n.h) : nxt (L.drop p) 0 = L[p]? := by
  cases e : L[p]? with
  | none => rw [List.drop_eq_nil_of_le (List.getElem?_eq_none_iff.1 e)]; rfl
  | some n =>
    have := hh n (List.mem_of_getElem? e)
    rw [drop_cons e, nxt_cons, if_pos (by omega)]
/-- The first entry that is not ahead of a key is number p. -/
structure Cut (how : Int) (L : List Nd) (U : ByteArray) (S K : Int) (p : Nat) : Prop where
  le : p ≤ L.length
  lo : ∀ i n, i < p → L[i]? = some n → okey how n.e U S K < 0
  hi : ∀ i n, p ≤ i → L[i]? = some n → ¬ okey how n.e U S K < 0
theorem pth_zero (L : List Nd) (p : Nat) : (pth L p 0).toArray = #[pv (atq L (pq L 0 p)), pv (atq L (pq L 1 p)), pv (atq L (pq L 2 p)), pv (atq L (pq L 3 p)), pv (atq L (pq L 4 p)), pv (atq L (pq L 5 p)), pv (atq L (pq L 6 p)), pv (atq L (pq L 7 p)), pv (atq L (pq L 8 p)), pv (atq L (pq L 9 p)), pv (atq L (pq L 10 p)), pv (atq L (pq L 11 p)), pv (atq L (pq L 12 p)), pv (atq L (pq L 13 p))] := rfl
theorem run_index14 (vs : List Value) (v : Value) (w : World) (h : vs.length = 13) : (Instr.index 66 (.agg (v :: vs).toArray) (.int .i64 0)).run Tryd.prog w = .ok v w := by
  simp [Instr.index, run_underlying Tryd.underlying66, asIntOf, go_sem, List.getD]
set_option maxRecDepth 100000 in
set_option maxHeartbeats 1000000 in
theorem from_any {w : World} {T : Nat} {C : Tc} {L : List Nd} {pr : Nat → Option Nd} (h : Sk w T C L (lnF L) pr) (U : ByteArray) (S K : Int) (p : Nat) (hc : Cut C.how L U S K p) :
    Calls Tryd.prog 34 #[ptr T, .agg #[.string U, .int .u64 S, .int .i64 K]] w fun e w' => e = .returned (pv (L[p]?)) ∧ Below w.heap.size w w' := by
  have hh : ∀ n ∈ L, 1 ≤ n.h := fun n hn => (h.hgt n hn).1
  have hz := nxt_zero L p hh
  have hq := pq_zero L p hc.le hh
  have H1 := fun (W : World) (hb : Below w.heap.size w W) => ahead_any (h.below hb) U S K p hc.le hc.lo hc.hi
  have H2 := fun (W : World) (hb : Below w.heap.size w W) => (h.below hb).links p hc.le
  have H3 : Hid (∀ (W : World) (hb : Below w.heap.size w W), W.cell? ⟨lb T L p, lo L p + 0, none⟩ = some (pv (L[p]?))) := fun W hb => by
    have := (h.below hb).cell p hc.le 0 (rch_lh (by have := pq_rch L 0 p; rw [hq] at this; exact this) (by omega))
    rw [this]; unfold lnF; rw [hz]
  have hlh : 0 < lh L p := rch_lh (by have := pq_rch L 0 p; rw [hq] at this; exact this) (by omega)
  have hlz : (0 : Int) < (lh L p : Int) := by omega
  simp only [pth_zero, hq] at H1
  unfold lv at H2
  have hb0 : Below w.heap.size w (w.alloc (Obj.cells #[Value.string U, Value.int IntKind.u64 S, Value.int IntKind.i64 K] 38)) := (Below.refl _ _).alloc (Nat.le_refl _) _
  generalize lb T L p = LB at *
  generalize lo L p = LO at *
  generalize lh L p = LH at *
  generalize atq L p = AP at *
  generalize L[p]? = LP at *
  clear hz hq hh h hc
  go_enter Tryd.func34, Tryd.ntmps34
  go_wp2_with (first
    | (go_at_call 50; refine (H1 _ hb0).mono ?_; rintro e w1 ⟨rfl, hb1⟩; have hb2 := hb0.trans (hb1.mono (by simp)); have hc3 := H3.out w1 hb2; rw [Nat.add_zero] at hc3)
    | (go_at_call 49; refine (H2 _ hb2).mono ?_; rintro e w2 ⟨rfl, rfl⟩))
  rw [run_index14 [pv (atq L (pq L 1 p)), pv (atq L (pq L 2 p)), pv (atq L (pq L 3 p)), pv (atq L (pq L 4 p)), pv (atq L (pq L 5 p)), pv (atq L (pq L 6 p)), pv (atq L (pq L 7 p)), pv (atq L (pq L 8 p)), pv (atq L (pq L 9 p)), pv (atq L (pq L 10 p)), pv (atq L (pq L 11 p)), pv (atq L (pq L 12 p)), pv (atq L (pq L 13 p))] _ _ rfl]
  simp only [Result.andThen]
  rw [Oper.upon_value]
  go_wp2_with (go_at_call 49; refine (H2 _ hb2).mono ?_; rintro e w2 ⟨rfl, rfl⟩)
  go_ret
  exact ⟨rfl, hb2⟩
end Go.Proofs.YtocanjefonlnaaaDoor
