import Derived.Test.YtocanjefonlnaaaDoorEq
namespace Go.Proofs.YtocanjefonlnaaaDoor
open Go.RowKit
set_option linter.unusedVariables false
set_option linter.unusedSimpArgs false
/-- Whether the entry at p has just that key. -/
def isK (L : List Nd) (p : Nat) (U : ByteArray) (S K : Int) : Bool := match L[p]? with | some n => decide (n.e.u = U ∧ n.e.s = S ∧ n.e.k = K) | none => false
/-- How many entries are not behind a key. -/
def bhd (L : List Nd) (p : Nat) (U : ByteArray) (S K : Int) : Nat := if isK L p U S K = true then p + 1 else p
set_option maxRecDepth 100000 in
set_option maxHeartbeats 1000000 in
theorem upto_any {w : World} {T : Nat} {C : Tc} {L : List Nd} {pr : Nat → Option Nd} (h : Sk w T C L (lnF L) pr) (U : ByteArray) (S K : Int) (p : Nat) (hc : Cut C.how L U S K p) :
    Calls Tryd.prog 54 #[ptr T, .agg #[.string U, .int .u64 S, .int .i64 K]] w fun e w' => e = .returned (pv (atq L (bhd L p U S K))) ∧ Below w.heap.size w w' := by
  have hh : ∀ n ∈ L, 1 ≤ n.h := fun n hn => (h.hgt n hn).1
  have hz := nxt_zero L p hh
  have hq := pq_zero L p hc.le hh
  have H1 := fun (W : World) (hb : Below w.heap.size w W) => ahead_any (h.below hb) U S K p hc.le hc.lo hc.hi
  have H2 := fun (W : World) (hb : Below w.heap.size w W) => (h.below hb).links p hc.le
  have hrp : Rch L p 0 := by have := pq_rch L 0 p; rw [hq] at this; exact this
  have H3 : Hid (∀ (W : World) (hb : Below w.heap.size w W), W.cell? ⟨lb T L p, lo L p + 0, none⟩ = some (pv (L[p]?))) := fun W hb => by
    have := (h.below hb).cell p hc.le 0 (rch_lh hrp (by omega))
    rw [this]; unfold lnF; rw [hz]
  have H4 : Hid (∀ (W : World) (n : Nd), Below w.heap.size w W → L[p]? = some n → Blk W n.b 88 (ndC n (pv (pr p)))) := fun W n hb hn => (h.below hb).nod p n hn
  have hlh : 0 < lh L p := rch_lh hrp (by omega)
  have hlz : (0 : Int) < (lh L p : Int) := by omega
  simp only [pth_zero, hq] at H1
  unfold lv at H2
  have hb0 : Below w.heap.size w (w.alloc (Obj.cells #[Value.string U, Value.int IntKind.u64 S, Value.int IntKind.i64 K] 38)) := (Below.refl _ _).alloc (Nat.le_refl _) _
  have HBx : Hid (Blk (w.alloc (Obj.cells #[Value.string U, Value.int IntKind.u64 S, Value.int IntKind.i64 K] 38)) w.heap.size 38 [.string U, .int .u64 S, .int .i64 K]) := Blk.new w 38 _
  have HR1 : Hid (isK L p U S K = true → pv (atq L (bhd L p U S K)) = pv (L[p]?)) := fun h => by unfold bhd; rw [if_pos h]; rfl
  have HR0 : Hid (isK L p U S K = false → pv (atq L (bhd L p U S K)) = pv (atq L p)) := fun h => by unfold bhd; rw [if_neg (by rw [h]; simp)]
  obtain ⟨AB, hAB⟩ : ∃ AB, atq L (bhd L p U S K) = AB := ⟨_, rfl⟩
  rw [hAB] at HR1 HR0 ⊢
  generalize lb T L p = LB at *
  generalize lo L p = LO at *
  generalize lh L p = LH at *
  generalize atq L p = AP at *
  clear hz hq hh h hc hrp hAB
  cases hlp : L[p]? with
  | none =>
    have HI : Hid (pv AB = pv AP) := HR0.out (by unfold isK; rw [hlp])
    rw [hlp] at H3
    clear HR1 HR0 H4 hlp
    go_enter Tryd.func54, Tryd.ntmps54
    go_wp2_with (go_at_call 50; refine (H1 _ hb0).mono ?_; rintro e w1 ⟨rfl, hb1⟩; have hb2 := hb0.trans (hb1.mono (by simp)); have hc3 := H3.out w1 hb2; rw [Nat.add_zero, show pv (none : Option Nd) = .pointer none from rfl] at hc3)
    rw [run_index14 [pv (atq L (pq L 1 p)), pv (atq L (pq L 2 p)), pv (atq L (pq L 3 p)), pv (atq L (pq L 4 p)), pv (atq L (pq L 5 p)), pv (atq L (pq L 6 p)), pv (atq L (pq L 7 p)), pv (atq L (pq L 8 p)), pv (atq L (pq L 9 p)), pv (atq L (pq L 10 p)), pv (atq L (pq L 11 p)), pv (atq L (pq L 12 p)), pv (atq L (pq L 13 p))] _ _ rfl]
    simp only [Result.andThen]
    rw [Oper.upon_value]
    go_wp2_with (go_at_call 49; refine (H2 _ hb2).mono ?_; rintro e w2 ⟨rfl, rfl⟩)
    first | go_quiet (fail) | go_big_quiet (fail)
    go_wp2_with fail
    go_ret
    exact ⟨by rw [HI.out]; rfl, belN hb2 _⟩
  | some n0 =>
    rw [hlp] at H3
    have HB4 : Hid (∀ W, Below w.heap.size w W → Blk W n0.b 88 (ndC n0 (pv (pr p)))) := fun W hb => H4.out W n0 hb hlp
    have heq := fun W : World => eq_key W n0.e.u U n0.e.s S n0.e.k K
    cases hk : decide (n0.e.u = U ∧ n0.e.s = S ∧ n0.e.k = K) with
    | true =>
      have HI : Hid (pv AB = .pointer (some ⟨n0.b, 0, none⟩)) := by
        have := HR1.out (by unfold isK; rw [hlp]; exact hk)
        show pv AB = _
        rw [this, hlp]; rfl
      rw [hk] at heq
      clear HR1 HR0 H4 hlp hk
      go_enter Tryd.func54, Tryd.ntmps54
      go_wp2_with (go_at_call 50; refine (H1 _ hb0).mono ?_; rintro e w1 ⟨rfl, hb1⟩; have hb2 := hb0.trans (hb1.mono (by simp)); have hc3 := H3.out w1 hb2; rw [Nat.add_zero, show pv (some n0 : Option Nd) = .pointer (some ⟨n0.b, 0, none⟩) from rfl] at hc3; have bx := HBx.out.upd (S := Non) (Upd.ofBelow hb1) (fun x => x); have x0 := bx.cell1 0 _ rfl; have x1 := bx.cell1 1 _ rfl; have x2 := bx.cell1 2 _ rfl; have bn := HB4.out w1 hb2; have m0 := bn.cell1 0 _ rfl; have m1 := bn.cell1 1 _ rfl; have m2 := bn.cell1 2 _ rfl; clear bx bn)
      rw [run_index14 [pv (atq L (pq L 1 p)), pv (atq L (pq L 2 p)), pv (atq L (pq L 3 p)), pv (atq L (pq L 4 p)), pv (atq L (pq L 5 p)), pv (atq L (pq L 6 p)), pv (atq L (pq L 7 p)), pv (atq L (pq L 8 p)), pv (atq L (pq L 9 p)), pv (atq L (pq L 10 p)), pv (atq L (pq L 11 p)), pv (atq L (pq L 12 p)), pv (atq L (pq L 13 p))] _ _ rfl]
      simp only [Result.andThen]
      rw [Oper.upon_value]
      go_wp2_with (go_at_call 49; refine (H2 _ hb2).mono ?_; rintro e w2 ⟨rfl, rfl⟩)
      go_big_quiet (fail)
      go_wp2_with fail
      go_ret
      exact ⟨by rw [HI.out]; rfl, belN hb2 _⟩
    | false =>
      have HI : Hid (pv AB = pv AP) := HR0.out (by unfold isK; rw [hlp]; exact hk)
      rw [hk] at heq
      clear HR1 HR0 H4 hlp hk
      go_enter Tryd.func54, Tryd.ntmps54
      go_wp2_with (go_at_call 50; refine (H1 _ hb0).mono ?_; rintro e w1 ⟨rfl, hb1⟩; have hb2 := hb0.trans (hb1.mono (by simp)); have hc3 := H3.out w1 hb2; rw [Nat.add_zero, show pv (some n0 : Option Nd) = .pointer (some ⟨n0.b, 0, none⟩) from rfl] at hc3; have bx := HBx.out.upd (S := Non) (Upd.ofBelow hb1) (fun x => x); have x0 := bx.cell1 0 _ rfl; have x1 := bx.cell1 1 _ rfl; have x2 := bx.cell1 2 _ rfl; have bn := HB4.out w1 hb2; have m0 := bn.cell1 0 _ rfl; have m1 := bn.cell1 1 _ rfl; have m2 := bn.cell1 2 _ rfl; clear bx bn)
      rw [run_index14 [pv (atq L (pq L 1 p)), pv (atq L (pq L 2 p)), pv (atq L (pq L 3 p)), pv (atq L (pq L 4 p)), pv (atq L (pq L 5 p)), pv (atq L (pq L 6 p)), pv (atq L (pq L 7 p)), pv (atq L (pq L 8 p)), pv (atq L (pq L 9 p)), pv (atq L (pq L 10 p)), pv (atq L (pq L 11 p)), pv (atq L (pq L 12 p)), pv (atq L (pq L 13 p))] _ _ rfl]
      simp only [Result.andThen]
      rw [Oper.upon_value]
      go_wp2_with (go_at_call 49; refine (H2 _ hb2).mono ?_; rintro e w2 ⟨rfl, rfl⟩)
      go_big_quiet (fail)
      go_wp2_with fail
      go_ret
      exact ⟨by rw [HI.out]; rfl, belN hb2 _⟩
end Go.Proofs.YtocanjefonlnaaaDoor
