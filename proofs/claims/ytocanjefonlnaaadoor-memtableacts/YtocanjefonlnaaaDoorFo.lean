import Derived.Test.YtocanjefonlnaaaDoorF
namespace Go.Proofs.YtocanjefonlnaaaDoor
open Go.RowKit
set_option linter.unusedVariables false
set_option linter.unusedSimpArgs false
set_option maxRecDepth 100000 in
set_option maxHeartbeats 4000000 in
theorem add_old {w : World} {T : Nat} {C : Tc} {L : List Nd} (h : Sk w T C L (lnF L) (atq L)) (E : Ent) (p : Nat) (hc : Cut C.how L E.u E.s E.k p) (n0 : Nd) (hlp : L[p]? = some n0) (hk : n0.e.u = E.u ∧ n0.e.s = E.s ∧ n0.e.k = E.k) :
    Calls Tryd.prog 48 #[ptr T, .agg #[.string E.u, .int .u64 E.s, .int .i64 E.k, .string E.v]] w fun e w' => e = .returned (.bool false) ∧ Below w.heap.size w w' := by
  have H1 : Hid (∀ (W : World) (hb : Below w.heap.size w W), Calls Tryd.prog 50 #[ptr T, .agg #[.string E.u, .int .u64 E.s, .int .i64 E.k]] W fun e w' => e = .returned (.agg (pth L p 0).toArray) ∧ Below W.heap.size W w') := fun W hb => ahead_any (h.below hb) E.u E.s E.k p hc.le hc.lo hc.hi
  have hb0 : Below w.heap.size w (w.alloc (Obj.cells #[Value.string E.u, Value.int IntKind.u64 E.s, Value.int IntKind.i64 E.k, .string E.v] 56)) := (Below.refl _ _).alloc (Nat.le_refl _) _
  obtain ⟨F, HF⟩ : ∃ F : Nat → Option Addr, Hid (∀ i, F i = pa (atq L (pq L i p))) := ⟨fun i => pa (atq L (pq L i p)), fun _ => rfl⟩
  have HP : Hid ((pth L p 0).toArray = #[.pointer (F 0), .pointer (F 1), .pointer (F 2), .pointer (F 3), .pointer (F 4), .pointer (F 5), .pointer (F 6), .pointer (F 7), .pointer (F 8), .pointer (F 9), .pointer (F 10), .pointer (F 11), .pointer (F 12), .pointer (F 13)]) := by
    simp only [HF.out]; rfl
  rw [HP.out] at H1
  have H : Hid (Sk w T C L (lnF L) (atq L)) := h
  have HC : Hid (Cut C.how L E.u E.s E.k p) := hc
  have HK : Hid (n0.e.u = E.u ∧ n0.e.s = E.s ∧ n0.e.k = E.k) := hk
  have HLP : Hid (L[p]? = some n0) := hlp
  clear h hc hk hlp
  go_enter Tryd.func48, Tryd.ntmps48
  go_upto_region 2 with (go_at_call 50; refine (H1.out _ hb0).mono ?_; rintro e w1 ⟨rfl, hb1⟩)
  have hb2 : Below w.heap.size w w1 := hb0.trans (hb1.mono (by simp))
  have A0 : Hid (Ad w E L p w1.heap.size (w1.alloc (.cells #[.pointer (F 0), .pointer (F 1), .pointer (F 2), .pointer (F 3), .pointer (F 4), .pointer (F 5), .pointer (F 6), .pointer (F 7), .pointer (F 8), .pointer (F 9), .pointer (F 10), .pointer (F 11), .pointer (F 12), .pointer (F 13)] 66))) := by
    refine ⟨hb2.alloc hb2.size _, ?_, ?_, ?_⟩
    · exact ((Blk.new w 56 _).upd (S := Non) (Upd.ofBelow hb1) (fun x => x)).alloc _
    · have := Blk.new w1 66 (pth L p 0)
      rw [HP.out] at this
      exact this
    · have := hb1.size; simp at this; omega
  generalize w1.heap.size = Y at *
  generalize w1.alloc (.cells #[.pointer (F 0), .pointer (F 1), .pointer (F 2), .pointer (F 3), .pointer (F 4), .pointer (F 5), .pointer (F 6), .pointer (F 7), .pointer (F 8), .pointer (F 9), .pointer (F 10), .pointer (F 11), .pointer (F 12), .pointer (F 13)] 66) = W at *
  clear hb0 hb1 hb2 H1 HP w1
  have hh : ∀ n ∈ L, 1 ≤ n.h := fun n hn => (H.out.hgt n hn).1
  have hz := nxt_zero L p hh
  have hq := pq_zero L p HC.out.le hh
  have HS : Hid (Sk W T C L (lnF L) (atq L)) := H.out.below A0.out.bel
  have y0 := A0.out.tow.cell1 0 (.pointer (F 0)) (by rw [HF.out]; rfl)
  have hF0 : F 0 = pa (atq L p) := by rw [HF.out, hq]
  have H2 := HS.out.links p HC.out.le
  unfold lv at H2
  have hrp : Rch L p 0 := by have := pq_rch L 0 p; rw [hq] at this; exact this
  have hlh : 0 < lh L p := rch_lh hrp (by omega)
  have hlz : (0 : Int) < (lh L p : Int) := by omega
  have hcp := HS.out.cell p HC.out.le 0 hlh
  rw [show lnF L p 0 = L[p]? from hz, Nat.add_zero] at hcp
  rw [show pv (atq L p) = .pointer (pa (atq L p)) from rfl, ← hF0] at H2
  generalize lb T L p = LB at *
  generalize lo L p = LO at *
  generalize lh L p = LH at *
  clear hz hq hh hF0 hrp
  rw [HLP.out, show pv (some n0 : Option Nd) = .pointer (some ⟨n0.b, 0, none⟩) from rfl] at hcp
  have BN := HS.out.nod p n0 HLP.out
  have n0' := BN.cell1 0 _ rfl
  have n1' := BN.cell1 1 _ rfl
  have n2' := BN.cell1 2 _ rfl
  have e0 := A0.out.box.cell1 0 _ rfl
  have e1 := A0.out.box.cell1 1 _ rfl
  have e2 := A0.out.box.cell1 2 _ rfl
  have heq : ∀ W : World, (binOp .eql 38 (.agg #[.string n0.e.u, .int .u64 n0.e.s, .int .i64 n0.e.k]) (.agg #[.string E.u, .int .u64 E.s, .int .i64 E.k])).run Tryd.prog W = .ok (.bool true) W := fun W => by
    rw [eq_key, decide_eq_true HK.out]
  go_wp2_with (go_at_call 49; refine H2.mono ?_; rintro e w2 ⟨rfl, rfl⟩)
  go_big_quiet (fail)
  go_wp2_with fail
  go_ret
  exact ⟨rfl, belN A0.out.bel nq⟩
end Go.Proofs.YtocanjefonlnaaaDoor
