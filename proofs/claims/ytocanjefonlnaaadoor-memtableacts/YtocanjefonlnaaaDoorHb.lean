import Derived.RangeFuncNested
import Derived.RangeFuncBound
import Derived.RangeFuncCalls
import Derived.RangeFuncLeaves
import Derived.RangeFuncBox
import Derived.Shelf.Abstract
import Derived.Shelf.RegionOpen
import Derived.OwnWalkIn
import Derived.TacticsInMore
import Derived.LoopNIn
import Derived.LoopIn
import Derived.Sort.QuietIn
import Derived.Test.YtocanjefonlnaaaDoorHa
import Derived.Test.YtocanjefonlnaaaDoorG
namespace Go.Proofs.YtocanjefonlnaaaDoor
open Go.RowKit Go.Shelf
set_option linter.unusedVariables false
set_option linter.unusedSimpArgs false
attribute [local go_sem] Oper.semAt_some
/-- What a round keeps: the blocks of B. -/
def Kq (B : Nat → Prop) (W W' : World) : Prop := W.heap.size ≤ W'.heap.size ∧ ∀ k, B k → W'.heap[k]? = W.heap[k]?
theorem Kq.refl (B : Nat → Prop) (W : World) : Kq B W W := ⟨Nat.le_refl _, fun _ _ => rfl⟩
theorem Kq.trans {B : Nat → Prop} {X Y Z : World} (h : Kq B X Y) (k : Kq B Y Z) : Kq B X Z := ⟨Nat.le_trans h.1 k.1, fun i hi => (k.2 i hi).trans (h.2 i hi)⟩
theorem Blk.kq {B : Nat → Prop} {W W' : World} {b : Nat} {t : TypeId} {cs : List Value} (h : Blk W b t cs) (k : Kq B W W') (hb : B b) : Blk W' b t cs := (k.2 b hb).trans h
theorem Sk.kq {B : Nat → Prop} {W W' : World} {T : Nat} {C : Tc} {L : List Nd} {ln : Nat → Nat → Option Nd} {pr : Nat → Option Nd} (h : Sk W T C L ln pr) (k : Kq B W W') (hB : ∀ k, SkB T L k → B k) : Sk W' T C L ln pr :=
  ⟨h.tab.kq k (hB _ (.inl rfl)), fun i n hn => (h.nod i n hn).kq k (hB _ (.inr ⟨n, List.mem_of_getElem? hn, .inl rfl⟩)), fun i n hn => (h.lnk i n hn).kq k (hB _ (.inr ⟨n, List.mem_of_getElem? hn, .inr rfl⟩)), h.hgt, h.injb, h.injx, h.brn⟩
def ev (e : Ent) : Value := .agg #[.string e.u, .int .u64 e.s, .int .i64 e.k, .string e.v]
/-- Which node a pointer points to: the loop's measure. -/
def ndAt (L : List Nd) : Value → Nat
  | .pointer (some a) => L.length - L.findIdx (fun n => n.b == a.block)
  | _ => 0
theorem ndAt_eq {w : World} {T : Nat} {C : Tc} {L : List Nd} {ln : Nat → Nat → Option Nd} {pr : Nat → Option Nd} (h : Sk w T C L ln pr) {i : Nat} {n : Nd} (hn : L[i]? = some n) : ndAt L (.pointer (some ⟨n.b, 0, none⟩)) = L.length - i := by
  unfold ndAt
  have hi := (List.getElem?_eq_some_iff.1 hn).1
  have : L.findIdx (fun m => m.b == n.b) = i := by
    rw [List.findIdx_eq hi]
    have e : L[i] = n := (List.getElem?_eq_some_iff.1 hn).2
    refine ⟨by rw [e]; simp, fun j hj => ?_⟩
    have hjl : j < L.length := by omega
    simp only [Bool.eq_false_iff, ne_eq, beq_iff_eq]
    intro e2
    have := h.injb j i L[j] n (List.getElem?_eq_getElem hjl) hn e2
    omega
  show L.length - L.findIdx (fun m => m.b == n.b) = _
  rw [this]
set_option maxRecDepth 100000 in
set_option maxHeartbeats 1000000 in
theorem all1_in (F : Fence) (n : Nat) (h52 : F.fn 52) (h34 : F.fn 34) (hro : F.round = none) (hn : 1 ≤ n) (l B1 B2 T : Nat) (C : Tc) (L : List Nd) (U : ByteArray) (S K : Int) (p : Nat) (hc : Cut C.how L U S K p) (B : Nat → Prop) (hB : ∀ k, SkB T L k → B k)
    (hF : ∀ W, Sk W T C L (lnF L) (atq L) → CallsIn F (n - 1) Tryd.prog 34 #[ptr T, .agg #[.string U, .int .u64 S, .int .i64 K]] W fun e w' => e = .returned (pv (L[p]?)) ∧ Below W.heap.size W w')
    (J Jx : List Ent → World → Prop) (hJb : ∀ W W', J [] W → Below W.heap.size W W' → J [] W')
    (hY : ∀ pre x W, J pre W → pre.length < L.length - p → YieldAt F (n - 1) Tryd.prog l #[ev x] W fun e W' =>
      (e = .returned (.bool true) ∧ J (pre ++ [x]) W' ∧ Kq B W W') ∨ (e = .returned (.bool false) ∧ Jx (pre ++ [x]) W'))
    (W : World) (hS : Sk W T C L (lnF L) (atq L)) (c1 : W.cell? ⟨B1, 0, none⟩ = some (ptr T)) (c2 : Blk W B2 38 [.string U, .int .u64 S, .int .i64 K]) (h0 : J [] W) :
    CallsIn F n Tryd.prog 52 #[.func (.yield l) #[] #[], .pointer (some ⟨B1, 0, none⟩), .pointer (some ⟨B2, 0, none⟩)] W fun e W' => (∃ v, e = .returned v) ∧
      ((∃ ys, ys = (L.drop p).map (·.e) ∧ J ys W') ∨ (∃ pre, (∃ k, k ≤ L.length - p ∧ pre = ((L.drop p).map (·.e)).take k) ∧ Jx pre W')) := by
  have hTl := hS.tab.lt
  have c16 := hS.tab.cell1 16 _ rfl
  have k0 := c2.cell1 0 _ rfl
  have k1 := c2.cell1 1 _ rfl
  have k2 := c2.cell1 2 _ rfl
  have HS : Hid (Sk W T C L (lnF L) (atq L)) := hS
  have HF := hF W hS
  clear hS hF c2
  refine callsIn_of_wp Tryd.func52 rfl h52 ?_ hro
  simp only [Tryd.ntmps52, List.size_toArray, List.length_cons, List.length_nil, Nat.reduceAdd, Nat.reduceSub, Array.replicate_succ, Array.replicate_zero, List.push_toArray, List.append_toArray, List.nil_append, List.cons_append]
  gi_wp2_with (gi_at_call 34; refine HF.mono ?_; rintro e w1 ⟨rfl, hb1⟩)
  have HS1 : Hid (Sk w1 T C L (lnF L) (atq L)) := HS.out.below hb1
  have HJ1 : Hid (J [] w1) := hJb W w1 h0 hb1
  have hp := hc.le
  clear c1 h0 hTl c16 k0 k1 k2 HF hb1 hc
  gi_loopw [5] (fun s5 wr => ∃ q : Nat, q ≤ L.length - p ∧ s5 = .pointer (pa (L[p + q]?)) ∧ Hid (J (((L.drop p).map (·.e)).take q) wr) ∧ Hid (Sk wr T C L (lnF L) (atq L))) (fun s5 _ => ndAt L s5)
  case atStart => exact ⟨0, Nat.zero_le _, rfl, HJ1, HS1⟩
  case round =>
    obtain ⟨q, hq, rfl, HJ, HSr⟩ := hrel
    cases e : L[p + q]? with
    | none =>
      have hql : q = L.length - p := by have := List.getElem?_eq_none_iff.1 e; omega
      have HJ2 : Hid (J ((L.drop p).map (·.e)) wr) := by
        have := HJ.out
        rw [List.take_of_length_le (by simp; omega)] at this
        exact this
      rw [show pa (none : Option Nd) = none from rfl]
      clear e
      gi_wp2
      go_end0
      exact ⟨⟨_, rfl⟩, .inl ⟨_, rfl, HJ2.out⟩⟩
    | some nd =>
      have hlt := (List.getElem?_eq_some_iff.1 e).1
      have HM : Hid (ndAt L (.pointer (some ⟨nd.b, 0, none⟩)) = L.length - (p + q)) := ndAt_eq HSr.out e
      have HTk : Hid (((L.drop p).map (·.e)).take (q + 1) = ((L.drop p).map (·.e)).take q ++ [nd.e]) := by
        show _ = _
        have h1 : ((L.drop p).map (·.e))[q]? = some nd.e := by rw [List.getElem?_map, List.getElem?_drop, e]; rfl
        obtain ⟨h2, h3⟩ := List.getElem?_eq_some_iff.1 h1
        rw [List.take_succ_eq_append_getElem h2, h3]
      have BN := HSr.out.nod (p + q) nd e
      have n0 := BN.cell1 0 _ rfl
      have n1 := BN.cell1 1 _ rfl
      have n2 := BN.cell1 2 _ rfl
      have n3 := BN.cell1 3 _ rfl
      have n4 := BN.cell1 4 _ rfl
      have hbr := HSr.out.brn nd (List.mem_of_getElem? e)
      obtain ⟨fn, tmps, assign, body, hy, hR⟩ := hY _ nd.e wr HJ.out (by simp; omega)
      unfold ev at hy
      have HNx : Hid (∀ W3, Sk W3 T C L (lnF L) (atq L) → W3.cell? ⟨nd.b, 6, none⟩ = some (.slice (some ⟨nd.x, 0, none⟩) nd.h nd.h) ∧ W3.cell? ⟨nd.x, 0, none⟩ = some (.pointer (pa (L[p + q + 1]?)))) := fun W3 h3 => by
        refine ⟨(h3.nod (p + q) nd e).cell1 6 _ rfl, ?_⟩
        have hh := (h3.hgt nd (List.mem_of_getElem? e)).1
        have := (h3.lnk (p + q) nd e).cell1 0 (pv (lnF L (p + q + 1) 0)) (by rw [List.getElem?_map, List.getElem?_range (by omega)]; rfl)
        rw [this]
        unfold lnF
        rw [nxt_zero L _ (fun n hn => (h3.hgt n hn).1)]
      have HMn : Hid (ndAt L (.pointer (pa (L[p + q + 1]?))) < L.length - (p + q)) := by
        show _ < _
        cases e2 : L[p + q + 1]? with
        | none => show 0 < _; omega
        | some m => rw [show pa (some m : Option Nd) = some ⟨m.b, 0, none⟩ from rfl, ndAt_eq HSr.out e2]; omega
      have hh1 : (0 : Int) < (nd.h : Int) := by have := (HSr.out.hgt nd (List.mem_of_getElem? e)).1; omega
      rw [show pa (some nd : Option Nd) = some ⟨nd.b, 0, none⟩ from rfl]
      clear BN e
      gi_wp2
      refine hR.mono ?_
      rintro e W3 (⟨rfl, hJ3, hk3⟩ | ⟨rfl, hJx3⟩)
      · have HS3 : Hid (Sk W3 T C L (lnF L) (atq L)) := HSr.out.kq hk3 hB
        obtain ⟨m6, mx⟩ := HNx.out W3 HS3.out
        gi_wp2
        go_roundw
        case rel => exact ⟨q + 1, by omega, rfl, by rw [HTk.out]; exact hJ3, HS3⟩
        case measure => rw [HM.out]; exact HMn.out
      · gi_wp2
        refine bodyPost_ret (results_none rfl _ _ _) rfl ?_
        exact ⟨⟨_, rfl⟩, .inr ⟨_, ⟨q + 1, by omega, HTk.out.symm⟩, hJx3⟩⟩
def ndBk (L : List Nd) : Value → Nat
  | .pointer (some a) => L.findIdx (fun n => n.b == a.block) + 1
  | _ => 0
theorem ndBk_eq {w : World} {T : Nat} {C : Tc} {L : List Nd} {ln : Nat → Nat → Option Nd} {pr : Nat → Option Nd} (h : Sk w T C L ln pr) {i : Nat} {n : Nd} (hn : L[i]? = some n) : ndBk L (.pointer (some ⟨n.b, 0, none⟩)) = i + 1 := by
  have h1 := ndAt_eq h hn
  have hi := (List.getElem?_eq_some_iff.1 hn).1
  have h2 : L.length - L.findIdx (fun m => m.b == n.b) = L.length - i := h1
  have h3 : L.findIdx (fun m => m.b == n.b) ≤ L.length := List.findIdx_le_length
  show L.findIdx (fun m => m.b == n.b) + 1 = _
  omega
set_option maxRecDepth 100000 in
set_option maxHeartbeats 1000000 in
theorem turned1_in (F : Fence) (n : Nat) (h53 : F.fn 53) (h54 : F.fn 54) (hro : F.round = none) (hn : 1 ≤ n) (l B1 B2 T : Nat) (C : Tc) (L : List Nd) (U : ByteArray) (S K : Int) (p : Nat) (hp : p ≤ L.length) (B : Nat → Prop) (hB : ∀ k, SkB T L k → B k)
    (hF : ∀ W, Sk W T C L (lnF L) (atq L) → CallsIn F (n - 1) Tryd.prog 54 #[ptr T, .agg #[.string U, .int .u64 S, .int .i64 K]] W fun e w' => e = .returned (pv (atq L p)) ∧ Below W.heap.size W w')
    (J Jx : List Ent → World → Prop) (hJb : ∀ W W', J [] W → Below W.heap.size W W' → J [] W')
    (hY : ∀ pre x W, J pre W → pre.length < p → YieldAt F (n - 1) Tryd.prog l #[ev x] W fun e W' =>
      (e = .returned (.bool true) ∧ J (pre ++ [x]) W' ∧ Kq B W W') ∨ (e = .returned (.bool false) ∧ Jx (pre ++ [x]) W'))
    (W : World) (hS : Sk W T C L (lnF L) (atq L)) (c1 : W.cell? ⟨B1, 0, none⟩ = some (ptr T)) (c2 : Blk W B2 38 [.string U, .int .u64 S, .int .i64 K]) (h0 : J [] W) :
    CallsIn F n Tryd.prog 53 #[.func (.yield l) #[] #[], .pointer (some ⟨B1, 0, none⟩), .pointer (some ⟨B2, 0, none⟩)] W fun e W' => (∃ v, e = .returned v) ∧
      ((∃ ys, ys = (L.take p).reverse.map (·.e) ∧ J ys W') ∨ (∃ pre, (∃ k, k ≤ p ∧ pre = ((L.take p).reverse.map (·.e)).take k) ∧ Jx pre W')) := by
  have hTl := hS.tab.lt
  have c16 := hS.tab.cell1 16 _ rfl
  have k0 := c2.cell1 0 _ rfl
  have k1 := c2.cell1 1 _ rfl
  have k2 := c2.cell1 2 _ rfl
  have HS : Hid (Sk W T C L (lnF L) (atq L)) := hS
  have HF := hF W hS
  clear hS hF c2
  refine callsIn_of_wp Tryd.func53 rfl h53 ?_ hro
  simp only [Tryd.ntmps53, List.size_toArray, List.length_cons, List.length_nil, Nat.reduceAdd, Nat.reduceSub, Array.replicate_succ, Array.replicate_zero, List.push_toArray, List.append_toArray, List.nil_append, List.cons_append]
  gi_wp2_with (gi_at_call 54; refine HF.mono ?_; rintro e w1 ⟨rfl, hb1⟩)
  have HS1 : Hid (Sk w1 T C L (lnF L) (atq L)) := HS.out.below hb1
  have HJ1 : Hid (J [] w1) := hJb W w1 h0 hb1
  clear c1 h0 hTl c16 k0 k1 k2 HF hb1
  gi_loopw [5] (fun s5 wr => ∃ q : Nat, q ≤ p ∧ s5 = .pointer (pa (atq L (p - q))) ∧ Hid (J (((L.take p).reverse.map (·.e)).take q) wr) ∧ Hid (Sk wr T C L (lnF L) (atq L))) (fun s5 _ => ndBk L s5)
  case atStart => exact ⟨0, Nat.zero_le _, rfl, HJ1, HS1⟩
  case round =>
    obtain ⟨q, hq, rfl, HJ, HSr⟩ := hrel
    rcases Nat.lt_or_ge q p with hqp | hqp
    · obtain ⟨r, hr⟩ : ∃ r, p - q = r + 1 := ⟨p - q - 1, by omega⟩
      have hrl : r < L.length := by omega
      obtain ⟨nd, e⟩ : ∃ nd, L[r]? = some nd := ⟨L[r], List.getElem?_eq_getElem hrl⟩
      have e0 : atq L (p - q) = some nd := by rw [hr]; exact e
      have HR : Hid (p - (q + 1) = r) := by show _ = _; omega
      have HM : Hid (ndBk L (.pointer (some ⟨nd.b, 0, none⟩)) = r + 1) := ndBk_eq HSr.out e
      have HTk : Hid (((L.take p).reverse.map (·.e)).take (q + 1) = ((L.take p).reverse.map (·.e)).take q ++ [nd.e]) := by
        show _ = _
        have h1 : ((L.take p).reverse.map (·.e))[q]? = some nd.e := by
          rw [List.getElem?_map, List.getElem?_reverse (by simp; omega)]
          simp only [List.length_take, Nat.min_eq_left hp]
          rw [List.getElem?_take_of_lt (by omega), show p - 1 - q = r by omega, e]; rfl
        obtain ⟨h2, h3⟩ := List.getElem?_eq_some_iff.1 h1
        rw [List.take_succ_eq_append_getElem h2, h3]
      have BN := HSr.out.nod r nd e
      have n0 := BN.cell1 0 _ rfl
      have n1 := BN.cell1 1 _ rfl
      have n2 := BN.cell1 2 _ rfl
      have n3 := BN.cell1 3 _ rfl
      have n4 := BN.cell1 4 _ rfl
      have hbr := HSr.out.brn nd (List.mem_of_getElem? e)
      obtain ⟨fn, tmps, assign, body, hy, hR⟩ := hY _ nd.e wr HJ.out (by simp; omega)
      unfold ev at hy
      have HNx : Hid (∀ W3, Sk W3 T C L (lnF L) (atq L) → W3.cell? ⟨nd.b, 5, none⟩ = some (.pointer (pa (atq L r)))) := fun W3 h3 => (h3.nod r nd e).cell1 5 _ rfl
      have HMn : Hid (ndBk L (.pointer (pa (atq L r))) < r + 1) := by
        show _ < _
        cases r with
        | zero => show 0 < _; omega
        | succ r' =>
          obtain ⟨m, e2⟩ : ∃ m, L[r']? = some m := ⟨L[r']'(by omega), List.getElem?_eq_getElem _⟩
          rw [show atq L (r' + 1) = some m from e2, show pa (some m : Option Nd) = some ⟨m.b, 0, none⟩ from rfl, ndBk_eq HSr.out e2]; omega
      rw [e0, show pa (some nd : Option Nd) = some ⟨nd.b, 0, none⟩ from rfl]
      clear BN e e0 hr
      gi_wp2
      refine hR.mono ?_
      rintro e W3 (⟨rfl, hJ3, hk3⟩ | ⟨rfl, hJx3⟩)
      · have HS3 : Hid (Sk W3 T C L (lnF L) (atq L)) := HSr.out.kq hk3 hB
        have mx := HNx.out W3 HS3.out
        gi_wp2
        go_roundw
        case rel => exact ⟨q + 1, by omega, by rw [HR.out], by rw [HTk.out]; exact hJ3, HS3⟩
        case measure => rw [HM.out]; exact HMn.out
      · gi_wp2
        refine bodyPost_ret (results_none rfl _ _ _) rfl ?_
        exact ⟨⟨_, rfl⟩, .inr ⟨_, ⟨q + 1, by omega, HTk.out.symm⟩, hJx3⟩⟩
    · have e0 : atq L (p - q) = none := by rw [show p - q = 0 by omega]; rfl
      have HJ2 : Hid (J ((L.take p).reverse.map (·.e)) wr) := by
        have := HJ.out
        rw [List.take_of_length_le (by simp; omega)] at this
        exact this
      rw [e0, show pa (none : Option Nd) = none from rfl]
      clear e0
      gi_wp2
      go_end0
      exact ⟨⟨_, rfl⟩, .inl ⟨_, rfl, HJ2.out⟩⟩
end Go.Proofs.YtocanjefonlnaaaDoor
