/-
  counted, of bytes that were written: nothing is wrong.
  counted, of bytes that were written: how many entries there are.
  counted, of bytes that were written: how many entries there are.
-/
import Derived.Test.YtbnllobofndckaaPm
import Derived.Test.YtbnllobofndckaaOe
import Derived.Defers
import Derived.Recover
namespace Go.Proofs.Ytbnllobofndckaa
open Go.RowKit
set_option linter.unusedVariables false
set_option linter.unusedSimpArgs false
set_option maxRecDepth 100000 in
/-- The deferred closure, where nothing panics. -/
theorem catch_idle (p q : Addr) (w : World) :
    CallsD Try.prog 93 #[.pointer (some p), .pointer (some q)] .returning w fun e u' w' => e = .returned (.tuple #[]) ∧ u' = .returning ∧ w' = w := by
  refine callsD_of_wpS Try.func93 rfl fun c₀ cs hu => ?_
  apply wpS_seq
  apply wpS_region
  simp [wpOpsS, go_sem, recoverD, hu, Try.ntmps93, Exit.thenS]
  refine wpS_of_wp ?_
  simp only [Array.replicate_succ, Array.replicate_zero, List.push_toArray, List.append_toArray, List.nil_append, List.cons_append]
  go_wp2
  cases c₀
  simp_all [bodyPostS, results, Try.results93, Exit.thenS]
/-- The deferred call of counted. -/
def dfr (N : Nat) : Deferred := { target := .fn (.func 93) #[.pointer (some ⟨N + 1, 0, none⟩), .pointer (some ⟨N + 1 + 1, 0, none⟩)], args := #[] }
theorem door_ok {w W : World} {n : Int} (b2 : Blk W (w.heap.size + 1) 3 [.int .i64 n]) (b3 : Blk W (w.heap.size + 1 + 1) 24 [.int .i64 0]) (T : Array Value) (h2 : T[2]? = some (ptr (w.heap.size + 1))) (h3 : T[3]? = some (ptr (w.heap.size + 1 + 1))) {R : Ending → World → Prop}
    (hR : R (.returned (.tuple #[.int .i64 n, .int .i64 0])) W) :
    bodyPostD Try.prog Try.f71 R .ret { tmps := T, defers := [dfr w.heap.size] } W := by
  have d0 := b2.cell1 0 _ rfl
  have d1 := b3.cell1 0 _ rfl
  refine leaves_cons (f := 93) (args := #[.pointer (some ⟨w.heap.size + 1, 0, none⟩), .pointer (some ⟨w.heap.size + 1 + 1, 0, none⟩)]) (by simp) (by simp [go_sem, dfr]) ?_
  refine (catch_idle ⟨w.heap.size + 1, 0, none⟩ ⟨w.heap.size + 1 + 1, 0, none⟩ W).mono ?_
  rintro e u' w'' ⟨rfl, rfl, rfl⟩
  refine ⟨.tuple #[.int .i64 n, .int .i64 0], ?_, hR⟩
  simp [results, Try.results71, go_sem, h2, h3, d0, d1]
/-- Cuts of numbers. -/
def cut1 (a : Option Addr) (cap m : Nat) : Option Addr := if cap = m then a else a.map (·.add m)
theorem elem74 : Try.prog.elem 74 = 90 := by kernel_rfl
theorem slc74 : Try.prog.underlying 74 = some (.slice (Try.prog.elem 74)) := by rw [elem74]; exact Try.underlying74
theorem ncut_lo (a : Option Addr) (n cap m : Nat) (h : m ≤ n) (W : World) : (Instr.sliceAt 74 (.slice a n cap) (some (.int .i64 m)) none none).run Try.prog W = .ok (.slice (cut1 a cap m) (n - m) (cap - m)) W := by
  have hs : (sizeOf 90).run Try.prog W = .ok 1 W := by kernel_rfl
  have hr := run_slice_l (P := Try.prog) W 74 a n cap slc74 .i64 (m : Int) (by omega) (by omega)
  rw [elem74, hs] at hr
  simp only [Result.andThen, sliced, Int.toNat_natCast] at hr
  rw [run_sliceAt_slice _ _ _ _ _ _ slc74, hr]
  unfold cut1
  cases a <;> split <;> simp
theorem rdn_tail {w : World} {a : Option Addr} {cap x : Nat} {t : List Nat} (h : RdN w a (x :: t)) (hc : (x :: t).length ≤ cap) : RdN w (cut1 a cap 1) t := by
  rcases h with h | ⟨g, o, rfl, h⟩
  · cases h
  · cases t with
    | nil => exact .inl rfl
    | cons y t =>
      refine .inr ⟨g, o + 1, ?_, fun j z hz => ?_⟩
      · unfold cut1
        rw [if_neg (by simp at hc; omega)]
        simp [G.add_at]
      · have := h (j + 1) z (by simpa using hz)
        rw [show o + (j + 1) * 1 = o + 1 + j * 1 by omega] at this
        exact this
/-- All that is so while counted reads. -/
structure Ct (w wr : World) (how : Int) (r : Nat) (l : List Ent) (i : Nat) (bv pv : Value) (ra : Option Addr) (rc : Nat) (kv : Value) (u : ByteArray) (s k : Int) (vv : Value) : Prop where
  rst : Rst w.heap.size w.heap.size wr (w.heap.size + 1 + 1 + 1) (rs r l i) (kP l i) ra rc kv u s k vv
  b1 : Blk wr w.heap.size 76 [.int .i64 how, bv, pv, .int .i64 0]
  b2 : Blk wr (w.heap.size + 1) 3 [.int .i64 i]
  b3 : Blk wr (w.heap.size + 1 + 1) 24 [.int .i64 0]
  key : ∀ p, 0 < i → l[i - 1]? = some p → u = p.u ∧ s = p.s ∧ k = p.k
  bel : Below w.heap.size w wr
theorem Ct.below {w wr wr' : World} {how : Int} {r : Nat} {l : List Ent} {i : Nat} {bv pv : Value} {ra : Option Addr} {rc : Nat} {kv : Value} {u : ByteArray} {s k : Int} {vv : Value} (h : Ct w wr how r l i bv pv ra rc kv u s k vv) (hb : Below wr.heap.size wr wr') : Ct w wr' how r l i bv pv ra rc kv u s k vv :=
  ⟨h.rst.below hb, h.b1.upd (S := Non) (Upd.ofBelow hb) (fun h => h), h.b2.upd (S := Non) (Upd.ofBelow hb) (fun h => h), h.b3.upd (S := Non) (Upd.ofBelow hb) (fun h => h), h.key, h.bel.trans (hb.mono h.bel.size)⟩
/-- An entry was read; the count is still the old one. -/
structure Cn (w wr : World) (how : Int) (r : Nat) (l : List Ent) (i : Nat) (bv pv : Value) (ra : Option Addr) (rc : Nat) (kv : Value) (e : Ent) (vv : Value) : Prop where
  rst : Rst w.heap.size w.heap.size wr (w.heap.size + 1 + 1 + 1) (rs r l (i + 1)) (kP l (i + 1)) ra rc kv e.u e.s e.k vv
  b1 : Blk wr w.heap.size 76 [.int .i64 how, bv, pv, .int .i64 0]
  b2 : Blk wr (w.heap.size + 1) 3 [.int .i64 i]
  b3 : Blk wr (w.heap.size + 1 + 1) 24 [.int .i64 0]
  bel : Below w.heap.size w wr
theorem Cn.below {w wr wr' : World} {how : Int} {r : Nat} {l : List Ent} {i : Nat} {bv pv : Value} {ra : Option Addr} {rc : Nat} {kv : Value} {e : Ent} {vv : Value} (h : Cn w wr how r l i bv pv ra rc kv e vv) (hb : Below wr.heap.size wr wr') : Cn w wr' how r l i bv pv ra rc kv e vv :=
  ⟨h.rst.below hb, h.b1.upd (S := Non) (Upd.ofBelow hb) (fun h => h), h.b2.upd (S := Non) (Upd.ofBelow hb) (fun h => h), h.b3.upd (S := Non) (Upd.ofBelow hb) (fun h => h), h.bel.trans (hb.mono h.bel.size)⟩
theorem Ct.next {w wr w1 : World} {how : Int} {r : Nat} {l : List Ent} {i : Nat} {bv pv : Value} {ra : Option Addr} {rc : Nat} {kv : Value} {u : ByteArray} {s k : Int} {vv : Value} (h : Ct w wr how r l i bv pv ra rc kv u s k vv) {ry : Option Addr} {cy : Nat} {kv' : Value} {e : Ent} {vv' : Value}
    (hR : Rst w.heap.size w.heap.size w1 (w.heap.size + 1 + 1 + 1) (rs r l (i + 1)) (kP l (i + 1)) ry cy kv' e.u e.s e.k vv') (U : Upd (fun j => j = w.heap.size + 1 + 1 + 1 ∨ kv.ownBlock = some j) wr w1) :
    Cn w w1 how r l i bv pv ry cy kv' e vv' ∧ ∀ xb cs, Blk wr xb 33 cs → Blk w1 xb 33 cs := by
  have key : ∀ {b : Nat} {t : TypeId} {cs : List Value}, Blk wr b t cs → t ≠ 5 → b ≠ w.heap.size + 1 + 1 + 1 → Blk w1 b t cs := fun hb ht hn => hb.upd U (fun hs => by
    rcases hs with hs | hs
    · exact hn hs
    · exact G.row_ne h.rst.row hb (Ne.symm ht) _ hs rfl)
  refine ⟨⟨hR, key h.b1 (by decide) (by omega), key h.b2 (by decide) (by omega), key h.b3 (by decide) (by omega), h.bel.trans (U.below (fun j hj => Nat.lt_of_lt_of_le hj h.bel.size) (fun j hj => ?_))⟩, fun xb cs hx => key hx (by decide) (fun e => ?_)⟩
  · rcases hj with hj | hj
    · omega
    · exact (G.row_blk h.rst.row j hj).1
  · subst e
    have := hx.ne h.rst.blk (by decide)
    exact this rfl
theorem Cn.count {w wr : World} {how : Int} {r : Nat} {l : List Ent} {i : Nat} {bv pv : Value} {ra : Option Addr} {rc : Nat} {kv : Value} {e : Ent} {vv : Value} (h : Cn w wr how r l i bv pv ra rc kv e vv) (he : l[i]? = some e) : Ct w (wr.setCell ⟨w.heap.size + 1, 0, none⟩ (.int .i64 ((i : Int) + 1))) how r l (i + 1) bv pv ra rc kv e.u e.s e.k vv := by
  have U : Upd (fun j => j = w.heap.size + 1) wr (wr.setCell ⟨w.heap.size + 1, 0, none⟩ (.int .i64 ((i : Int) + 1))) := Upd.setCell (p := ⟨w.heap.size + 1, 0, none⟩) (Upd.refl (fun j => j = w.heap.size + 1) _) (fun _ => rfl) _
  refine ⟨h.rst.upd U (by omega) (fun hne b o eb hs => ?_) (fun j hj hs => ?_), h.b1.upd U (by omega), ?_, h.b3.upd U (by omega), fun p _ hp => ?_, h.bel.trans (U.below (fun j hj => Nat.lt_of_lt_of_le hj h.bel.size) (fun j hj => by omega))⟩
  · have := h.rst.old hne b o eb
    omega
  · subst hs
    exact G.row_ne h.rst.row h.b2 (by decide) _ hj rfl
  · have := h.b2.set 0 (.int .i64 ((i : Int) + 1))
    have e2 : (((i + 1 : Nat) : Int)) = (i : Int) + 1 := by omega
    rw [e2]; exact this
  · rw [Nat.add_sub_cancel, he] at hp
    cases hp
    exact ⟨rfl, rfl, rfl⟩
end Go.Proofs.Ytbnllobofndckaa
namespace Go.Proofs.Ytbnllobofndckaa
open Go.RowKit
set_option linter.unusedVariables false
set_option linter.unusedSimpArgs false
theorem Ct.begin {w : World} {how : Int} {r : Nat} {l : List Ent} {a : Option Addr} {LB cap : Nat} {pv : Value} (hA : Arg w a LB cap (bt r l l.length)) (hcap : LB ≤ cap) :
    Ct w ((((w.alloc (.cells #[.int .i64 how, .slice a LB cap, pv, .int .i64 0] 76)).alloc (.cells #[.int .i64 0] 3)).alloc (.cells #[.int .i64 0] 24)).alloc (.cells #[.slice a LB cap, .slice none 0 0, .string ⟨#[]⟩, .int .u64 0, .int .i64 0, .slice none 0 0] 88)) how r l 0 (.slice a LB cap) pv a cap (.slice none 0 0) ⟨#[]⟩ 0 0 (.slice none 0 0) := by
  have hlen : (bt r l l.length).length = LB := hA.1
  subst hlen
  have B1 := Blk.new w 76 [.int .i64 how, .slice a (bt r l l.length).length cap, pv, .int .i64 0]
  have B2 := Blk.new (w.alloc (.cells #[.int .i64 how, .slice a (bt r l l.length).length cap, pv, .int .i64 0] 76)) 3 [.int .i64 0]
  have B3 := Blk.new ((w.alloc (.cells #[.int .i64 how, .slice a (bt r l l.length).length cap, pv, .int .i64 0] 76)).alloc (.cells #[.int .i64 0] 3)) 24 [.int .i64 0]
  have hb : Below w.heap.size w (((w.alloc (.cells #[.int .i64 how, .slice a (bt r l l.length).length cap, pv, .int .i64 0] 76)).alloc (.cells #[.int .i64 0] 3)).alloc (.cells #[.int .i64 0] 24)) := (((Below.refl _ _).alloc (Nat.le_refl _) _).alloc (by simp) _).alloc (by simp; omega) _
  have hA' := hA.below hb
  have hR := rst_new (os := w.heap.size) (bs := w.heap.size) (Nat.le_refl _) hb.size hA' hcap (fun hne b o e => by
    rcases hA.2.2.2 with h | ⟨b2, o2, e2, hlt, _⟩
    · exact absurd h hne
    · rw [e] at e2; cases e2; exact hlt)
  refine ⟨by rw [rs_zero]; have h1 : kP l 0 = [] := rfl; rw [h1]; simpa using hR, ((B1.alloc _).alloc _).alloc _, (by simpa using (B2.alloc _).alloc _), (by simpa using B3.alloc _), fun p h0 => by omega, hb.alloc hb.size _⟩
theorem rdn_at {w : World} {a : Option Addr} {x : Nat} {t : List Nat} (h : RdN w a (x :: t)) : ∃ g o, a = some ⟨g, o, none⟩ ∧ g < w.heap.size ∧ w.cell? ⟨g, o, none⟩ = some (.int .u32 x) := by
  rcases h with h | ⟨g, o, rfl, h⟩
  · cases h
  · have := (h 0 x rfl).n
    rw [show o + 0 * 1 = o by omega] at this
    exact ⟨g, o, rfl, G.cell_lt this, this⟩
end Go.Proofs.Ytbnllobofndckaa
namespace Go.Proofs.Ytbnllobofndckaa
open Go.RowKit
set_option linter.unusedVariables false
set_option linter.unusedSimpArgs false
set_option maxRecDepth 100000 in
set_option maxHeartbeats 1000000 in
theorem counted_any {w : World} {how : Int} {ba : Option Addr} {LB bcap : Nat} {pa : Option Addr} {PN pc : Nat} {r : Nat} {l : List Ent} (hA : Arg w ba LB bcap (bt r l l.length)) (hcap : LB ≤ bcap) (hP : RdN w pa (plc r l)) (hPN : (plc r l).length = PN) (hpc : PN ≤ pc) (hf : Fit l) (hs : ∀ k p e, l[k]? = some p → l[k + 1]? = some e → ordE how p e < 0) (hr : 1 ≤ r) (hl : l.length ≤ 65536) (hb : LB ≤ 4194304) :
    Calls Try.prog 71 #[.agg #[.int .i64 how, .slice ba LB bcap, .slice pa PN pc, .int .i64 0]] w fun e w' => e = .returned (.tuple #[.int .i64 l.length, .int .i64 0]) ∧ Below w.heap.size w w' := by
  have hmf : ∀ (fn : Fn) (first cap : Array Value) (w : World), (Instr.makeFunc fn first cap).run Try.prog w = .ok (.func fn first cap) w := fun _ _ _ _ => rfl
  have hlen : (bt r l l.length).length = LB := hA.1
  have HF : Hid (Fit l ∧ (bt r l l.length).length ≤ 1099511627776 ∧ 1 ≤ r ∧ (bt r l l.length).length = LB) := ⟨hf, by omega, hr, hlen⟩
  have HS : Hid (∀ k p e, l[k]? = some p → l[k + 1]? = some e → ordE how p e < 0) := hs
  have HY : Hid (∀ W, Calls Try.prog 83 #[.bool true] W fun e w' => e = .returned (.tuple #[]) ∧ w' = W) := fun W => must_yes W
  obtain ⟨N, hN⟩ : ∃ N, Hid (l.length = N) := ⟨_, rfl⟩
  obtain ⟨bl, hbl⟩ : ∃ bl : Nat → Nat, Hid (∀ i, (bt r l i).length = bl i) := ⟨fun i => (bt r l i).length, fun i => rfl⟩
  have HC0 : Hid _ := Ct.begin (w := w) (how := how) (r := r) (l := l) (pv := .slice pa PN pc) hA hcap
  have HP : Hid (RdN w pa (plc r l) ∧ (plc r l).length = PN) := ⟨hP, hPN⟩
  obtain ⟨t0, ht0⟩ : ∃ t, plc r l = 0 :: t := by
    have h0 := plc_head r l
    cases hp : plc r l with
    | nil => rw [hp] at h0; simp at h0
    | cons x t => rw [hp] at h0; simp at h0; exact ⟨t, by rw [h0]⟩
  obtain ⟨g, o, rfl, hg, hg0⟩ := rdn_at (ht0 ▸ hP)
  obtain ⟨PM, rfl⟩ : ∃ PM, PN = PM + 1 := ⟨t0.length, by rw [← hPN, ht0]; rfl⟩
  have hg3 : (((w.alloc (.cells #[.int .i64 how, .slice ba LB bcap, .slice (some ⟨g, o, none⟩) (PM + 1) pc, .int .i64 0] 76)).alloc (.cells #[.int .i64 0] 3)).alloc (.cells #[.int .i64 0] 24)).cell? ⟨g, o, none⟩ = some (.int .u32 0) := by
    have hb3 : Below w.heap.size w (((w.alloc (.cells #[.int .i64 how, .slice ba LB bcap, .slice (some ⟨g, o, none⟩) (PM + 1) pc, .int .i64 0] 76)).alloc (.cells #[.int .i64 0] 3)).alloc (.cells #[.int .i64 0] 24)) := (((Below.refl _ _).alloc (Nat.le_refl _) _).alloc (by simp) _).alloc (by simp; omega) _
    rw [hb3.cell hg]; exact hg0
  have hlN : N ≤ 65536 := by rw [← hN.out]; exact hl
  rw [hN.out]
  clear hA hcap hP hPN hf hs hlen ht0 hl
  go_enter_defers Try.func71, Try.ntmps71
  go_wp2_with (go_at_call 83; refine (HY.out _).mono ?_; rintro e w1 ⟨rfl, hw⟩; have hw1 := hw.symm; subst hw1; clear hw)
  go_loopw [4, 6] (fun s4 s6 wr => ∃ (i : Nat) (na : Option Addr) (nl nc : Nat), i ≤ N ∧ s4 = .slice na nl nc ∧ s6 = .int .i64 (bl i) ∧ nl ≤ nc ∧ Hid (∃ ra rc kv u s k vv, Ct w wr how r l i (.slice ba LB bcap) (.slice (some ⟨g, o, none⟩) (PM + 1) pc) ra rc kv u s k vv ∧ RdN w na ((plc r l).drop (wn r i)) ∧ ((plc r l).drop (wn r i)).length = nl)) (fun _ s6 _ => LB - (intOf s6).toNat)
  case atStart =>
    have hb0 : bl 0 = 0 := by rw [← hbl.out 0]; rfl
    exact ⟨0, some ⟨g, o, none⟩, PM + 1, pc, Nat.zero_le _, rfl, by rw [hb0]; rfl, hpc, _, _, _, _, _, _, _, HC0.out, HP.out.1, HP.out.2⟩
  case round =>
    clear HC0 hg3 hg0
    obtain ⟨i, na, nl, nc, hi, rfl, rfl, hnl, HI⟩ := hrel
    obtain ⟨ra, rc, kv, u, s, k, vv, hC, hR, hRl⟩ := HI.out
    clear HI
    have HM := more_any hC.rst
    rcases Nat.lt_or_ge i N with hiN | hiN
    · have hil : i < l.length := by rw [hN.out]; exact hiN
      have hpos := rs_pos (r := r) (l := l) hil
      have hd : decide (0 < (rs r l i).length) = true := by simpa using hpos
      rw [hd] at HM
      obtain ⟨e, he⟩ : ∃ e, l[i]? = some e := ⟨_, List.getElem?_eq_getElem hil⟩
      have hc2 := hC.rst.blk.cell1 2 _ rfl
      have hc3 := hC.rst.blk.cell1 3 _ rfl
      have hc4 := hC.rst.blk.cell1 4 _ rfl
      have hbx : Below wr.heap.size wr (wr.alloc (.cells #[.string u, .int .u64 s, .int .i64 k] 33)) := (Below.refl _ _).alloc (Nat.le_refl _) _
      have hC1 := hC.below hbx
      have BX := Blk.new wr 33 [.string u, .int .u64 s, .int .i64 k]
      obtain ⟨cm, hcm⟩ : ∃ cm, Hid (cA r l i = cm) := ⟨_, rfl⟩
      have HNx := next_wA he HF.out.1 HF.out.2.1 hC1.rst
      rw [hcm.out] at HNx
      obtain ⟨m, hm⟩ : ∃ m, Hid ((rs r l (i + 1)).length = m) := ⟨_, rfl⟩
      have hsub : (LB : Int) - (m : Int) = (bl (i + 1) : Int) := by
        have := rs_len (r := r) (l := l) (i := i + 1) hil
        rw [hm.out, hbl.out, HF.out.2.2.2] at this; omega
      have hblt : bl i < bl (i + 1) := by rw [← hbl.out, ← hbl.out]; exact bt_lt r l (Nat.lt_succ_self i)
      have hble : bl (i + 1) ≤ LB := by omega
      have HLe : Hid (bl i < bl (i + 1) ∧ bl (i + 1) ≤ LB) := ⟨hblt, hble⟩
      have HNn : Hid (∀ w2 kv' rx cx ry cy, Rst w.heap.size w.heap.size w2 (w.heap.size + 1 + 1 + 1) (rs r l (i + 1)) (kP l (i + 1)) ry cy kv' e.u e.s e.k (.slice rx e.v.size cx) → Upd (fun j => j = w.heap.size + 1 + 1 + 1 ∨ kv.ownBlock = some j) (wr.alloc (.cells #[.string u, .int .u64 s, .int .i64 k] 33)) w2 → Cn w w2 how r l i (.slice ba LB bcap) (.slice (some ⟨g, o, none⟩) (PM + 1) pc) ry cy kv' e (.slice rx e.v.size cx) ∧ Blk w2 wr.heap.size 33 [.string u, .int .u64 s, .int .i64 k]) := fun w2 kv' rx cx ry cy R U => by
        obtain ⟨h1, h2⟩ := hC1.next R U
        exact ⟨h1, h2 _ _ BX⟩
      have HCt : Hid (∀ w3 ry cy kv' vv', Cn w w3 how r l i (.slice ba LB bcap) (.slice (some ⟨g, o, none⟩) (PM + 1) pc) ry cy kv' e vv' → Ct w (w3.setCell ⟨w.heap.size + 1, 0, none⟩ (.int .i64 ((i : Int) + 1))) how r l (i + 1) (.slice ba LB bcap) (.slice (some ⟨g, o, none⟩) (PM + 1) pc) ry cy kv' e.u e.s e.k vv') := fun w3 ry cy kv' vv' h => h.count he
      have e9 : (((i + 1 : Nat)) : Int) = (i : Int) + 1 := by omega
      have HE9 : Hid ((((i + 1 : Nat)) : Int) = (i : Int) + 1) := e9
      have hk9 : (i : Int) + 1 ≤ 65536 := by omega
      have HKey : Hid (∀ p, 0 < i → l[i - 1]? = some p → u = p.u ∧ s = p.s ∧ k = p.k) := hC.key
      have HPs := plc_step HF.out.2.2.1 (l := l) (i := i) hil
      rw [hbl.out] at HPs
      clear hC hC1 BX hpos hd hbx e9 hblt hble
      rcases Nat.eq_zero_or_pos i with hi0 | hi0
      · have HA : i % r = 0 ∧ ∃ t, (plc r l).drop (wn r i) = bl i :: t ∧ (plc r l).drop (wn r (i + 1)) = t := by
          rcases HPs with h | h
          · exact h
          · exact absurd (by rw [hi0]; exact Nat.zero_mod r) h.1
        obtain ⟨hz, t, e1, e2⟩ := HA
        have hc0 : cm = 0 := by rw [← hcm.out]; unfold cA; rw [if_pos hz]
        rw [e1] at hR hRl
        obtain ⟨nt, rfl⟩ : ∃ nt, nl = nt + 1 := ⟨t.length, by rw [← hRl]; rfl⟩
        have HRt : Hid (RdN w (cut1 na nc 1) ((plc r l).drop (wn r (i + 1))) ∧ ((plc r l).drop (wn r (i + 1))).length = nt) := by
          rw [e2]
          refine ⟨rdn_tail hR (by rw [hRl]; exact hnl), by simpa using hRl⟩
        obtain ⟨g1, o1, rfl, hg1, hg2⟩ := rdn_at hR
        have HG : Hid (∀ W, Below w.heap.size w W → W.cell? ⟨g1, o1, none⟩ = some (.int .u32 (bl i))) := fun W hW => by rw [hW.cell hg1]; exact hg2
        have hcu : ∀ W, (Instr.sliceAt 74 (.slice (some ⟨g1, o1, none⟩) (nt + 1) nc) (some (.int .i64 1)) none none).run Try.prog W = .ok (.slice (cut1 (some ⟨g1, o1, none⟩) nc 1) nt (nc - 1)) W := fun W => ncut_lo (some ⟨g1, o1, none⟩) (nt + 1) nc 1 (by omega) W
        have hw1 : IntKind.i64.wrap (bl i : Int) = bl i := by rw [IntKind.wrap_i64]; have := HLe.out; omega
        have hq0 : ((cm : Nat) : Int) = 0 := by omega
        rw [hq0] at HNx
        clear e1 e2 hR hRl hg1 hg2 hc0 HPs hq0 hcm
        subst hi0
        replace HCt : Hid (∀ w3 ry cy kv' vv', Cn w w3 how r l 0 (.slice ba LB bcap) (.slice (some ⟨g, o, none⟩) (PM + 1) pc) ry cy kv' e vv' → Ct w (w3.setCell ⟨w.heap.size + 1, 0, none⟩ (.int .i64 1)) how r l 1 (.slice ba LB bcap) (.slice (some ⟨g, o, none⟩) (PM + 1) pc) ry cy kv' e.u e.s e.k vv') := fun w3 ry cy kv' vv' h => by have := HCt.out w3 ry cy kv' vv' h; simpa using this
        replace hsub : (LB : Int) - (m : Int) = (bl 1 : Int) := hsub
        replace HLe : Hid (bl 0 < bl 1 ∧ bl 1 ≤ LB) := HLe.out
        replace HE9 : Hid (((1 : Nat) : Int) = 1) := rfl
        clear hk9
        go_wp2_with (first
          | (go_at_call 53; refine HM.mono ?_; rintro x w1 ⟨rfl, hw⟩; have hw1 := hw.symm; subst hw1; clear hw)
          | (go_at_call 54; refine HNx.mono ?_; rintro x w2 ⟨rfl, kv', rx, cx, ry, cy, r1, r2, r3⟩
             obtain ⟨CN, BX2⟩ := HNn.out _ _ _ _ _ _ r1 r3
             have C9 := HCt.out _ _ _ _ _ CN; have d0 := C9.b2.cell1 0 _ rfl; rw [HE9.out] at d0; have d1 := C9.b1.cell1 1 _ rfl; have d2 := C9.rst.blk.cell1 0 _ rfl; rw [hm.out] at d2; have z0 := CN.b2.frozen 0; have n0 := CN.b2.cell1 0 _ rfl; have g9 := HG.out _ C9.bel; have H9 : Hid _ := C9; clear C9
             clear CN BX2 r1 r2 r3)
          | (go_at_call 83; refine (HY.out _).mono ?_; rintro x w5 ⟨rfl, hw⟩; have hw1 := hw.symm; subst hw1; clear hw))
        go_roundw
        case rel => exact ⟨0 + 1, cut1 (some ⟨g1, o1, none⟩) nc 1, nt, nc - 1, by omega, rfl, rfl, by omega, _, _, _, _, _, _, _, H9.out, HRt.out.1, HRt.out.2⟩
        case measure => have := HLe.out; simp [intOf]; omega
      · obtain ⟨p, hp⟩ : ∃ p, l[i - 1]? = some p := ⟨_, List.getElem?_eq_getElem (by omega)⟩
        obtain ⟨rfl, rfl, rfl⟩ := HKey.out p hi0 hp
        have hop := HS.out (i - 1) p e hp (by rw [Nat.sub_add_cancel hi0]; exact he)
        obtain ⟨od, hod⟩ : ∃ od, Hid (ordE how p e = od) := ⟨_, rfl⟩
        have HOr : Hid (∀ W, Calls Try.prog 22 #[.int .i64 how, .agg #[.string p.u, .int .u64 p.s, .int .i64 p.k], .agg #[.string e.u, .int .u64 e.s, .int .i64 e.k]] W fun x w' => x = .returned (.int .i64 od) ∧ Below W.heap.size W w') := fun W => by rw [← hod.out]; exact cord_bel how p e W
        rw [hod.out] at hop
        have hne : ¬ i = 0 := by omega
        have hnei : ¬ (i : Int) = 0 := by omega
        clear hp he
        rcases HPs with HA | hB
        · obtain ⟨hz, t, e1, e2⟩ := HA
          have hc0 : cm = 0 := by rw [← hcm.out]; unfold cA; rw [if_pos hz]
          rw [e1] at hR hRl
          obtain ⟨nt, rfl⟩ : ∃ nt, nl = nt + 1 := ⟨t.length, by rw [← hRl]; rfl⟩
          have HRt : Hid (RdN w (cut1 na nc 1) ((plc r l).drop (wn r (i + 1))) ∧ ((plc r l).drop (wn r (i + 1))).length = nt) := by
            rw [e2]
            refine ⟨rdn_tail hR (by rw [hRl]; exact hnl), by simpa using hRl⟩
          obtain ⟨g1, o1, rfl, hg1, hg2⟩ := rdn_at hR
          have HG : Hid (∀ W, Below w.heap.size w W → W.cell? ⟨g1, o1, none⟩ = some (.int .u32 (bl i))) := fun W hW => by rw [hW.cell hg1]; exact hg2
          have hcu : ∀ W, (Instr.sliceAt 74 (.slice (some ⟨g1, o1, none⟩) (nt + 1) nc) (some (.int .i64 1)) none none).run Try.prog W = .ok (.slice (cut1 (some ⟨g1, o1, none⟩) nc 1) nt (nc - 1)) W := fun W => ncut_lo (some ⟨g1, o1, none⟩) (nt + 1) nc 1 (by omega) W
          have hw1 : IntKind.i64.wrap (bl i : Int) = bl i := by rw [IntKind.wrap_i64]; have := HLe.out; omega
          have hq0 : ((cm : Nat) : Int) = 0 := by omega
          rw [hq0] at HNx
          clear e1 e2 hR hRl hg1 hg2 hc0 hq0 hcm
          go_wp2_with (first
            | (go_at_call 53; refine HM.mono ?_; rintro x w1 ⟨rfl, hw⟩; have hw1 := hw.symm; subst hw1; clear hw)
            | (go_at_call 54; refine HNx.mono ?_; rintro x w2 ⟨rfl, kv', rx, cx, ry, cy, r1, r2, r3⟩
               obtain ⟨CN2, BX2⟩ := HNn.out _ _ _ _ _ _ r1 r3
               have x0 := BX2.cell1 0 _ rfl; have x1 := BX2.cell1 1 _ rfl; have x2 := BX2.cell1 2 _ rfl
               have k2 := CN2.rst.blk.cell1 2 _ rfl; have k3 := CN2.rst.blk.cell1 3 _ rfl; have k4 := CN2.rst.blk.cell1 4 _ rfl
               have m0 := CN2.b2.cell1 0 _ rfl; have m1 := CN2.b1.cell1 0 _ rfl
               have HCN : Hid (∀ w3, Below w2.heap.size w2 w3 → Cn w w3 how r l i (.slice ba LB bcap) (.slice (some ⟨g, o, none⟩) (PM + 1) pc) ry cy kv' e (.slice rx e.v.size cx)) := fun w3 hb3 => CN2.below hb3
               clear CN2 BX2 r1 r2 r3)
            | (go_at_call 22; refine (HOr.out _).mono ?_; rintro x w3 ⟨rfl, hb3⟩
               have CN := HCN.out _ hb3
               have C9 := HCt.out _ _ _ _ _ CN; have d0 := C9.b2.cell1 0 _ rfl; rw [HE9.out] at d0; have d1 := C9.b1.cell1 1 _ rfl; have d2 := C9.rst.blk.cell1 0 _ rfl; rw [hm.out] at d2; have z0 := CN.b2.frozen 0; have n0 := CN.b2.cell1 0 _ rfl; have g9 := HG.out _ C9.bel; have H9 : Hid _ := C9; clear C9
               clear CN hb3)
            | (go_at_call 83; refine (HY.out _).mono ?_; rintro x w5 ⟨rfl, hw⟩; have hw1 := hw.symm; subst hw1; clear hw))
          go_roundw
          case rel => exact ⟨i + 1, cut1 (some ⟨g1, o1, none⟩) nc 1, nt, nc - 1, by omega, rfl, rfl, by omega, _, _, _, _, _, _, _, H9.out, HRt.out.1, HRt.out.2⟩
          case measure => have := HLe.out; simp [intOf]; omega
        · have HRt : Hid (RdN w na ((plc r l).drop (wn r (i + 1))) ∧ ((plc r l).drop (wn r (i + 1))).length = nl) := by
            rw [hB.2.1]; exact ⟨hR, hRl⟩
          by_cases hcc : cm = 0
          · cases hx : (plc r l).drop (wn r i) with
            | nil =>
              obtain rfl : nl = 0 := by rw [← hRl, hx]; rfl
              have hq0 : ((cm : Nat) : Int) = 0 := by omega
              rw [hq0] at HNx
              clear hR hRl hB hq0 hcm hcc hx
              go_wp2_with (first
                | (go_at_call 53; refine HM.mono ?_; rintro x w1 ⟨rfl, hw⟩; have hw1 := hw.symm; subst hw1; clear hw)
                | (go_at_call 54; refine HNx.mono ?_; rintro x w2 ⟨rfl, kv', rx, cx, ry, cy, r1, r2, r3⟩
                   obtain ⟨CN2, BX2⟩ := HNn.out _ _ _ _ _ _ r1 r3
                   have x0 := BX2.cell1 0 _ rfl; have x1 := BX2.cell1 1 _ rfl; have x2 := BX2.cell1 2 _ rfl
                   have k2 := CN2.rst.blk.cell1 2 _ rfl; have k3 := CN2.rst.blk.cell1 3 _ rfl; have k4 := CN2.rst.blk.cell1 4 _ rfl
                   have m0 := CN2.b2.cell1 0 _ rfl; have m1 := CN2.b1.cell1 0 _ rfl
                   have HCN : Hid (∀ w3, Below w2.heap.size w2 w3 → Cn w w3 how r l i (.slice ba LB bcap) (.slice (some ⟨g, o, none⟩) (PM + 1) pc) ry cy kv' e (.slice rx e.v.size cx)) := fun w3 hb3 => CN2.below hb3
                   clear CN2 BX2 r1 r2 r3)
                | (go_at_call 22; refine (HOr.out _).mono ?_; rintro x w3 ⟨rfl, hb3⟩
                   have CN := HCN.out _ hb3
                   have C9 := HCt.out _ _ _ _ _ CN; have d0 := C9.b2.cell1 0 _ rfl; rw [HE9.out] at d0; have d1 := C9.b1.cell1 1 _ rfl; have d2 := C9.rst.blk.cell1 0 _ rfl; rw [hm.out] at d2; have z0 := CN.b2.frozen 0; have n0 := CN.b2.cell1 0 _ rfl; have H9 : Hid _ := C9; clear C9
                   clear CN hb3)
                | (go_at_call 83; refine (HY.out _).mono ?_; rintro x w5 ⟨rfl, hw⟩; have hw1 := hw.symm; subst hw1; clear hw))
              go_roundw
              case rel => exact ⟨i + 1, na, 0, nc, by omega, rfl, rfl, by omega, _, _, _, _, _, _, _, H9.out, HRt.out.1, HRt.out.2⟩
              case measure => have := HLe.out; simp [intOf]; omega
            | cons x t =>
              have hgt := hB.2.2 x t hx
              rw [hx] at hR hRl
              obtain ⟨nt, rfl⟩ : ∃ nt, nl = nt + 1 := ⟨t.length, by rw [← hRl]; rfl⟩
              obtain ⟨g1, o1, rfl, hg1, hg2⟩ := rdn_at hR
              obtain ⟨X, hX⟩ : ∃ X : Int, Hid ((x : Int) = X) := ⟨_, rfl⟩
              obtain ⟨Y, hY⟩ : ∃ Y : Int, Hid ((bl i : Int) = Y) := ⟨_, rfl⟩
              have HG : Hid (∀ W, Below w.heap.size w W → W.cell? ⟨g1, o1, none⟩ = some (.int .u32 X)) := fun W hW => by rw [hW.cell hg1, ← hX.out]; exact hg2
              have hxb := plc_bd (r := r) (l := l) (by rw [HF.out.2.2.2]; exact hb) x (List.mem_of_mem_drop (by rw [hx]; exact List.mem_cons_self))
              have hw1 : IntKind.i64.wrap X = X := by rw [← hX.out, IntKind.wrap_i64]; omega
              have hx1 : ¬ X = Y := by rw [← hX.out, ← hY.out]; omega
              rw [hY.out]
              have hq0 : ((cm : Nat) : Int) = 0 := by omega
              rw [hq0] at HNx
              clear hR hRl hB hq0 hcm hcc hx hg1 hg2 hgt hxb
              go_upto_region 13 with (first
                | (go_at_call 53; refine HM.mono ?_; rintro x w1 ⟨rfl, hw⟩; have hw1 := hw.symm; subst hw1; clear hw)
                | (go_at_call 54; refine HNx.mono ?_; rintro x w2 ⟨rfl, kv', rx, cx, ry, cy, r1, r2, r3⟩
                   obtain ⟨CN2, BX2⟩ := HNn.out _ _ _ _ _ _ r1 r3
                   have x0 := BX2.cell1 0 _ rfl; have x1 := BX2.cell1 1 _ rfl; have x2 := BX2.cell1 2 _ rfl
                   have k2 := CN2.rst.blk.cell1 2 _ rfl; have k3 := CN2.rst.blk.cell1 3 _ rfl; have k4 := CN2.rst.blk.cell1 4 _ rfl
                   have m0 := CN2.b2.cell1 0 _ rfl; have m1 := CN2.b1.cell1 0 _ rfl
                   have HCN : Hid (∀ w3, Below w2.heap.size w2 w3 → Cn w w3 how r l i (.slice ba LB bcap) (.slice (some ⟨g, o, none⟩) (PM + 1) pc) ry cy kv' e (.slice rx e.v.size cx)) := fun w3 hb3 => CN2.below hb3
                   clear CN2 BX2 r1 r2 r3)
                | (go_at_call 22; refine (HOr.out _).mono ?_; rintro x w3 ⟨rfl, hb3⟩
                   have CN := HCN.out _ hb3
                   have C9 := HCt.out _ _ _ _ _ CN; have d0 := C9.b2.cell1 0 _ rfl; rw [HE9.out] at d0; have d1 := C9.b1.cell1 1 _ rfl; have d2 := C9.rst.blk.cell1 0 _ rfl; rw [hm.out] at d2; have z0 := CN.b2.frozen 0; have n0 := CN.b2.cell1 0 _ rfl; have g9 := HG.out _ C9.bel; have H9 : Hid _ := C9; clear C9
                   clear CN hb3)
                | (go_at_call 83; refine (HY.out _).mono ?_; rintro x w5 ⟨rfl, hw⟩; have hw1 := hw.symm; subst hw1; clear hw))
              have HZ : Hid (i + 1 ≤ N ∧ nt + 1 ≤ nc) := ⟨hiN, hnl⟩
              clear hop hne hnei hk9 hi0 hiN hil hnl hlN hpc hg hi hr
              go_wp2
              go_roundw
              case rel => exact ⟨i + 1, some ⟨g1, o1, none⟩, nt + 1, nc, HZ.out.1, rfl, rfl, HZ.out.2, _, _, _, _, _, _, _, H9.out, HRt.out.1, HRt.out.2⟩
              case measure => have := HLe.out; have hY2 := hY.out; rw [← hY2]; simp [intOf]; omega
          · have hc1 : ¬ (cm : Int) = 0 := by omega
            clear hR hRl hB
            go_wp2_with (first
              | (go_at_call 53; refine HM.mono ?_; rintro x w1 ⟨rfl, hw⟩; have hw1 := hw.symm; subst hw1; clear hw)
              | (go_at_call 54; refine HNx.mono ?_; rintro x w2 ⟨rfl, kv', rx, cx, ry, cy, r1, r2, r3⟩
                 obtain ⟨CN2, BX2⟩ := HNn.out _ _ _ _ _ _ r1 r3
                 have x0 := BX2.cell1 0 _ rfl; have x1 := BX2.cell1 1 _ rfl; have x2 := BX2.cell1 2 _ rfl
                 have k2 := CN2.rst.blk.cell1 2 _ rfl; have k3 := CN2.rst.blk.cell1 3 _ rfl; have k4 := CN2.rst.blk.cell1 4 _ rfl
                 have m0 := CN2.b2.cell1 0 _ rfl; have m1 := CN2.b1.cell1 0 _ rfl
                 have HCN : Hid (∀ w3, Below w2.heap.size w2 w3 → Cn w w3 how r l i (.slice ba LB bcap) (.slice (some ⟨g, o, none⟩) (PM + 1) pc) ry cy kv' e (.slice rx e.v.size cx)) := fun w3 hb3 => CN2.below hb3
                 clear CN2 BX2 r1 r2 r3)
              | (go_at_call 22; refine (HOr.out _).mono ?_; rintro x w3 ⟨rfl, hb3⟩
                 have CN := HCN.out _ hb3
                 have C9 := HCt.out _ _ _ _ _ CN; have d0 := C9.b2.cell1 0 _ rfl; rw [HE9.out] at d0; have d1 := C9.b1.cell1 1 _ rfl; have d2 := C9.rst.blk.cell1 0 _ rfl; rw [hm.out] at d2; have z0 := CN.b2.frozen 0; have n0 := CN.b2.cell1 0 _ rfl; have H9 : Hid _ := C9; clear C9
                 clear CN hb3)
              | (go_at_call 83; refine (HY.out _).mono ?_; rintro x w5 ⟨rfl, hw⟩; have hw1 := hw.symm; subst hw1; clear hw))
            go_roundw
            case rel => exact ⟨i + 1, na, nl, nc, by omega, rfl, rfl, hnl, _, _, _, _, _, _, _, H9.out, HRt.out.1, HRt.out.2⟩
            case measure => have := HLe.out; simp [intOf]; omega
    · obtain rfl : i = N := by omega
      have hnil : rs r l i = [] := by rw [← hN.out]; exact rs_end r l
      have hd : decide (0 < (rs r l i).length) = false := by rw [hnil]; rfl
      rw [hd] at HM
      have n0 := hC.b2.cell1 0 _ rfl
      have z0 := hC.b2.frozen 0
      have z1 := hC.b3.frozen 0
      have n1 := hC.b3.cell1 0 _ rfl
      have HEn : Hid (∀ T : Array Value, T[2]? = some (ptr (w.heap.size + 1)) → T[3]? = some (ptr (w.heap.size + 1 + 1)) → bodyPostD Try.prog Try.f71 (fun e w' => e = .returned (.tuple #[.int .i64 i, .int .i64 0]) ∧ Below w.heap.size w w') .ret { tmps := T, defers := [dfr w.heap.size] } ((wr.setCell ⟨w.heap.size + 1, 0, none⟩ (.int .i64 i)).setCell ⟨w.heap.size + 1 + 1, 0, none⟩ (.int .i64 0))) := fun T h2 h3 => by
        have U1 : Upd (fun j => j = w.heap.size + 1) wr (wr.setCell ⟨w.heap.size + 1, 0, none⟩ (.int .i64 i)) := Upd.setCell (p := ⟨w.heap.size + 1, 0, none⟩) (Upd.refl (fun j => j = w.heap.size + 1) _) (fun _ => rfl) _
        have U2 : Upd (fun j => j = w.heap.size + 1 + 1) (wr.setCell ⟨w.heap.size + 1, 0, none⟩ (.int .i64 i)) ((wr.setCell ⟨w.heap.size + 1, 0, none⟩ (.int .i64 i)).setCell ⟨w.heap.size + 1 + 1, 0, none⟩ (.int .i64 0)) := Upd.setCell (p := ⟨w.heap.size + 1 + 1, 0, none⟩) (Upd.refl (fun j => j = w.heap.size + 1 + 1) _) (fun _ => rfl) _
        have q2 : Blk ((wr.setCell ⟨w.heap.size + 1, 0, none⟩ (.int .i64 i)).setCell ⟨w.heap.size + 1 + 1, 0, none⟩ (.int .i64 0)) (w.heap.size + 1) 3 [.int .i64 i] := Blk.upd (hC.b2.set 0 (.int .i64 i)) U2 (by omega)
        have q3 : Blk ((wr.setCell ⟨w.heap.size + 1, 0, none⟩ (.int .i64 i)).setCell ⟨w.heap.size + 1 + 1, 0, none⟩ (.int .i64 0)) (w.heap.size + 1 + 1) 24 [.int .i64 0] := (hC.b3.upd U1 (by omega)).set 0 (.int .i64 0)
        have hB1 : Below w.heap.size w (wr.setCell ⟨w.heap.size + 1, 0, none⟩ (.int .i64 i)) := hC.bel.trans (U1.below (fun j hj => Nat.lt_of_lt_of_le hj hC.bel.size) (fun j hj => by omega))
        have hB2 := hB1.trans (U2.below (fun j hj => Nat.lt_of_lt_of_le hj hB1.size) (fun j hj => by omega))
        exact door_ok q2 q3 T h2 h3 ⟨rfl, hB2⟩
      clear hd hnil
      rcases Nat.eq_zero_or_pos i with hi0 | hi0
      · have hl0 : l.length = 0 := by rw [hN.out]; exact hi0
        subst hi0
        have hp1 : (plc r l).drop (wn r 0) = [0] := by
          show (plc r l).drop 0 = _
          unfold plc; rw [if_pos hl0]; rfl
        obtain rfl : nl = 1 := by rw [← hRl, hp1]; rfl
        have hcu : ∀ W, (Instr.sliceAt 74 (.slice na 1 nc) (some (.int .i64 1)) none none).run Try.prog W = .ok (.slice (cut1 na nc 1) 0 (nc - 1)) W := fun W => ncut_lo na 1 nc 1 (by omega) W
        clear hC hR hRl hp1 hl0
        go_wp2_with (first
          | (go_at_call 53; refine HM.mono ?_; rintro x w1 ⟨rfl, hw⟩; have hw1 := hw.symm; subst hw1; clear hw)
          | (go_at_call 83; refine (HY.out _).mono ?_; rintro x w5 ⟨rfl, hw⟩; have hw1 := hw.symm; subst hw1; clear hw))
        exact HEn.out _ rfl rfl
      · have hp1 : (plc r l).drop (wn r i) = [] := by have := plc_end (r := r) (l := l) (by rw [hN.out]; omega); rw [hN.out] at this; exact this
        obtain rfl : nl = 0 := by rw [← hRl, hp1]; rfl
        have hne : ¬ i = 0 := by omega
        have hnei : ¬ (i : Int) = 0 := by omega
        clear hC hR hRl hp1
        go_wp2_with (first
          | (go_at_call 53; refine HM.mono ?_; rintro x w1 ⟨rfl, hw⟩; have hw1 := hw.symm; subst hw1; clear hw)
          | (go_at_call 83; refine (HY.out _).mono ?_; rintro x w5 ⟨rfl, hw⟩; have hw1 := hw.symm; subst hw1; clear hw))
        exact HEn.out _ rfl rfl
end Go.Proofs.Ytbnllobofndckaa
