/-
  counted, of bytes that were written: nothing is wrong.
-/
import Derived.Test.YtbnllobofndckaaPm
import Derived.Test.YtbnllobofndckaaOe
import Derived.Defers
import Derived.Recover
namespace Go.Proofs.Ytbnllobofndckaa
open Go.RowKit
set_option linter.unusedVariables false
set_option linter.unusedSimpArgs false
set_option maxRecDepth 100000 in
/-- The deferred closure, where nothing panics. -/
theorem catch_idle (p q : Addr) (w : World) :
    CallsD Try.prog 93 #[.pointer (some p), .pointer (some q)] .returning w fun e u' w' => e = .returned (.tuple #[]) ∧ u' = .returning ∧ w' = w := by
  refine callsD_of_wpS Try.func93 rfl fun c₀ cs hu => ?_
  apply wpS_seq
  apply wpS_region
  simp [wpOpsS, go_sem, recoverD, hu, Try.ntmps93, Exit.thenS]
  refine wpS_of_wp ?_
  simp only [Array.replicate_succ, Array.replicate_zero, List.push_toArray, List.append_toArray, List.nil_append, List.cons_append]
  go_wp2
  cases c₀
  simp_all [bodyPostS, results, Try.results93, Exit.thenS]
/-- The deferred call of counted. -/
def dfr (N : Nat) : Deferred := { target := .fn (.func 93) #[.pointer (some ⟨N + 1, 0, none⟩), .pointer (some ⟨N + 1 + 1, 0, none⟩)], args := #[] }
theorem door_ok {w W : World} {n : Int} (b2 : Blk W (w.heap.size + 1) 3 [.int .i64 n]) (b3 : Blk W (w.heap.size + 1 + 1) 24 [.int .i64 0]) (T : Array Value) (h2 : T[2]? = some (ptr (w.heap.size + 1))) (h3 : T[3]? = some (ptr (w.heap.size + 1 + 1))) {R : Ending → World → Prop}
    (hR : R (.returned (.tuple #[.int .i64 n, .int .i64 0])) W) :
    bodyPostD Try.prog Try.f71 R .ret { tmps := T, defers := [dfr w.heap.size] } W := by
  have d0 := b2.cell1 0 _ rfl
  have d1 := b3.cell1 0 _ rfl
  refine leaves_cons (f := 93) (args := #[.pointer (some ⟨w.heap.size + 1, 0, none⟩), .pointer (some ⟨w.heap.size + 1 + 1, 0, none⟩)]) (by simp) (by simp [go_sem, dfr]) ?_
  refine (catch_idle ⟨w.heap.size + 1, 0, none⟩ ⟨w.heap.size + 1 + 1, 0, none⟩ W).mono ?_
  rintro e u' w'' ⟨rfl, rfl, rfl⟩
  refine ⟨.tuple #[.int .i64 n, .int .i64 0], ?_, hR⟩
  simp [results, Try.results71, go_sem, h2, h3, d0, d1]
/-- Cuts of numbers. -/
def cut1 (a : Option Addr) (cap m : Nat) : Option Addr := if cap = m then a else a.map (·.add m)
theorem elem74 : Try.prog.elem 74 = 90 := by kernel_rfl
theorem slc74 : Try.prog.underlying 74 = some (.slice (Try.prog.elem 74)) := by rw [elem74]; exact Try.underlying74
theorem ncut_lo (a : Option Addr) (n cap m : Nat) (h : m ≤ n) (W : World) : (Instr.sliceAt 74 (.slice a n cap) (some (.int .i64 m)) none none).run Try.prog W = .ok (.slice (cut1 a cap m) (n - m) (cap - m)) W := by
  have hs : (sizeOf 90).run Try.prog W = .ok 1 W := by kernel_rfl
  have hr := run_slice_l (P := Try.prog) W 74 a n cap slc74 .i64 (m : Int) (by omega) (by omega)
  rw [elem74, hs] at hr
  simp only [Result.andThen, sliced, Int.toNat_natCast] at hr
  rw [run_sliceAt_slice _ _ _ _ _ _ slc74, hr]
  unfold cut1
  cases a <;> split <;> simp
theorem rdn_tail {w : World} {a : Option Addr} {cap x : Nat} {t : List Nat} (h : RdN w a (x :: t)) (hc : (x :: t).length ≤ cap) : RdN w (cut1 a cap 1) t := by
  rcases h with h | ⟨g, o, rfl, h⟩
  · cases h
  · cases t with
    | nil => exact .inl rfl
    | cons y t =>
      refine .inr ⟨g, o + 1, ?_, fun j z hz => ?_⟩
      · unfold cut1
        rw [if_neg (by simp at hc; omega)]
        simp [G.add_at]
      · have := h (j + 1) z (by simpa using hz)
        rw [show o + (j + 1) * 1 = o + 1 + j * 1 by omega] at this
        exact this
/-- All that is so while counted reads. -/
structure Ct (w wr : World) (how : Int) (r : Nat) (l : List Ent) (i : Nat) (bv pv : Value) (ra : Option Addr) (rc : Nat) (kv : Value) (u : ByteArray) (s k : Int) (vv : Value) : Prop where
  rst : Rst w.heap.size wr (w.heap.size + 1 + 1 + 1) (rs r l i) (kP l i) ra rc kv u s k vv
  b1 : Blk wr w.heap.size 76 [.int .i64 how, bv, pv, .int .i64 0]
  b2 : Blk wr (w.heap.size + 1) 3 [.int .i64 i]
  b3 : Blk wr (w.heap.size + 1 + 1) 24 [.int .i64 0]
  key : ∀ p, 0 < i → l[i - 1]? = some p → u = p.u ∧ s = p.s ∧ k = p.k
  bel : Below w.heap.size w wr
theorem Ct.below {w wr wr' : World} {how : Int} {r : Nat} {l : List Ent} {i : Nat} {bv pv : Value} {ra : Option Addr} {rc : Nat} {kv : Value} {u : ByteArray} {s k : Int} {vv : Value} (h : Ct w wr how r l i bv pv ra rc kv u s k vv) (hb : Below wr.heap.size wr wr') : Ct w wr' how r l i bv pv ra rc kv u s k vv :=
  ⟨h.rst.below hb, h.b1.upd (S := Non) (Upd.ofBelow hb) (fun h => h), h.b2.upd (S := Non) (Upd.ofBelow hb) (fun h => h), h.b3.upd (S := Non) (Upd.ofBelow hb) (fun h => h), h.key, h.bel.trans (hb.mono h.bel.size)⟩
/-- An entry was read; the count is still the old one. -/
structure Cn (w wr : World) (how : Int) (r : Nat) (l : List Ent) (i : Nat) (bv pv : Value) (ra : Option Addr) (rc : Nat) (kv : Value) (e : Ent) (vv : Value) : Prop where
  rst : Rst w.heap.size wr (w.heap.size + 1 + 1 + 1) (rs r l (i + 1)) (kP l (i + 1)) ra rc kv e.u e.s e.k vv
  b1 : Blk wr w.heap.size 76 [.int .i64 how, bv, pv, .int .i64 0]
  b2 : Blk wr (w.heap.size + 1) 3 [.int .i64 i]
  b3 : Blk wr (w.heap.size + 1 + 1) 24 [.int .i64 0]
  bel : Below w.heap.size w wr
theorem Cn.below {w wr wr' : World} {how : Int} {r : Nat} {l : List Ent} {i : Nat} {bv pv : Value} {ra : Option Addr} {rc : Nat} {kv : Value} {e : Ent} {vv : Value} (h : Cn w wr how r l i bv pv ra rc kv e vv) (hb : Below wr.heap.size wr wr') : Cn w wr' how r l i bv pv ra rc kv e vv :=
  ⟨h.rst.below hb, h.b1.upd (S := Non) (Upd.ofBelow hb) (fun h => h), h.b2.upd (S := Non) (Upd.ofBelow hb) (fun h => h), h.b3.upd (S := Non) (Upd.ofBelow hb) (fun h => h), h.bel.trans (hb.mono h.bel.size)⟩
theorem Ct.next {w wr w1 : World} {how : Int} {r : Nat} {l : List Ent} {i : Nat} {bv pv : Value} {ra : Option Addr} {rc : Nat} {kv : Value} {u : ByteArray} {s k : Int} {vv : Value} (h : Ct w wr how r l i bv pv ra rc kv u s k vv) {ry : Option Addr} {cy : Nat} {kv' : Value} {e : Ent} {vv' : Value}
    (hR : Rst w.heap.size w1 (w.heap.size + 1 + 1 + 1) (rs r l (i + 1)) (kP l (i + 1)) ry cy kv' e.u e.s e.k vv') (U : Upd (fun j => j = w.heap.size + 1 + 1 + 1 ∨ kv.ownBlock = some j) wr w1) :
    Cn w w1 how r l i bv pv ry cy kv' e vv' ∧ ∀ xb cs, Blk wr xb 33 cs → Blk w1 xb 33 cs := by
  have key : ∀ {b : Nat} {t : TypeId} {cs : List Value}, Blk wr b t cs → t ≠ 5 → b ≠ w.heap.size + 1 + 1 + 1 → Blk w1 b t cs := fun hb ht hn => hb.upd U (fun hs => by
    rcases hs with hs | hs
    · exact hn hs
    · exact G.row_ne h.rst.row hb (Ne.symm ht) _ hs rfl)
  refine ⟨⟨hR, key h.b1 (by decide) (by omega), key h.b2 (by decide) (by omega), key h.b3 (by decide) (by omega), h.bel.trans (U.below (fun j hj => Nat.lt_of_lt_of_le hj h.bel.size) (fun j hj => ?_))⟩, fun xb cs hx => key hx (by decide) (fun e => ?_)⟩
  · rcases hj with hj | hj
    · omega
    · exact (G.row_blk h.rst.row j hj).1
  · subst e
    have := hx.ne h.rst.blk (by decide)
    exact this rfl
theorem Cn.count {w wr : World} {how : Int} {r : Nat} {l : List Ent} {i : Nat} {bv pv : Value} {ra : Option Addr} {rc : Nat} {kv : Value} {e : Ent} {vv : Value} (h : Cn w wr how r l i bv pv ra rc kv e vv) (he : l[i]? = some e) : Ct w (wr.setCell ⟨w.heap.size + 1, 0, none⟩ (.int .i64 ((i : Int) + 1))) how r l (i + 1) bv pv ra rc kv e.u e.s e.k vv := by
  have U : Upd (fun j => j = w.heap.size + 1) wr (wr.setCell ⟨w.heap.size + 1, 0, none⟩ (.int .i64 ((i : Int) + 1))) := Upd.setCell (p := ⟨w.heap.size + 1, 0, none⟩) (Upd.refl (fun j => j = w.heap.size + 1) _) (fun _ => rfl) _
  refine ⟨h.rst.upd U (by omega) (fun hne b o eb hs => ?_) (fun j hj hs => ?_), h.b1.upd U (by omega), ?_, h.b3.upd U (by omega), fun p _ hp => ?_, h.bel.trans (U.below (fun j hj => Nat.lt_of_lt_of_le hj h.bel.size) (fun j hj => by omega))⟩
  · have := h.rst.old hne b o eb
    omega
  · subst hs
    exact G.row_ne h.rst.row h.b2 (by decide) _ hj rfl
  · have := h.b2.set 0 (.int .i64 ((i : Int) + 1))
    have e2 : (((i + 1 : Nat) : Int)) = (i : Int) + 1 := by omega
    rw [e2]; exact this
  · rw [Nat.add_sub_cancel, he] at hp
    cases hp
    exact ⟨rfl, rfl, rfl⟩
end Go.Proofs.Ytbnllobofndckaa
