/-
  The sort at uint32: what one round of pdqsort reckons with, over variables.
-/
import Derived.Test.YtkpijoogaicodaaHn
import Derived.Test.YtkpijoogaicodaaHj
import Derived.Sort.Walk13a
import Derived.Sort.AssemblyPlain
import Derived.Test.YtkpijoogaicodaaHb
namespace Go.Proofs.Ytkpijoogaicodaa
open Go.RowKit Go.Sort
set_option linter.unusedVariables false
set_option linter.unusedSimpArgs false
/-- One round of the loop: the arrays and numbers ahead of the partition, and what is left to do behind it. -/
structure Round (d : Array Int) (a b lim : Nat) (wb wp : Bool) (d1 : Array Int) (lim1 c1 : Nat) (c2 : Hint) (d2 : Array Int) (pv : Nat) (hint : Hint) (d3 : Array Int) (done : Bool) : Prop where
  size1 : d1.size = d.size
  size2 : d2.size = d.size
  size3 : d3.size = d.size
  pva : a ≤ pv
  pvb : pv < b
  c1a : a ≤ c1
  c1b : c1 < b
  lim_le : lim1 ≤ lim
  below : Go.Sort.Below ltInt a b d3
  brk : wb = false → d1 = breakPatterns d a b ∧ lim1 = lim - 1
  bal : wb = true → d1 = d ∧ lim1 = lim
  piv : choosePivot ltInt d1 a b = (c1, c2)
  dec : c2 = .decreasing → d2 = reverseRange d1 a b ∧ pv = (b - 1) - (c1 - a) ∧ hint = .increasing
  ndec : c2 ≠ .decreasing → d2 = d1 ∧ pv = c1 ∧ hint = c2
  yes : (wb && wp && decide (hint = .increasing)) = true → partialInsertionSort ltInt d2 a b = (d3, done)
  no : (wb && wp && decide (hint = .increasing)) = false → d3 = d2 ∧ done = false
  fin : done = true → pdq ltInt d a b lim wb wp = d3
  eql : done = false → (decide (a > 0) && !ltInt d3[a - 1]! d3[pv]!) = true → ∀ mid d4, partitionEqual ltInt d3 a b pv = (mid, d4) → a < mid ∧ mid ≤ b → pdq ltInt d a b lim wb wp = pdq ltInt d4 mid b lim1 wb wp
  left : done = false → (decide (a > 0) && !ltInt d3[a - 1]! d3[pv]!) = false → ∀ mid ap d4, partition ltInt d3 a b pv = (mid, ap, d4) → a ≤ mid ∧ mid < b → mid - a < b - mid → pdq ltInt d a b lim wb wp = pdq ltInt (pdq ltInt d4 a mid lim1 true true) (mid + 1) b lim1 (decide (mid - a ≥ (b - a) / 8)) ap
  right : done = false → (decide (a > 0) && !ltInt d3[a - 1]! d3[pv]!) = false → ∀ mid ap d4, partition ltInt d3 a b pv = (mid, ap, d4) → a ≤ mid ∧ mid < b → ¬ mid - a < b - mid → pdq ltInt d a b lim wb wp = pdq ltInt (pdq ltInt d4 (mid + 1) b lim1 true true) a mid lim1 (decide (b - mid ≥ (b - a) / 8)) ap
theorem round_of (d : Array Int) (a b lim : Nat) (wb wp : Bool) (h12 : ¬ b - a ≤ 12) (h0 : ¬ lim = 0) (hb : b ≤ d.size) (hB : Go.Sort.Below ltInt a b d) :
    ∃ d1 lim1 c1 c2 d2 pv hint d3 done, Round d a b lim wb wp d1 lim1 c1 c2 d2 pv hint d3 done := by
  obtain ⟨s1, B1, hc1, s2, B2, hpv, s3, B3⟩ := rd_facts (limit := lim) (wb := wb) (wp := wp) swo_ltInt partialInsertionSort_holds reverseRange_holds (show a < b by omega) hb hB
  refine ⟨(rd ltInt d a b lim wb wp).d1, (rd ltInt d a b lim wb wp).lim, (rd ltInt d a b lim wb wp).c.1, (rd ltInt d a b lim wb wp).c.2, (rd ltInt d a b lim wb wp).d2, (rd ltInt d a b lim wb wp).pivot, (rd ltInt d a b lim wb wp).hint, (rd ltInt d a b lim wb wp).pi.1, (rd ltInt d a b lim wb wp).pi.2, ?_⟩
  exact {
    size1 := s1, size2 := s2, size3 := s3, pva := hpv.1, pvb := hpv.2, c1a := hc1.1, c1b := hc1.2, lim_le := rd_lim_le, below := B3
    brk := fun e => by subst e; exact ⟨rfl, rfl⟩
    bal := fun e => by subst e; exact ⟨rfl, rfl⟩
    piv := rfl
    dec := fun e => rd_dec e
    ndec := fun e => rd_not e
    yes := fun e => (rd_pi_yes e).symm
    no := fun e => by rw [rd_pi_no e]; exact ⟨rfl, rfl⟩
    fin := fun e => pdq_done h12 h0 e
    eql := fun e1 e2 mid d4 hx hm => by rw [pdq_eq h12 h0 e1 e2 (by rw [hx]; exact hm), hx]
    left := fun e1 e2 mid ap d4 hx hm hl => by rw [pdq_left h12 h0 e1 e2 (by rw [hx]; exact hm) (by rw [hx]; exact hl), hx]
    right := fun e1 e2 mid ap d4 hx hm hl => by rw [pdq_right h12 h0 e1 e2 (by rw [hx]; exact hm) (by rw [hx]; exact hl), hx] }
end Go.Proofs.Ytkpijoogaicodaa
namespace Go.Proofs.Ytkpijoogaicodaa
open Go.RowKit Go.Sort
set_option linter.unusedVariables false
set_option linter.unusedSimpArgs false
theorem rev_go {i j : Nat} (d : Array Int) (h : i < j) : reverseLoop i j d = reverseLoop (i + 1) (j - 1) (swp d i j) := by rw [reverseLoop, if_pos h]
theorem rev_stop {i j : Nat} (d : Array Int) (h : ¬ i < j) : reverseLoop i j d = d := by rw [reverseLoop, if_neg h]
set_option maxRecDepth 100000 in
set_option maxHeartbeats 4000000 in
theorem rev_any (blk off cap a b : Nat) (d : Array Int) (w : World) (h : Holds (Value.int .u32) w blk off d) (hab : a < b) (hb : b ≤ d.size) (hsz : d.size < 4611686018427387904) :
    Calls Try.prog 86 #[.slice (some ⟨blk, off, none⟩) d.size cap, .int .i64 a, .int .i64 b] w fun e w' => e = .returned (.tuple #[]) ∧ Rw w blk off d.size (Sort.reverseRange d a b) w' := by
  obtain ⟨N, hN⟩ : ∃ N, N = d.size := ⟨_, rfl⟩
  have h0 : Hid (Holds (Value.int .u32) w blk off d) := h
  have r0 : Rw w blk off N d w := hN ▸ Rw.start h
  rw [← hN] at hb hsz ⊢
  clear h
  go_enter Try.func86, Try.ntmps86
  go_wp2
  go_loopw [6, 7] (fun vi vj wr => ∃ (i j : Nat) (y : Array Int), vi = .int .i64 i ∧ vj = .int .i64 j ∧ a ≤ i ∧ i ≤ b ∧ j < b ∧ Hid (Rw w blk off N y wr ∧ reverseLoop i j y = Sort.reverseRange d a b)) (fun vi _ _ => b - (intOf vi).toNat)
  case atStart => exact ⟨a, b - 1, d, rfl, by go_num, by omega, by omega, by omega, r0, rfl⟩
  case round =>
    obtain ⟨i, j, y, rfl, rfl, hai, hib, hjb, hy⟩ := hrel
    obtain ⟨G, hG⟩ : ∃ G : Nat → Int, Hid (∀ t, G t = y[t]!) := ⟨fun t => y[t]!, fun _ => rfl⟩
    have hc : ∀ t, t < N → wr.cell? ⟨blk, off + t, none⟩ = some (.int .u32 (G t)) := fun t ht => by rw [hG.out]; exact hy.out.1.cell h0.out hN.symm t ht
    have hf : ∀ t, t < N → wr.frozen? ⟨blk, off + t, none⟩ = false := hy.out.1.froz h0.out hN.symm
    go_wp2
    · have hij : i < j := by assumption
      go_region
      all_goals go_wp2
      go_roundw
      case rel =>
        refine ⟨i + 1, j - 1, swp y i j, by go_num, by go_num, by omega, by omega, by omega, ?_, ?_⟩
        · have := hy.out.1.swap 1 (j := i) (k := j) (by omega) (by omega)
          rw [← hG.out, ← hG.out] at this
          exact this
        · rw [← hy.out.2, rev_go y hij]
      case measure => simp [intOf]; omega
    · have hij : ¬ i < j := by assumption
      go_end0
      have e := hy.out.2
      rw [rev_stop y hij] at e
      exact ⟨rfl, e ▸ hy.out.1⟩
end Go.Proofs.Ytkpijoogaicodaa
