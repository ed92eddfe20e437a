/-
  The sort at uint64: partitionEqual.
  The sort at uint64: partition.
  The sort at uint64: bits.Len, nextPowerOfTwo, the xorshift, breakPatterns (at most 16777215 elements).
  The sort at uint64: median, medianAdjacent, choosePivot.
  The sort at uint64: medianAdjacent, choosePivot.
  The sort at uint64: breakPatterns (at most 16777215 elements).
  The sort at uint64: partialInsertionSort.
  The sort at uint64: what one round of pdqsort reckons with, over variables.
-/
import Derived.Test.YtkmpcheamdadcaaVd
import Derived.Deep.RegionLaw
import Derived.BigQuiet
import Derived.Sort.WalkA
import Derived.Sort.LotC
import Derived.Sort.WalkC
import Derived.Deep.CutBlock
import Derived.Laws.BitsAllLaws
import Derived.Sort.OwnSortedInts
import Derived.Sort.Walk7
import Derived.Sort.WalkA6
import Derived.Sort.LotA
import Derived.Sort.Walk13a
import Derived.Sort.AssemblyPlain
namespace Go.Proofs.Ytkmpcheamdadcaa.Srt
open Go.RowKit Go.Sort
set_option linter.unusedVariables false
set_option linter.unusedSimpArgs false
set_option maxRecDepth 100000 in
/-- No number of a kind of ints is 'not a number'. -/
theorem isnan_any (x : Int) (w : World) : Calls Try.prog 110 #[.int .u64 x] w fun e w' => e = .returned (.bool false) ∧ w' = w := by
  go_enter Try.func110, Try.ntmps110
  go_wp2
  go_ret
  exact ⟨rfl, rfl⟩
set_option maxRecDepth 100000 in
theorem less_any (x y : Int) (w : World) : Calls Try.prog 118 #[.int .u64 x, .int .u64 y] w fun e w' => e = .returned (.bool (ltInt x y)) ∧ w' = w := by
  go_enter Try.func118, Try.ntmps118
  go_wp2_with (go_at_call 110; refine (isnan_any x w).mono ?_; rintro e w' ⟨rfl, rfl⟩)
  go_ret
  exact ⟨rfl, rfl⟩
/-- The row of N families at a place reads d; but for it and the draws the world is w. -/
structure Rw (w : World) (blk off N : Nat) (d : Array Int) (wr : World) : Prop where
  size : d.size = N
  is : ∃ n, wr = putRow (Value.int .u64) (Sort.ahead w n) blk off d
section
variable {w wr : World} {blk off N : Nat} {d : Array Int}
theorem Rw.start (h : Holds (Value.int .u64) w blk off d) : Rw w blk off d.size d w := ⟨rfl, 0, (putRow_self _ _ _ _ _ h).symm⟩
theorem Rw.cell (r : Rw w blk off N d wr) {d0 : Array Int} (h : Holds (Value.int .u64) w blk off d0) (hN : d0.size = N) (t : Nat) (ht : t < N) : wr.cell? ⟨blk, off + t, none⟩ = some (.int .u64 d[t]!) := by
  obtain ⟨hs, n, rfl⟩ := r
  exact cell?_putRow _ _ _ _ d0 d (holds_ahead _ _ _ _ _ _ h) (by omega) t (by omega)
theorem Rw.froz (r : Rw w blk off N d wr) {d0 : Array Int} (h : Holds (Value.int .u64) w blk off d0) (hN : d0.size = N) (t : Nat) (ht : t < N) : wr.frozen? ⟨blk, off + t, none⟩ = false := by
  obtain ⟨hs, n, rfl⟩ := r
  rw [frozen?_putRow]
  exact ((holds_ahead _ _ n _ _ _ h) t (by omega)).2
theorem Rw.drawn (r : Rw w blk off N d wr) (q : Nat) : Rw w blk off N d (wr.drewN q) := by
  obtain ⟨hs, n, rfl⟩ := r
  exact ⟨hs, n + q, putRow_drewN _ _ _ _ _ _ _⟩
theorem Rw.swap (r : Rw w blk off N d wr) (q : Nat) {j k : Nat} (hj : j < N) (hk : k < N) :
    Rw w blk off N (swp d j k) (((wr.drewN q).setCell ⟨blk, off + j, none⟩ (.int .u64 d[k]!)).setCell ⟨blk, off + k, none⟩ (.int .u64 d[j]!)) := by
  obtain ⟨hs, n, rfl⟩ := r
  exact ⟨by rw [size_swp]; exact hs, n + q, swap_worldA (Value.int .u64) w n q blk off d j k (by omega) (by omega)⟩
end
end Go.Proofs.Ytkmpcheamdadcaa.Srt
namespace Go.Proofs.Ytkmpcheamdadcaa.Srt
open Go.RowKit Go.Sort
set_option linter.unusedVariables false
set_option linter.unusedSimpArgs false
set_option maxRecDepth 100000 in
set_option maxHeartbeats 4000000 in
theorem ins_any (blk off cap a b : Nat) (d : Array Int) (w : World) (h : Holds (Value.int .u64) w blk off d) (hab : a ≤ b) (hb : b ≤ d.size) (hsz : d.size < 4611686018427387904) :
    Calls Try.prog 112 #[.slice (some ⟨blk, off, none⟩) d.size cap, .int .i64 a, .int .i64 b] w fun e w' => e = .returned (.tuple #[]) ∧ Rw w blk off d.size (Sort.insertionSort ltInt d a b) w' := by
  obtain ⟨N, hN⟩ : ∃ N, N = d.size := ⟨_, rfl⟩
  have h0 : Hid (Holds (Value.int .u64) w blk off d) := h
  have r0 : Rw w blk off N d w := hN ▸ Rw.start h
  rw [← hN] at hb hsz ⊢
  clear h
  go_enter Try.func112, Try.ntmps112
  go_wp2
  go_loopw [6] (fun vi wr => ∃ (i : Nat) (x : Array Int), vi = .int .i64 i ∧ a < i ∧ i ≤ b + 1 ∧ Hid (Rw w blk off N x wr ∧ insOuter ltInt a b i x = Sort.insertionSort ltInt d a b)) (fun vi _ => b + 1 - (intOf vi).toNat)
  case atStart => exact ⟨a + 1, d, by go_num, by omega, by omega, r0, rfl⟩
  case round =>
    obtain ⟨i, x, rfl, hai, hib, hx⟩ := hrel
    go_wp2
    · go_loopw [7] (fun vj wr2 => ∃ (j : Nat) (y : Array Int), vj = .int .i64 j ∧ a ≤ j ∧ j ≤ i ∧ Hid (Rw w blk off N y wr2 ∧ insInner ltInt a j y = insInner ltInt a i x)) (fun vj _ => (intOf vj).toNat)
      case atStart => exact ⟨i, x, rfl, by omega, Nat.le_refl _, hx.out.1, rfl⟩
      case round =>
        obtain ⟨j, y, rfl, haj, hji, hy⟩ := hrel
        have hib2 : i < b := by assumption
        obtain ⟨G, hG⟩ : ∃ G : Nat → Int, Hid (∀ t, G t = y[t]!) := ⟨fun t => y[t]!, fun _ => rfl⟩
        have hc : ∀ t, t < N → wr.cell? ⟨blk, off + t, none⟩ = some (.int .u64 (G t)) := fun t ht => by rw [hG.out]; exact hy.out.1.cell h0.out hN.symm t ht
        have hf : ∀ t, t < N → wr.frozen? ⟨blk, off + t, none⟩ = false := hy.out.1.froz h0.out hN.symm
        have ho : Hid ((j ≤ a ∨ ltInt (G j) (G (j - 1)) = false) → ∀ q, ∃ (i' : Nat) (x' : Array Int), Value.int .i64 ((i : Int) + 1) = .int .i64 i' ∧ a < i' ∧ i' ≤ b + 1 ∧ Hid (Rw w blk off N x' (wr.drewN q) ∧ insOuter ltInt a b i' x' = Sort.insertionSort ltInt d a b)) := fun hs q => by
          rw [hG.out, hG.out] at hs
          refine ⟨i + 1, y, by go_num, by omega, by omega, hy.out.1.drawn q, ?_⟩
          rw [← hx.out.2, insOuter_go _ _ _ _ _ hib2, ← hy.out.2, insInner_stop _ _ _ _ hs]
        go_wp2
        by_cases hja : a < j
        · go_quiet (first | (go_at_call 118; refine Calls.quiet_of_same (less_any _ _ _)))
          go_wp2
          · have hl : ltInt (G j) (G (j - 1)) = true := by assumption
            go_region
            all_goals go_wp2
            go_roundw
            case rel =>
              refine ⟨j - 1, swp y j (j - 1), by congr 1; omega, by omega, by omega, ?_, ?_⟩
              · have := hy.out.1.swap (nq + 1) (j := j) (k := j - 1) (by omega) (by omega)
                rw [← hG.out, ← hG.out] at this
                exact this
              · rw [← hy.out.2, insInner_go ltInt a j y hja (by rw [← hG.out, ← hG.out]; exact hl)]
            case measure => simp [intOf]; omega
          · have hl : ltInt (G j) (G (j - 1)) = false := by assumption
            go_roundw
            case rel => exact ho.out (Or.inr hl) nq
            case measure => simp [intOf]; omega
        · go_quiet (first | (go_at_call 118; refine Calls.quiet_of_same (less_any _ _ _)))
          go_wp2
          go_roundw
          case rel => exact ho.out (Or.inl (by omega)) nq
          case measure => simp [intOf]; omega
    · have hge : ¬ i < b := by assumption
      go_end0
      have e := hx.out.2
      rw [insOuter_stop _ _ _ _ _ hge] at e
      exact ⟨rfl, e ▸ hx.out.1⟩
end Go.Proofs.Ytkmpcheamdadcaa.Srt
namespace Go.Proofs.Ytkmpcheamdadcaa.Srt
open Go.RowKit Go.Sort
set_option linter.unusedVariables false
set_option linter.unusedSimpArgs false
/-- One step down the heap, to the child c. -/
theorem sift_end {hi first i : Nat} (y : Array Int) (h : hi ≤ 2 * i + 1) : siftDown ltInt hi first i y = y := by rw [siftDown, dif_pos h]
theorem sift_two {hi first i : Nat} (y : Array Int) (h : 2 * i + 2 < hi) (hl : ltInt y[first + 2 * i + 1]! y[first + 2 * i + 2]! = true) :
    siftDown ltInt hi first i y = if ltInt y[first + i]! y[first + 2 * i + 2]! then siftDown ltInt hi first (2 * i + 2) (swp y (first + i) (first + 2 * i + 2)) else y := by
  have e1 : first + (2 * i + 1) = first + 2 * i + 1 := by omega
  have e2 : first + (2 * i + 2) = first + 2 * i + 2 := by omega
  rw [siftDown, dif_neg (by omega), e1, e2, if_pos (by simp [hl]; omega)]
  cases ltInt y[first + i]! y[first + 2 * i + 2]! <;> simp [h]
theorem sift_one {hi first i : Nat} (y : Array Int) (h : 2 * i + 1 < hi) (hl : 2 * i + 2 < hi → ltInt y[first + 2 * i + 1]! y[first + 2 * i + 2]! = false) :
    siftDown ltInt hi first i y = if ltInt y[first + i]! y[first + 2 * i + 1]! then siftDown ltInt hi first (2 * i + 1) (swp y (first + i) (first + 2 * i + 1)) else y := by
  have e1 : first + (2 * i + 1) = first + 2 * i + 1 := by omega
  have e2 : first + (2 * i + 2) = first + 2 * i + 2 := by omega
  rw [siftDown, dif_neg (by omega), e1, e2, if_neg (by
    simp only [Bool.and_eq_true, decide_eq_true_eq]
    rintro ⟨ha, hb⟩
    rw [hl (by omega)] at hb; cases hb)]
  cases ltInt y[first + i]! y[first + 2 * i + 1]! <;> simp
set_option maxRecDepth 100000 in
set_option maxHeartbeats 8000000 in
theorem sift_any (blk off cap lo hi first : Nat) (d : Array Int) (w : World) (h : Holds (Value.int .u64) w blk off d) (hb : first + hi ≤ d.size) (hlo : lo ≤ d.size) (hsz : d.size < 2305843009213693952) :
    Calls Try.prog 128 #[.slice (some ⟨blk, off, none⟩) d.size cap, .int .i64 lo, .int .i64 hi, .int .i64 first] w fun e w' => e = .returned (.tuple #[]) ∧ Rw w blk off d.size (Sort.siftDown ltInt hi first lo d) w' := by
  obtain ⟨N, hN⟩ : ∃ N, Hid (N = d.size) := ⟨_, rfl⟩
  have h0 : Hid (Holds (Value.int .u64) w blk off d) := h
  have r0 : Rw w blk off N d w := hN.out ▸ Rw.start h
  rw [← hN.out] at hb hsz hlo ⊢
  clear h
  go_enter Try.func128, Try.ntmps128
  go_wp2
  go_loopw [8] (fun vi wr => ∃ (i : Nat) (y : Array Int), vi = .int .i64 i ∧ i ≤ N ∧ Hid (Rw w blk off N y wr ∧ siftDown ltInt hi first i y = Sort.siftDown ltInt hi first lo d)) (fun vi _ => N - (intOf vi).toNat)
  case atStart => exact ⟨lo, d, rfl, hlo, r0, rfl⟩
  case round =>
    obtain ⟨i, y, rfl, hiN, hy⟩ := hrel
    obtain ⟨G, hG⟩ : ∃ G : Nat → Int, Hid (∀ t, G t = y[t]!) := ⟨fun t => y[t]!, fun _ => rfl⟩
    have hc : ∀ t, t < N → wr.cell? ⟨blk, off + t, none⟩ = some (.int .u64 (G t)) := fun t ht => by rw [hG.out]; exact hy.out.1.cell h0.out hN.out.symm t ht
    have hf : ∀ t, t < N → wr.frozen? ⟨blk, off + t, none⟩ = false := hy.out.1.froz h0.out hN.out.symm
    by_cases g0 : hi ≤ 2 * i + 1
    · have g0z : (hi : Int) ≤ 2 * (i : Int) + 1 := by omega
      go_wp2
      go_end0
      have e := hy.out.2
      rw [sift_end y g0] at e
      exact ⟨rfl, e ▸ hy.out.1⟩
    · have g0z : ¬ ((hi : Int) ≤ 2 * (i : Int) + 1) := by omega
      by_cases g1 : 2 * i + 2 < hi
      · have g1z : 2 * (i : Int) + 1 + 1 < (hi : Int) := by omega
        go_wp2_with fail
        go_big_quiet (first | (go_at_call 118; refine Calls.quiet_of_same (less_any _ _ _)))
        go_wp2_with fail
        · have hL : ltInt (G (first + 2 * i + 1)) (G (first + 2 * i + 2)) = true := by assumption
          have hS : Hid _ := sift_two (first := first) y g1 (by rw [← hG.out, ← hG.out]; exact hL)
          revert nq; intro nq1
          have r2 : Hid (Rw w blk off N y (wr.drewN nq1)) := hy.out.1.drawn nq1
          have hc2 : ∀ t, t < N → (wr.drewN nq1).cell? ⟨blk, off + t, none⟩ = some (.int .u64 (G t)) := hc
          have hf2 : ∀ t, t < N → (wr.drewN nq1).frozen? ⟨blk, off + t, none⟩ = false := hf
          clear hc hf
          generalize wr.drewN nq1 = wr2 at hc2 hf2 r2 ⊢
          go_big_quiet (first | (go_at_call 118; refine Calls.quiet_of_same (less_any _ _ _)))
          go_wp2_with fail
          · have hT : ltInt (G (first + i)) (G (first + 2 * i + 2)) = false := by
              have : (!ltInt (G (first + i)) (G (first + 2 * i + 2))) = true := by assumption
              simpa using this
            (try simp only [Exit.inBlock, Exit.then]); refine bodyPost_ret (results_none rfl _ _ _) rfl ?_
            rw [hG.out, hG.out] at hT
            have e := hS.out
            rw [hT, hy.out.2] at e
            simp at e
            exact ⟨rfl, e ▸ r2.out.drawn nq⟩
          · have hT : ltInt (G (first + i)) (G (first + 2 * i + 2)) = true := by
              have : (!ltInt (G (first + i)) (G (first + 2 * i + 2))) = false := by assumption
              simpa using this
            have r3 : Hid (Rw w blk off N y (wr2.drewN nq)) := r2.out.drawn nq
            have hc3 : ∀ t, t < N → (wr2.drewN nq).cell? ⟨blk, off + t, none⟩ = some (.int .u64 (G t)) := hc2
            have hf3 : ∀ t, t < N → (wr2.drewN nq).frozen? ⟨blk, off + t, none⟩ = false := hf2
            clear hc2 hf2
            generalize wr2.drewN nq = wr3 at hc3 hf3 r3 ⊢
            go_region
            all_goals go_wp2
            go_roundw
            case rel =>
              refine ⟨2 * i + 2, swp y (first + i) (first + 2 * i + 2), by go_num, by omega, ?_, ?_⟩
              · have := r3.out.swap 1 (j := first + i) (k := first + 2 * i + 2) (by omega) (by omega)
                rw [← hG.out, ← hG.out] at this
                exact this
              · rw [hG.out, hG.out] at hT
                have e := hS.out
                rw [hT, hy.out.2] at e
                simp at e
                exact e.symm
            case measure => simp [intOf]; omega
        · have hL : ltInt (G (first + 2 * i + 1)) (G (first + 2 * i + 2)) = false := by assumption
          have hS : Hid _ := sift_one (hi := hi) (first := first) (i := i) y (by omega) (fun _ => by rw [← hG.out, ← hG.out]; exact hL)
          revert nq; intro nq1
          have r2 : Hid (Rw w blk off N y (wr.drewN nq1)) := hy.out.1.drawn nq1
          have hc2 : ∀ t, t < N → (wr.drewN nq1).cell? ⟨blk, off + t, none⟩ = some (.int .u64 (G t)) := hc
          have hf2 : ∀ t, t < N → (wr.drewN nq1).frozen? ⟨blk, off + t, none⟩ = false := hf
          clear hc hf
          generalize wr.drewN nq1 = wr2 at hc2 hf2 r2 ⊢
          go_big_quiet (first | (go_at_call 118; refine Calls.quiet_of_same (less_any _ _ _)))
          go_wp2_with fail
          · have hT : ltInt (G (first + i)) (G (first + 2 * i + 1)) = false := by
              have : (!ltInt (G (first + i)) (G (first + 2 * i + 1))) = true := by assumption
              simpa using this
            (try simp only [Exit.inBlock, Exit.then]); refine bodyPost_ret (results_none rfl _ _ _) rfl ?_
            rw [hG.out, hG.out] at hT
            have e := hS.out
            rw [hT, hy.out.2] at e
            simp at e
            exact ⟨rfl, e ▸ r2.out.drawn nq⟩
          · have hT : ltInt (G (first + i)) (G (first + 2 * i + 1)) = true := by
              have : (!ltInt (G (first + i)) (G (first + 2 * i + 1))) = false := by assumption
              simpa using this
            have r3 : Hid (Rw w blk off N y (wr2.drewN nq)) := r2.out.drawn nq
            have hc3 : ∀ t, t < N → (wr2.drewN nq).cell? ⟨blk, off + t, none⟩ = some (.int .u64 (G t)) := hc2
            have hf3 : ∀ t, t < N → (wr2.drewN nq).frozen? ⟨blk, off + t, none⟩ = false := hf2
            clear hc2 hf2
            generalize wr2.drewN nq = wr3 at hc3 hf3 r3 ⊢
            go_region
            all_goals go_wp2
            go_roundw
            case rel =>
              refine ⟨2 * i + 1, swp y (first + i) (first + 2 * i + 1), by go_num, by omega, ?_, ?_⟩
              · have := r3.out.swap 1 (j := first + i) (k := first + 2 * i + 1) (by omega) (by omega)
                rw [← hG.out, ← hG.out] at this
                exact this
              · rw [hG.out, hG.out] at hT
                have e := hS.out
                rw [hT, hy.out.2] at e
                simp at e
                exact e.symm
            case measure => simp [intOf]; omega
      · have g1z : decide (2 * (i : Int) + 1 + 1 < (hi : Int)) = false := decide_eq_false (by omega)
        go_wp2_with fail
        go_big_quiet (first | (go_at_call 118; refine Calls.quiet_of_same (less_any _ _ _)))
        go_wp2_with fail
        · have hS : Hid _ := sift_one (hi := hi) (first := first) (i := i) y (by omega) (fun hh => absurd hh g1)
          revert nq; intro nq1
          have r2 : Hid (Rw w blk off N y (wr.drewN nq1)) := hy.out.1.drawn nq1
          have hc2 : ∀ t, t < N → (wr.drewN nq1).cell? ⟨blk, off + t, none⟩ = some (.int .u64 (G t)) := hc
          have hf2 : ∀ t, t < N → (wr.drewN nq1).frozen? ⟨blk, off + t, none⟩ = false := hf
          clear hc hf
          generalize wr.drewN nq1 = wr2 at hc2 hf2 r2 ⊢
          go_big_quiet (first | (go_at_call 118; refine Calls.quiet_of_same (less_any _ _ _)))
          go_wp2_with fail
          · have hT : ltInt (G (first + i)) (G (first + 2 * i + 1)) = false := by
              have : (!ltInt (G (first + i)) (G (first + 2 * i + 1))) = true := by assumption
              simpa using this
            (try simp only [Exit.inBlock, Exit.then]); refine bodyPost_ret (results_none rfl _ _ _) rfl ?_
            rw [hG.out, hG.out] at hT
            have e := hS.out
            rw [hT, hy.out.2] at e
            simp at e
            exact ⟨rfl, e ▸ r2.out.drawn nq⟩
          · have hT : ltInt (G (first + i)) (G (first + 2 * i + 1)) = true := by
              have : (!ltInt (G (first + i)) (G (first + 2 * i + 1))) = false := by assumption
              simpa using this
            have r3 : Hid (Rw w blk off N y (wr2.drewN nq)) := r2.out.drawn nq
            have hc3 : ∀ t, t < N → (wr2.drewN nq).cell? ⟨blk, off + t, none⟩ = some (.int .u64 (G t)) := hc2
            have hf3 : ∀ t, t < N → (wr2.drewN nq).frozen? ⟨blk, off + t, none⟩ = false := hf2
            clear hc2 hf2
            generalize wr2.drewN nq = wr3 at hc3 hf3 r3 ⊢
            go_region
            all_goals go_wp2
            go_roundw
            case rel =>
              refine ⟨2 * i + 1, swp y (first + i) (first + 2 * i + 1), by go_num, by omega, ?_, ?_⟩
              · have := r3.out.swap 1 (j := first + i) (k := first + 2 * i + 1) (by omega) (by omega)
                rw [← hG.out, ← hG.out] at this
                exact this
              · rw [hG.out, hG.out] at hT
                have e := hS.out
                rw [hT, hy.out.2] at e
                simp at e
                exact e.symm
            case measure => simp [intOf]; omega
end Go.Proofs.Ytkmpcheamdadcaa.Srt
namespace Go.Proofs.Ytkmpcheamdadcaa.Srt
open Go.RowKit Go.Sort
set_option linter.unusedVariables false
set_option linter.unusedSimpArgs false
section
variable {w wr : World} {blk off N : Nat} {d : Array Int}
theorem Rw.holds (r : Rw w blk off N d wr) {d0 : Array Int} (h : Holds (Value.int .u64) w blk off d0) (hN : d0.size = N) : Holds (Value.int .u64) wr blk off d :=
  fun t ht => ⟨r.cell h hN t (by rw [← r.size]; exact ht), r.froz h hN t (by rw [← r.size]; exact ht)⟩
theorem Rw.trans (r : Rw w blk off N d wr) {d' : Array Int} {w' : World} (r' : Rw wr blk off N d' w') : Rw w blk off N d' w' := by
  obtain ⟨hs, n, rfl⟩ := r
  obtain ⟨hs', m, rfl⟩ := r'
  refine ⟨hs', n + m, ?_⟩
  rw [putRow_ahead (Value.int .u64) w n, ahead_ahead, ← putRow_ahead, putRow_putRow _ _ _ _ _ _ (by omega)]
end
set_option maxRecDepth 100000 in
set_option maxHeartbeats 8000000 in
theorem heap_any (blk off cap a b : Nat) (d : Array Int) (w : World) (h : Holds (Value.int .u64) w blk off d) (hab : a ≤ b) (hb : b ≤ d.size) (hsz : d.size < 2305843009213693952) :
    Calls Try.prog 113 #[.slice (some ⟨blk, off, none⟩) d.size cap, .int .i64 a, .int .i64 b] w fun e w' => e = .returned (.tuple #[]) ∧ Rw w blk off d.size (Sort.heapSort ltInt d a b) w' := by
  obtain ⟨N, hN⟩ : ∃ N, Hid (N = d.size) := ⟨_, rfl⟩
  have h0 : Hid (Holds (Value.int .u64) w blk off d) := h
  have r0 : Rw w blk off N d w := hN.out ▸ Rw.start h
  rw [← hN.out] at hb hsz ⊢
  clear h
  obtain ⟨n, hn⟩ : ∃ n : Nat, (b : Int) - (a : Int) = (n : Int) := ⟨b - a, by omega⟩
  have hm : ((n : Int) - 1).tdiv 2 = (((n - 1) / 2 : Nat) : Int) := by
    cases n with
    | zero => rfl
    | succ m => rw [show ((m + 1 : Nat) : Int) - 1 = (m : Int) by omega]; rfl
  obtain ⟨m, hm2⟩ : ∃ m, m = (n - 1) / 2 := ⟨_, rfl⟩
  rw [← hm2] at hm
  have hE : Hid (Sort.heapSort ltInt d a b = heapPop ltInt a n (heapBuild ltInt n a (m + 1) d)) := by
    have e : b - a = n := by omega
    show Sort.heapSort ltInt d a b = _
    unfold Sort.heapSort; rw [e, hm2]
  go_enter Try.func113, Try.ntmps113
  go_wp2
  (try simp only [hn, hm])
  go_loopw [9] (fun vi wr => ∃ (k : Nat) (y : Array Int), vi = .int .i64 ((k : Int) - 1) ∧ k ≤ m + 1 ∧ Hid (Rw w blk off N y wr ∧ heapBuild ltInt n a k y = heapBuild ltInt n a (m + 1) d)) (fun vi _ => (intOf vi + 1).toNat)
  case atStart => exact ⟨m + 1, d, by go_num, by omega, r0, rfl⟩
  case round =>
    obtain ⟨k, y, rfl, hk, hy⟩ := hrel
    rcases k with _ | k
    · go_wp2
      (try simp only [hn, hm])
      obtain ⟨W0, rfl⟩ : ∃ W0, W0 = wr := ⟨_, rfl⟩
      go_loopw [10] (fun vi wr => ∃ (k : Nat) (z : Array Int), vi = .int .i64 ((k : Int) - 1) ∧ k ≤ n ∧ Hid (Rw w blk off N z wr ∧ heapPop ltInt a k z = Sort.heapSort ltInt d a b)) (fun vi _ => (intOf vi + 1).toNat)
      case atStart => exact ⟨n, y, by go_num, by omega, hy.out.1, by rw [hE.out, ← hy.out.2]; rfl⟩
      case round =>
        obtain ⟨k, z, rfl, hk, hz⟩ := hrel
        rcases k with _ | k
        · go_wp2
          go_end0
          exact ⟨rfl, hz.out.2 ▸ hz.out.1⟩
        · obtain ⟨G, hG⟩ : ∃ G : Nat → Int, Hid (∀ t, G t = z[t]!) := ⟨fun t => z[t]!, fun _ => rfl⟩
          have hc : ∀ t, t < N → wr.cell? ⟨blk, off + t, none⟩ = some (.int .u64 (G t)) := fun t ht => by rw [hG.out]; exact hz.out.1.cell h0.out hN.out.symm t ht
          have hf : ∀ t, t < N → wr.frozen? ⟨blk, off + t, none⟩ = false := hz.out.1.froz h0.out hN.out.symm
          have r2 : Rw w blk off N (swp z a (a + k)) ((wr.setCell ⟨blk, off + a, none⟩ (.int .u64 (G (a + k)))).setCell ⟨blk, off + (a + k), none⟩ (.int .u64 (G a))).drew := by
            rw [hG.out, hG.out]
            exact hz.out.1.swap 1 (by omega) (by omega)
          have R2 : Hid _ := r2
          clear r2
          have hS := sift_any blk off cap 0 k a (swp z a (a + k)) _ (R2.out.holds h0.out hN.out.symm) (by rw [R2.out.size]; omega) (by rw [R2.out.size]; omega) (by rw [R2.out.size]; omega)
          have z0 : ((0 : Nat) : Int) = 0 := rfl
          rw [R2.out.size, z0] at hS
          have HS : Hid _ := hS
          clear hS
          rcases Nat.eq_zero_or_pos k with hk0 | hk0
          · subst hk0
            have HS2 := HS.out
            have R3 := R2.out
            simp only [Nat.add_zero, z0] at HS2 R3
            have H3 : Hid _ := HS2
            have R4 : Hid _ := R3
            clear HS2 R3 HS R2
            go_wp2
            go_region
            all_goals go_wp2_with (go_at_call 128; refine Calls.mono H3.out ?_; rintro e w' ⟨rfl, r'⟩)
            refine ⟨?_, ?measure⟩
            (repeat apply Exists.intro)
            refine ⟨?rel, ?fr⟩
            case fr => rfl
            case rel => exact ⟨0, _, by go_num, by omega, R4.out.trans r', hz.out.2⟩
            case measure => simp [intOf] <;> omega
          · have hne : off + (a + k) ≠ off + a := by omega
            have hne2 : ¬ (a + k = a) := by omega
            have hne3 : a ≠ a + k := by omega
            go_wp2
            go_region
            all_goals go_wp2_with (go_at_call 128; refine Calls.mono HS.out ?_; rintro e w' ⟨rfl, r'⟩)
            refine ⟨?_, ?measure⟩
            (repeat apply Exists.intro)
            refine ⟨?rel, ?fr⟩
            case fr => rfl
            case rel => exact ⟨k, _, by go_num, by omega, R2.out.trans r', hz.out.2⟩
            case measure => simp [intOf] <;> omega
    · have hS := sift_any blk off cap k n a y wr (hy.out.1.holds h0.out hN.out.symm) (by rw [hy.out.1.size]; omega) (by rw [hy.out.1.size]; omega) (by rw [hy.out.1.size]; omega)
      rw [hy.out.1.size] at hS
      go_wp2_with (go_at_call 128; refine hS.mono ?_; rintro e w' ⟨rfl, r'⟩)
      go_roundw
      case rel => exact ⟨k, _, by go_num, by omega, hy.out.1.trans r', hy.out.2⟩
      case measure => simp [intOf] <;> omega
end Go.Proofs.Ytkmpcheamdadcaa.Srt
namespace Go.Proofs.Ytkmpcheamdadcaa.Srt
open Go.RowKit Go.Sort
set_option linter.unusedVariables false
set_option linter.unusedSimpArgs false
set_option maxRecDepth 100000 in
set_option maxHeartbeats 8000000 in
theorem parteq_any (blk off cap a b p : Nat) (d : Array Int) (w : World) (h : Holds (Value.int .u64) w blk off d) (hab : a < b) (hb : b ≤ d.size) (hp : p < d.size) (hsz : d.size < 2305843009213693952) :
    Calls Try.prog 119 #[.slice (some ⟨blk, off, none⟩) d.size cap, .int .i64 a, .int .i64 b, .int .i64 p] w fun e w' => e = .returned (.int .i64 (Sort.partitionEqual ltInt d a b p).1) ∧ Rw w blk off d.size (Sort.partitionEqual ltInt d a b p).2 w' := by
  obtain ⟨N, hN⟩ : ∃ N, Hid (N = d.size) := ⟨_, rfl⟩
  have h0 : Hid (Holds (Value.int .u64) w blk off d) := h
  have r0 : Rw w blk off N d w := hN.out ▸ Rw.start h
  rw [← hN.out] at hb hsz hp ⊢
  clear h
  obtain ⟨G0, hG0⟩ : ∃ G : Nat → Int, Hid (∀ t, G t = d[t]!) := ⟨fun t => d[t]!, fun _ => rfl⟩
  have hc0 : ∀ t, t < N → w.cell? ⟨blk, off + t, none⟩ = some (.int .u64 (G0 t)) := fun t ht => by rw [hG0.out]; exact r0.cell h0.out hN.out.symm t ht
  have hf0 : ∀ t, t < N → w.frozen? ⟨blk, off + t, none⟩ = false := r0.froz h0.out hN.out.symm
  have HR0 : Hid (Rw w blk off N (swp d a p) ((w.setCell ⟨blk, off + a, none⟩ (.int .u64 (G0 p))).setCell ⟨blk, off + p, none⟩ (.int .u64 (G0 a))).drew) := by
    show Rw _ _ _ _ _ _
    rw [hG0.out, hG0.out]
    exact r0.swap 1 (by omega) (by omega)
  obtain ⟨R, hR⟩ : ∃ R, Sort.partitionEqual ltInt d a b p = R := ⟨_, rfl⟩
  have HRR : Hid (partEqLoop ltInt a (a + 1) (b - 1) (swp d a p) = R) := hR
  rw [hR]
  clear hR r0
  obtain ⟨v2, hv2⟩ : ∃ v, (w.setCell ⟨blk, off + a, none⟩ (.int .u64 (G0 p))).cell? ⟨blk, off + p, none⟩ = some v := by
    by_cases e : a = p
    · subst e; exact ⟨_, World.cell?_setCell_same' _ _ _ (by rw [hc0 a (by omega)]; rfl)⟩
    · exact ⟨_, (World.cell?_setCell_other _ _ _ _ (by simp <;> omega)).trans (hc0 p (by omega))⟩
  have haN : a < N := by omega
  go_enter Try.func119, Try.ntmps119
  go_wp2
  go_region
  go_wp2
  clear hc0 hf0
  go_loopw [9, 10] (fun vi vj wr => ∃ (i j : Nat) (z : Array Int), vi = .int .i64 i ∧ vj = .int .i64 j ∧ a < i ∧ i ≤ j + 2 ∧ j < b ∧ a ≤ j ∧ Hid (Rw w blk off N z wr ∧ partEqLoop ltInt a i j z = R)) (fun vi vj _ => (intOf vj + 2 - intOf vi).toNat)
  case atStart => exact ⟨a + 1, b - 1, swp d a p, by go_num, by congr 1; omega, by omega, by omega, by omega, by omega, HR0.out, HRR.out⟩
  case round =>
    obtain ⟨i, j, z, rfl, rfl, hai, hij, hjb, haj, hz⟩ := hrel
    obtain ⟨G, hG⟩ : ∃ G : Nat → Int, Hid (∀ t, G t = z[t]!) := ⟨fun t => z[t]!, fun _ => rfl⟩
    obtain ⟨i2, hi2⟩ : ∃ i2, scanUp (fun x => !ltInt z[a]! x) z j i = i2 := ⟨_, rfl⟩
    obtain ⟨j2, hj2⟩ : ∃ j2, scanDown (fun x => ltInt z[a]! x) z i2 j = j2 := ⟨_, rfl⟩
    have hge := scanUp_ge (fun x => !ltInt z[a]! x) z j i
    rw [hi2] at hge
    have HI2 : Hid (scanUp (fun x => !ltInt z[a]! x) z j i = i2) := hi2
    have HJ2 : Hid (scanDown (fun x => ltInt z[a]! x) z i2 j = j2) := hj2
    have HEQ : Hid (R = if i2 > j2 then (i2, z) else partEqLoop ltInt a (i2 + 1) (j2 - 1) (swp z i2 j2)) := by
      show _ = _
      rw [← hz.out.2, partEqLoop_eq, hi2, hj2]
    clear hi2 hj2
    go_upto_block 2 with fail
    go_cut [9] from 29 to 82 (fun vi wd => vi = .int .i64 (i2 : Int) ∧ (i2 ≤ i ∨ i2 ≤ j + 1) ∧ Rw w blk off N z wd)
    case first =>
      go_wp2
      go_loopw [9] (fun vi wr => ∃ i' : Nat, vi = .int .i64 i' ∧ i ≤ i' ∧ (i' ≤ i ∨ i' ≤ j + 1) ∧ Hid (Rw w blk off N z wr ∧ scanUp (fun x => !ltInt z[a]! x) z j i' = i2)) (fun vi _ => (j + 2 - (intOf vi).toNat))
      case atStart => exact ⟨i, rfl, Nat.le_refl _, .inl (Nat.le_refl _), hz.out.1, HI2.out⟩
      case round =>
        obtain ⟨i', rfl, hii, hib, hy⟩ := hrel
        have hc : ∀ t, t < N → wr.cell? ⟨blk, off + t, none⟩ = some (.int .u64 (G t)) := fun t ht => by rw [hG.out]; exact hy.out.1.cell h0.out hN.out.symm t ht
        go_wp2
        by_cases hle : i' ≤ j
        · have hlei : (i' : Int) ≤ (j : Int) := by omega
          by_cases hl' : ltInt (G a) (G i') = false
          · have hl := hl'
            clear hl'
            go_quiet (first | (go_at_call 118; refine Calls.quiet_of_same (less_any _ _ _)))
            go_wp2
            refine ⟨⟨i' + 1, by go_num, by omega, .inr (by omega), hy.out.1.drawn nq, ?_⟩, ?_⟩
            · rw [← hy.out.2, scanUp_go _ z j i' hle (by rw [← hG.out, ← hG.out, hl]; rfl)]
            · simp [intOf]; omega
          · have hl : ltInt (G a) (G i') = true := by simpa using hl'
            clear hl'
            go_quiet (first | (go_at_call 118; refine Calls.quiet_of_same (less_any _ _ _)))
            go_wp2
            go_meet
            case rel =>
              have e : i' = i2 := by rw [← hy.out.2, scanUp_end _ z j i' (.inr (by rw [← hG.out, ← hG.out, hl]; rfl))]
              exact ⟨by rw [e], by rw [← e]; exact hib, hy.out.1.drawn nq⟩
        · have hlei : ¬ (i' : Int) ≤ (j : Int) := by omega
          have hled : decide ((i' : Int) ≤ (j : Int)) = false := by simp; omega
          go_quiet (first | (go_at_call 118; refine Calls.quiet_of_same (less_any _ _ _)))
          go_wp2
          go_meet
          case rel =>
            have e : i' = i2 := by rw [← hy.out.2, scanUp_end _ z j i' (.inl hle)]
            exact ⟨by rw [e], by rw [← e]; exact hib, hy.out.1.drawn nq⟩
    case rest =>
      obtain ⟨rfl, hib, hr2⟩ := hcut
      have HR2 : Hid (Rw w blk off N z wc) := hr2
      clear hr2
      have hle2 := scanDown_le (fun x => ltInt z[a]! x) z i2 j
      rw [HJ2.out] at hle2
      go_upto_block 4 with fail
      go_cut [10] from 29 to 82 (fun vj wd => vj = .int .i64 (j2 : Int) ∧ i2 ≤ j2 + 2 ∧ a ≤ j2 ∧ Rw w blk off N z wd)
      case first =>
        go_wp2
        go_loopw [10] (fun vj wr => ∃ j' : Nat, vj = .int .i64 j' ∧ j' ≤ j ∧ i2 ≤ j' + 2 ∧ a ≤ j' ∧ Hid (Rw w blk off N z wr ∧ scanDown (fun x => ltInt z[a]! x) z i2 j' = j2)) (fun vj _ => (intOf vj).toNat)
        case atStart => exact ⟨j, rfl, Nat.le_refl _, by omega, haj, HR2.out, HJ2.out⟩
        case round =>
          obtain ⟨j', rfl, hjj, hij', haj', hy⟩ := hrel
          have hc : ∀ t, t < N → wr.cell? ⟨blk, off + t, none⟩ = some (.int .u64 (G t)) := fun t ht => by rw [hG.out]; exact hy.out.1.cell h0.out hN.out.symm t ht
          go_wp2
          by_cases hle : i2 ≤ j'
          · have hlei : (i2 : Int) ≤ (j' : Int) := by omega
            by_cases hl' : ltInt (G a) (G j') = true
            · have hl := hl'
              clear hl'
              go_quiet (first | (go_at_call 118; refine Calls.quiet_of_same (less_any _ _ _)))
              go_wp2
              refine ⟨⟨j' - 1, by congr 1; omega, by omega, by omega, by omega, hy.out.1.drawn nq, ?_⟩, ?_⟩
              · rw [← hy.out.2, scanDown_go _ z i2 j' hle (by omega) (by rw [← hG.out, ← hG.out, hl])]
              · simp [intOf]; omega
            · have hl : ltInt (G a) (G j') = false := by simpa using hl'
              clear hl'
              go_quiet (first | (go_at_call 118; refine Calls.quiet_of_same (less_any _ _ _)))
              go_wp2
              go_meet
              case rel =>
                have e : j' = j2 := by rw [← hy.out.2, scanDown_end _ z i2 j' (.inr (by rw [← hG.out, ← hG.out, hl]))]
                exact ⟨by rw [e], by omega, by omega, hy.out.1.drawn nq⟩
          · have hlei : ¬ (i2 : Int) ≤ (j' : Int) := by omega
            have hled : decide ((i2 : Int) ≤ (j' : Int)) = false := by simp; omega
            go_quiet (first | (go_at_call 118; refine Calls.quiet_of_same (less_any _ _ _)))
            go_wp2
            go_meet
            case rel =>
              have e : j' = j2 := by rw [← hy.out.2, scanDown_end _ z i2 j' (.inl hle)]
              exact ⟨by rw [e], by omega, by omega, hy.out.1.drawn nq⟩
      case rest =>
        obtain ⟨rfl, hij2, haj2, hr3⟩ := hcut
        have HR3 : Hid (Rw w blk off N z wc) := hr3
        clear hr3
        have hc : ∀ t, t < N → wc.cell? ⟨blk, off + t, none⟩ = some (.int .u64 (G t)) := fun t ht => by rw [hG.out]; exact HR3.out.cell h0.out hN.out.symm t ht
        have hf : ∀ t, t < N → wc.frozen? ⟨blk, off + t, none⟩ = false := HR3.out.froz h0.out hN.out.symm
        by_cases hgt : j2 < i2
        · have hgti : (j2 : Int) < (i2 : Int) := by omega
          have HE : Hid (R = (i2, z)) := by show _ = _; rw [HEQ.out, if_pos hgt]
          go_wp2
          go_ret
          exact ⟨by rw [HE.out]; rfl, by rw [HE.out]; exact HR3.out⟩
        · have hgti : ¬ (j2 : Int) < (i2 : Int) := by omega
          obtain ⟨v3, hv3⟩ : ∃ v, (wc.setCell ⟨blk, off + i2, none⟩ (.int .u64 (G j2))).cell? ⟨blk, off + j2, none⟩ = some v := by
            by_cases e : i2 = j2
            · subst e; exact ⟨_, World.cell?_setCell_same' _ _ _ (by rw [hc i2 (by omega)]; rfl)⟩
            · exact ⟨_, (World.cell?_setCell_other _ _ _ _ (by simp <;> omega)).trans (hc j2 (by omega))⟩
          have hiN : i2 < N := by omega
          have hjN : j2 < N := by omega
          go_wp2
          go_region
          go_wp2
          refine ⟨⟨i2 + 1, j2 - 1, swp z i2 j2, by go_num, by congr 1; omega, by omega, by omega, by omega, by omega, ?_, ?_⟩, ?_⟩
          · have := HR3.out.swap 1 (j := i2) (k := j2) (by omega) (by omega)
            rw [← hG.out, ← hG.out] at this
            exact this
          · rw [HEQ.out, if_neg (by omega)]
          · simp [intOf]; omega
end Go.Proofs.Ytkmpcheamdadcaa.Srt
namespace Go.Proofs.Ytkmpcheamdadcaa.Srt
open Go.RowKit Go.Sort
set_option linter.unusedVariables false
set_option linter.unusedSimpArgs false
/-- The second store of a swap finds its cell. -/
theorem swap_cell {W : World} {blk off N x y : Nat} {G : Nat → Int} (hc : ∀ t, t < N → W.cell? ⟨blk, off + t, none⟩ = some (.int .u64 (G t))) (hx : x < N) (hy : y < N) (v : Value) : ∃ u, (W.setCell ⟨blk, off + x, none⟩ v).cell? ⟨blk, off + y, none⟩ = some u := by
  by_cases e : x = y
  · subst e; exact ⟨_, World.cell?_setCell_same' _ _ _ (by rw [hc x hx]; rfl)⟩
  · exact ⟨_, (World.cell?_setCell_other _ _ _ _ (by simp <;> omega)).trans (hc y hy)⟩
theorem Rw.swapG {w wr : World} {blk off N : Nat} {z : Array Int} (r : Rw w blk off N z wr) {G : Nat → Int} (hG : ∀ t, G t = z[t]!) {x y : Nat} (hx : x < N) (hy : y < N) : Rw w blk off N (swp z x y) ((wr.setCell ⟨blk, off + x, none⟩ (.int .u64 (G y))).setCell ⟨blk, off + y, none⟩ (.int .u64 (G x))).drew := by
  have := r.swap 1 (j := x) (k := y) hx hy
  rw [← hG, ← hG] at this
  exact this
set_option maxRecDepth 100000 in
set_option maxHeartbeats 16000000 in
theorem part_any (blk off cap a b p : Nat) (d : Array Int) (w : World) (h : Holds (Value.int .u64) w blk off d) (hab : a < b) (hb : b ≤ d.size) (hp : p < d.size) (hsz : d.size < 2305843009213693952) :
    Calls Try.prog 120 #[.slice (some ⟨blk, off, none⟩) d.size cap, .int .i64 a, .int .i64 b, .int .i64 p] w fun e w' => e = .returned (.tuple #[.int .i64 (Sort.partition ltInt d a b p).1, .bool (Sort.partition ltInt d a b p).2.1]) ∧ Rw w blk off d.size (Sort.partition ltInt d a b p).2.2 w' := by
  obtain ⟨N, hN⟩ : ∃ N, Hid (N = d.size) := ⟨_, rfl⟩
  have h0 : Hid (Holds (Value.int .u64) w blk off d) := h
  have r0 : Rw w blk off N d w := hN.out ▸ Rw.start h
  rw [← hN.out] at hb hsz hp ⊢
  clear h
  obtain ⟨G0, hG0⟩ : ∃ G : Nat → Int, Hid (∀ t, G t = d[t]!) := ⟨fun t => d[t]!, fun _ => rfl⟩
  have hc0 : ∀ t, t < N → w.cell? ⟨blk, off + t, none⟩ = some (.int .u64 (G0 t)) := fun t ht => by rw [hG0.out]; exact r0.cell h0.out hN.out.symm t ht
  have hf0 : ∀ t, t < N → w.frozen? ⟨blk, off + t, none⟩ = false := r0.froz h0.out hN.out.symm
  have haN : a < N := by omega
  have HR0 : Hid (Rw w blk off N (swp d a p) ((w.setCell ⟨blk, off + a, none⟩ (.int .u64 (G0 p))).setCell ⟨blk, off + p, none⟩ (.int .u64 (G0 a))).drew) := r0.swapG hG0.out haN hp
  obtain ⟨v2, hv2⟩ := swap_cell hc0 haN hp (.int .u64 (G0 p))
  obtain ⟨y, hy0⟩ : ∃ y, swp d a p = y := ⟨_, rfl⟩
  rw [hy0] at HR0
  obtain ⟨i1, hi1⟩ : ∃ i, scanUp (fun x => ltInt x y[a]!) y (b - 1) (a + 1) = i := ⟨_, rfl⟩
  obtain ⟨j1, hj1⟩ : ∃ j, scanDown (fun x => !ltInt x y[a]!) y i1 (b - 1) = j := ⟨_, rfl⟩
  have HI1 : Hid (scanUp (fun x => ltInt x y[a]!) y (b - 1) (a + 1) = i1) := hi1
  have HJ1 : Hid (scanDown (fun x => !ltInt x y[a]!) y i1 (b - 1) = j1) := hj1
  have hge1 := scanUp_ge (fun x => ltInt x y[a]!) y (b - 1) (a + 1)
  rw [hi1] at hge1
  have hle1 := scanDown_le (fun x => !ltInt x y[a]!) y i1 (b - 1)
  rw [hj1] at hle1
  obtain ⟨R, hR⟩ : ∃ R, Sort.partition ltInt d a b p = R := ⟨_, rfl⟩
  have HRR : Hid (R = if i1 > j1 then (j1, true, swp y j1 a) else ((partLoop ltInt a (i1 + 1) (j1 - 1) (swp y i1 j1)).1, false, swp (partLoop ltInt a (i1 + 1) (j1 - 1) (swp y i1 j1)).2 (partLoop ltInt a (i1 + 1) (j1 - 1) (swp y i1 j1)).1 a)) := by
    show _ = _
    rw [← hR]
    unfold Sort.partition
    simp only [hy0, hi1, hj1]
  rw [hR]
  clear hR r0 hy0 hi1 hj1
  obtain ⟨Gy, hGy⟩ : ∃ G : Nat → Int, Hid (∀ t, G t = y[t]!) := ⟨fun t => y[t]!, fun _ => rfl⟩
  go_enter Try.func120, Try.ntmps120
  go_wp2
  go_region
  clear hc0 hf0
  go_upto_block 0 with fail
  go_cut [10] from 30 to 167 (fun vi wd => vi = .int .i64 (i1 : Int) ∧ (i1 ≤ (a + 1) ∨ i1 ≤ (b - 1) + 1) ∧ Rw w blk off N y wd)
  case first =>
    go_wp2
    go_loopw [10] (fun vi wr => ∃ i' : Nat, vi = .int .i64 i' ∧ (a + 1) ≤ i' ∧ (i' ≤ (a + 1) ∨ i' ≤ (b - 1) + 1) ∧ Hid (Rw w blk off N y wr ∧ scanUp (fun x => ltInt x y[a]!) y ((b - 1)) i' = i1)) (fun vi _ => ((b - 1) + 2 - (intOf vi).toNat))
    case atStart => exact ⟨(a + 1), by go_num, Nat.le_refl _, .inl (Nat.le_refl _), HR0.out, HI1.out⟩
    case round =>
      obtain ⟨i', rfl, hii, hib, hy⟩ := hrel
      have hc : ∀ t, t < N → wr.cell? ⟨blk, off + t, none⟩ = some (.int .u64 (Gy t)) := fun t ht => by rw [hGy.out]; exact hy.out.1.cell h0.out hN.out.symm t ht
      go_wp2
      by_cases hle : i' ≤ (b - 1)
      · have hlei : (i' : Int) ≤ ((b : Int) - 1) := by omega
        by_cases hl' : ltInt (Gy i') (Gy a) = true
        · have hl := hl'
          clear hl'
          go_quiet (first | (go_at_call 118; refine Calls.quiet_of_same (less_any _ _ _)))
          go_wp2
          refine ⟨⟨i' + 1, by go_num, by omega, .inr (by omega), hy.out.1.drawn nq, ?_⟩, ?_⟩
          · rw [← hy.out.2, scanUp_go _ y ((b - 1)) i' hle (by rw [← hGy.out, ← hGy.out, hl])]
          · simp [intOf]; omega
        · have hl : ltInt (Gy i') (Gy a) = false := by simpa using hl'
          clear hl'
          go_quiet (first | (go_at_call 118; refine Calls.quiet_of_same (less_any _ _ _)))
          go_wp2
          go_meet
          case rel =>
            have e : i' = i1 := by rw [← hy.out.2, scanUp_end _ y ((b - 1)) i' (.inr (by rw [← hGy.out, ← hGy.out, hl]))]
            exact ⟨by rw [e], by rw [← e]; exact hib, hy.out.1.drawn nq⟩
      · have hlei : ¬ (i' : Int) ≤ ((b : Int) - 1) := by omega
        have hled : decide ((i' : Int) ≤ ((b : Int) - 1)) = false := by simp; omega
        go_quiet (first | (go_at_call 118; refine Calls.quiet_of_same (less_any _ _ _)))
        go_wp2
        go_meet
        case rel =>
          have e : i' = i1 := by rw [← hy.out.2, scanUp_end _ y ((b - 1)) i' (.inl hle)]
          exact ⟨by rw [e], by rw [← e]; exact hib, hy.out.1.drawn nq⟩
  case rest =>
    obtain ⟨rfl, hib_i1, hr2⟩ := hcut
    have HR_i1 : Hid (Rw w blk off N y wc) := hr2
    clear hr2
    go_upto_block 2 with fail
    go_cut [11] from 30 to 167 (fun vj wd => vj = .int .i64 (j1 : Int) ∧ i1 ≤ j1 + 2 ∧ a ≤ j1 ∧ Rw w blk off N y wd)
    case first =>
      go_wp2
      go_loopw [11] (fun vj wr => ∃ j' : Nat, vj = .int .i64 j' ∧ j' ≤ (b - 1) ∧ i1 ≤ j' + 2 ∧ a ≤ j' ∧ Hid (Rw w blk off N y wr ∧ scanDown (fun x => !ltInt x y[a]!) y i1 j' = j1)) (fun vj _ => (intOf vj).toNat)
      case atStart => exact ⟨(b - 1), by congr 1; omega, Nat.le_refl _, by omega, by omega, HR_i1.out, HJ1.out⟩
      case round =>
        obtain ⟨j', rfl, hjj, hij', haj', hy⟩ := hrel
        have hc : ∀ t, t < N → wr.cell? ⟨blk, off + t, none⟩ = some (.int .u64 (Gy t)) := fun t ht => by rw [hGy.out]; exact hy.out.1.cell h0.out hN.out.symm t ht
        go_wp2
        by_cases hle : i1 ≤ j'
        · have hlei : (i1 : Int) ≤ (j' : Int) := by omega
          by_cases hl' : ltInt (Gy j') (Gy a) = false
          · have hl := hl'
            clear hl'
            go_quiet (first | (go_at_call 118; refine Calls.quiet_of_same (less_any _ _ _)))
            go_wp2
            refine ⟨⟨j' - 1, by congr 1; omega, by omega, by omega, by omega, hy.out.1.drawn nq, ?_⟩, ?_⟩
            · rw [← hy.out.2, scanDown_go _ y i1 j' hle (by omega) (by rw [← hGy.out, ← hGy.out, hl]; rfl)]
            · simp [intOf]; omega
          · have hl : ltInt (Gy j') (Gy a) = true := by simpa using hl'
            clear hl'
            go_quiet (first | (go_at_call 118; refine Calls.quiet_of_same (less_any _ _ _)))
            go_wp2
            go_meet
            case rel =>
              have e : j' = j1 := by rw [← hy.out.2, scanDown_end _ y i1 j' (.inr (by rw [← hGy.out, ← hGy.out, hl]; rfl))]
              exact ⟨by rw [e], by omega, by omega, hy.out.1.drawn nq⟩
        · have hlei : ¬ (i1 : Int) ≤ (j' : Int) := by omega
          have hled : decide ((i1 : Int) ≤ (j' : Int)) = false := by simp; omega
          go_quiet (first | (go_at_call 118; refine Calls.quiet_of_same (less_any _ _ _)))
          go_wp2
          go_meet
          case rel =>
            have e : j' = j1 := by rw [← hy.out.2, scanDown_end _ y i1 j' (.inl hle)]
            exact ⟨by rw [e], by omega, by omega, hy.out.1.drawn nq⟩
    case rest =>
      obtain ⟨rfl, hij_j1, haj_j1, hr3⟩ := hcut
      have HR_j1 : Hid (Rw w blk off N y wc) := hr3
      clear hr3
      have hc : ∀ t, t < N → wc.cell? ⟨blk, off + t, none⟩ = some (.int .u64 (Gy t)) := fun t ht => by rw [hGy.out]; exact HR_j1.out.cell h0.out hN.out.symm t ht
      have hf : ∀ t, t < N → wc.frozen? ⟨blk, off + t, none⟩ = false := HR_j1.out.froz h0.out hN.out.symm
      have hi1N : i1 ≤ b := by omega
      by_cases hgt : j1 < i1
      · have hgti : (j1 : Int) < (i1 : Int) := by omega
        have HE : Hid (R = (j1, true, swp y j1 a)) := by show _ = _; rw [HRR.out, if_pos hgt]
        have hjN : j1 < N := by omega
        obtain ⟨v3, hv3⟩ := swap_cell hc hjN haN (.int .u64 (Gy a))
        have HSW := HR_j1.out.swapG hGy.out hjN haN
        have HSW2 : Hid (Rw w blk off N (swp y j1 a) ((wc.setCell ⟨blk, off + j1, none⟩ (.int .u64 (Gy a))).setCell ⟨blk, off + a, none⟩ (.int .u64 (Gy j1))).drew) := HSW
        clear HSW
        go_wp2
        go_region
        go_wp2
        go_ret2
        exact ⟨by rw [HE.out]; rfl, by rw [HE.out]; exact HSW2.out⟩
      · have hgti : ¬ (j1 : Int) < (i1 : Int) := by omega
        have hiN : i1 < N := by omega
        have hjN : j1 < N := by omega
        obtain ⟨v3, hv3⟩ := swap_cell hc hiN hjN (.int .u64 (Gy j1))
        have HSW := HR_j1.out.swapG hGy.out hiN hjN
        have HSW2 : Hid (Rw w blk off N (swp y i1 j1) ((wc.setCell ⟨blk, off + i1, none⟩ (.int .u64 (Gy j1))).setCell ⟨blk, off + j1, none⟩ (.int .u64 (Gy i1))).drew) := HSW
        clear HSW
        have HRE : Hid (R = ((partLoop ltInt a (i1 + 1) (j1 - 1) (swp y i1 j1)).1, false, swp (partLoop ltInt a (i1 + 1) (j1 - 1) (swp y i1 j1)).2 (partLoop ltInt a (i1 + 1) (j1 - 1) (swp y i1 j1)).1 a)) := by show _ = _; rw [HRR.out, if_neg (by omega)]
        obtain ⟨R2, hR2⟩ : ∃ R2, partLoop ltInt a (i1 + 1) (j1 - 1) (swp y i1 j1) = R2 := ⟨_, rfl⟩
        rw [hR2] at HRE
        have HR2 : Hid (partLoop ltInt a (i1 + 1) (j1 - 1) (swp y i1 j1) = R2) := hR2
        clear hR2
        go_wp2
        go_region
        go_wp2
        clear hc hf hv3
        go_loopw [10, 11] (fun vi vj wr => ∃ (i j : Nat) (z : Array Int), vi = .int .i64 i ∧ vj = .int .i64 j ∧ a < i ∧ i ≤ j + 2 ∧ j < b ∧ a ≤ j ∧ Hid (Rw w blk off N z wr ∧ partLoop ltInt a i j z = R2)) (fun vi vj _ => (intOf vj + 2 - intOf vi).toNat)
        case atStart => exact ⟨i1 + 1, j1 - 1, swp y i1 j1, by go_num, by congr 1; omega, by omega, by omega, by omega, by omega, HSW2.out, HR2.out⟩
        case round =>
          obtain ⟨i, j, z, rfl, rfl, hai, hij, hjb, haj, hz⟩ := hrel
          obtain ⟨G, hG⟩ : ∃ G : Nat → Int, Hid (∀ t, G t = z[t]!) := ⟨fun t => z[t]!, fun _ => rfl⟩
          obtain ⟨i2, hi2⟩ : ∃ i2, scanUp (fun x => ltInt x z[a]!) z j i = i2 := ⟨_, rfl⟩
          obtain ⟨j2, hj2⟩ : ∃ j2, scanDown (fun x => !ltInt x z[a]!) z i2 j = j2 := ⟨_, rfl⟩
          have hge := scanUp_ge (fun x => ltInt x z[a]!) z j i
          rw [hi2] at hge
          have hle2 := scanDown_le (fun x => !ltInt x z[a]!) z i2 j
          rw [hj2] at hle2
          have HI2 : Hid (scanUp (fun x => ltInt x z[a]!) z j i = i2) := hi2
          have HJ2 : Hid (scanDown (fun x => !ltInt x z[a]!) z i2 j = j2) := hj2
          have HEQ : Hid (R2 = if i2 > j2 then (j2, z) else partLoop ltInt a (i2 + 1) (j2 - 1) (swp z i2 j2)) := by
            show _ = _
            rw [← hz.out.2, partLoop_eq, hi2, hj2]
          have HRZ : Hid (Rw w blk off N z wr) := hz.out.1
          clear hi2 hj2
          go_upto_block 6 with fail
          go_cut [10] from 99 to 152 (fun vi wd => vi = .int .i64 (i2 : Int) ∧ (i2 ≤ i ∨ i2 ≤ j + 1) ∧ Rw w blk off N z wd)
          case first =>
            go_wp2
            go_loopw [10] (fun vi wr => ∃ i' : Nat, vi = .int .i64 i' ∧ i ≤ i' ∧ (i' ≤ i ∨ i' ≤ j + 1) ∧ Hid (Rw w blk off N z wr ∧ scanUp (fun x => ltInt x z[a]!) z (j) i' = i2)) (fun vi _ => (j + 2 - (intOf vi).toNat))
            case atStart => exact ⟨i, rfl, Nat.le_refl _, .inl (Nat.le_refl _), HRZ.out, HI2.out⟩
            case round =>
              obtain ⟨i', rfl, hii, hib, hy⟩ := hrel
              have hc : ∀ t, t < N → wr.cell? ⟨blk, off + t, none⟩ = some (.int .u64 (G t)) := fun t ht => by rw [hG.out]; exact hy.out.1.cell h0.out hN.out.symm t ht
              go_wp2
              by_cases hle : i' ≤ j
              · have hlei : (i' : Int) ≤ (j : Int) := by omega
                by_cases hl' : ltInt (G i') (G a) = true
                · have hl := hl'
                  clear hl'
                  go_quiet (first | (go_at_call 118; refine Calls.quiet_of_same (less_any _ _ _)))
                  go_wp2
                  refine ⟨⟨i' + 1, by go_num, by omega, .inr (by omega), hy.out.1.drawn nq, ?_⟩, ?_⟩
                  · rw [← hy.out.2, scanUp_go _ z (j) i' hle (by rw [← hG.out, ← hG.out, hl])]
                  · simp [intOf]; omega
                · have hl : ltInt (G i') (G a) = false := by simpa using hl'
                  clear hl'
                  go_quiet (first | (go_at_call 118; refine Calls.quiet_of_same (less_any _ _ _)))
                  go_wp2
                  go_meet
                  case rel =>
                    have e : i' = i2 := by rw [← hy.out.2, scanUp_end _ z (j) i' (.inr (by rw [← hG.out, ← hG.out, hl]))]
                    exact ⟨by rw [e], by rw [← e]; exact hib, hy.out.1.drawn nq⟩
              · have hlei : ¬ (i' : Int) ≤ (j : Int) := by omega
                have hled : decide ((i' : Int) ≤ (j : Int)) = false := by simp; omega
                go_quiet (first | (go_at_call 118; refine Calls.quiet_of_same (less_any _ _ _)))
                go_wp2
                go_meet
                case rel =>
                  have e : i' = i2 := by rw [← hy.out.2, scanUp_end _ z (j) i' (.inl hle)]
                  exact ⟨by rw [e], by rw [← e]; exact hib, hy.out.1.drawn nq⟩
          case rest =>
            obtain ⟨rfl, hib_i2, hr2⟩ := hcut
            have HR_i2 : Hid (Rw w blk off N z wc) := hr2
            clear hr2
            go_upto_block 8 with fail
            go_cut [11] from 99 to 152 (fun vj wd => vj = .int .i64 (j2 : Int) ∧ i2 ≤ j2 + 2 ∧ a ≤ j2 ∧ Rw w blk off N z wd)
            case first =>
              go_wp2
              go_loopw [11] (fun vj wr => ∃ j' : Nat, vj = .int .i64 j' ∧ j' ≤ j ∧ i2 ≤ j' + 2 ∧ a ≤ j' ∧ Hid (Rw w blk off N z wr ∧ scanDown (fun x => !ltInt x z[a]!) z i2 j' = j2)) (fun vj _ => (intOf vj).toNat)
              case atStart => exact ⟨j, rfl, Nat.le_refl _, by omega, haj, HR_i2.out, HJ2.out⟩
              case round =>
                obtain ⟨j', rfl, hjj, hij', haj', hy⟩ := hrel
                have hc : ∀ t, t < N → wr.cell? ⟨blk, off + t, none⟩ = some (.int .u64 (G t)) := fun t ht => by rw [hG.out]; exact hy.out.1.cell h0.out hN.out.symm t ht
                go_wp2
                by_cases hle : i2 ≤ j'
                · have hlei : (i2 : Int) ≤ (j' : Int) := by omega
                  by_cases hl' : ltInt (G j') (G a) = false
                  · have hl := hl'
                    clear hl'
                    go_quiet (first | (go_at_call 118; refine Calls.quiet_of_same (less_any _ _ _)))
                    go_wp2
                    refine ⟨⟨j' - 1, by congr 1; omega, by omega, by omega, by omega, hy.out.1.drawn nq, ?_⟩, ?_⟩
                    · rw [← hy.out.2, scanDown_go _ z i2 j' hle (by omega) (by rw [← hG.out, ← hG.out, hl]; rfl)]
                    · simp [intOf]; omega
                  · have hl : ltInt (G j') (G a) = true := by simpa using hl'
                    clear hl'
                    go_quiet (first | (go_at_call 118; refine Calls.quiet_of_same (less_any _ _ _)))
                    go_wp2
                    go_meet
                    case rel =>
                      have e : j' = j2 := by rw [← hy.out.2, scanDown_end _ z i2 j' (.inr (by rw [← hG.out, ← hG.out, hl]; rfl))]
                      exact ⟨by rw [e], by omega, by omega, hy.out.1.drawn nq⟩
                · have hlei : ¬ (i2 : Int) ≤ (j' : Int) := by omega
                  have hled : decide ((i2 : Int) ≤ (j' : Int)) = false := by simp; omega
                  go_quiet (first | (go_at_call 118; refine Calls.quiet_of_same (less_any _ _ _)))
                  go_wp2
                  go_meet
                  case rel =>
                    have e : j' = j2 := by rw [← hy.out.2, scanDown_end _ z i2 j' (.inl hle)]
                    exact ⟨by rw [e], by omega, by omega, hy.out.1.drawn nq⟩
            case rest =>
              obtain ⟨rfl, hij_j2, haj_j2, hr3⟩ := hcut
              have HR_j2 : Hid (Rw w blk off N z wc) := hr3
              clear hr3
              have hc : ∀ t, t < N → wc.cell? ⟨blk, off + t, none⟩ = some (.int .u64 (G t)) := fun t ht => by rw [hG.out]; exact HR_j2.out.cell h0.out hN.out.symm t ht
              have hf : ∀ t, t < N → wc.frozen? ⟨blk, off + t, none⟩ = false := HR_j2.out.froz h0.out hN.out.symm
              by_cases hgt2 : j2 < i2
              · have hgti2 : (j2 : Int) < (i2 : Int) := by omega
                have HE : Hid (R2 = (j2, z)) := by show _ = _; rw [HEQ.out, if_pos hgt2]
                have HE2 : Hid (R = (j2, false, swp z j2 a)) := by show _ = _; rw [HRE.out, HE.out]
                have hjN2 : j2 < N := by omega
                obtain ⟨v3, hv3⟩ := swap_cell hc hjN2 haN (.int .u64 (G a))
                have HSW := HR_j2.out.swapG hG.out hjN2 haN
                have HSW3 : Hid (Rw w blk off N (swp z j2 a) ((wc.setCell ⟨blk, off + j2, none⟩ (.int .u64 (G a))).setCell ⟨blk, off + a, none⟩ (.int .u64 (G j2))).drew) := HSW
                clear HSW
                go_wp2
                go_region
                go_wp2
                go_ret2
                exact ⟨by rw [HE2.out]; rfl, by rw [HE2.out]; exact HSW3.out⟩
              · have hgti2 : ¬ (j2 : Int) < (i2 : Int) := by omega
                have hiN2 : i2 < N := by omega
                have hjN2 : j2 < N := by omega
                obtain ⟨v3, hv3⟩ := swap_cell hc hiN2 hjN2 (.int .u64 (G j2))
                have HSW := HR_j2.out.swapG hG.out hiN2 hjN2
                have HSW3 : Hid (Rw w blk off N (swp z i2 j2) ((wc.setCell ⟨blk, off + i2, none⟩ (.int .u64 (G j2))).setCell ⟨blk, off + j2, none⟩ (.int .u64 (G i2))).drew) := HSW
                clear HSW
                go_wp2
                go_region
                go_wp2
                refine ⟨⟨i2 + 1, j2 - 1, swp z i2 j2, by go_num, by congr 1; omega, by omega, by omega, by omega, by omega, HSW3.out, ?_⟩, ?_⟩
                · rw [HEQ.out, if_neg (by omega)]
                · simp [intOf]; omega
end Go.Proofs.Ytkmpcheamdadcaa.Srt
namespace Go.Proofs.Ytkmpcheamdadcaa.Srt
open Go.RowKit Go.Sort
set_option linter.unusedVariables false
set_option linter.unusedSimpArgs false
theorem bitsLen_small : ∀ t : Fin 256, Sort.bitsLen t.1 ≤ 8 := by decide +kernel
theorem wrap64_small (x : Nat) (h : x < 1000000) : wrap64 (x : Int) = x := by unfold wrap64; omega
theorem tab_val (T : ByteArray) (hT : T.data.toList = (List.range 256).map fun t => UInt8.ofNat (Sort.bitsLen t)) (x : Nat) (h : x < T.size) (hx : x < 256) : T[x].toNat = Sort.bitsLen x := by
  have e : T[x] = T.data.toList[x]'(by simpa using h) := rfl
  have b := bitsLen_small ⟨x, hx⟩
  rw [e]
  simp only [hT, List.getElem_map, List.getElem_range]
  simp
  simp at b
  omega
theorem tab_w (T : ByteArray) (hT : T.data.toList = (List.range 256).map fun t => UInt8.ofNat (Sort.bitsLen t)) (x : Nat) (h : x < T.size) (hx : x < 256) : wrap64 (wrap64 (T[x].toNat : Int)) = (Sort.bitsLen x : Int) := by
  have b := bitsLen_small ⟨x, hx⟩
  simp only at b
  rw [tab_val T hT x h hx, wrap64_small _ (by omega), wrap64_small _ (by omega)]
theorem tab_w8 (T : ByteArray) (hT : T.data.toList = (List.range 256).map fun t => UInt8.ofNat (Sort.bitsLen t)) (x : Nat) (h : x < T.size) (hx : x < 256) : wrap64 (8 + wrap64 (T[x].toNat : Int)) = (Sort.bitsLen x : Int) + 8 := by
  have b := bitsLen_small ⟨x, hx⟩
  simp only at b
  rw [tab_val T hT x h hx, wrap64_small _ (by omega)]
  unfold wrap64; omega
theorem tab_w16 (T : ByteArray) (hT : T.data.toList = (List.range 256).map fun t => UInt8.ofNat (Sort.bitsLen t)) (x : Nat) (h : x < T.size) (hx : x < 256) : wrap64 (16 + wrap64 (T[x].toNat : Int)) = (Sort.bitsLen x : Int) + 16 := by
  have b := bitsLen_small ⟨x, hx⟩
  simp only at b
  rw [tab_val T hT x h hx, wrap64_small _ (by omega)]
  unfold wrap64; omega
theorem ret_i64 {a b : Int} (h : a = b) : Ending.returned (.int .i64 a) = .returned (.int .i64 b) := by rw [h]
set_option maxRecDepth 100000 in
set_option maxHeartbeats 2000000 in
theorem len64_small (x : Nat) (w : World) (hx : x < 256) : Calls Try.prog 122 #[.int .u64 x] w fun e w' => e = .returned (.int .i64 (Sort.bitsLen x)) ∧ w' = w := by
  have h1 : ¬ (4294967296 : Int) ≤ (x : Int) := by omega
  have h2 : ¬ (65536 : Int) ≤ (x : Int) := by omega
  have h3 : ¬ (256 : Int) ≤ (x : Int) := by omega
  go_enter Try.func122, Try.ntmps122
  go_wp2
  go_ret
  exact ⟨ret_i64 (tab_w _ (by kernel_rfl) x _ hx), rfl⟩
theorem bitsLen_256 (x : Nat) (h : 256 ≤ x) : Sort.bitsLen x = Sort.bitsLen (x / 256) + 8 := by
  have hy : x / 256 ≠ 0 := by omega
  obtain ⟨k, hk⟩ : ∃ k, Nat.log2 (x / 256) = k := ⟨_, rfl⟩
  have hb := (Nat.log2_eq_iff hy).1 hk
  have h1 : 2 ^ (k + 8) = 2 ^ k * 256 := by rw [Nat.pow_add]
  have h2 : 2 ^ (k + 1) = 2 ^ k * 2 := by rw [Nat.pow_succ]
  have h3 : 2 ^ (k + 8 + 1) = 2 ^ k * 512 := by rw [Nat.pow_succ, h1, Nat.mul_assoc]
  have hx : Nat.log2 x = k + 8 := (Nat.log2_eq_iff (by omega)).2 (by rw [h1, h3]; rw [h2] at hb; omega)
  unfold Sort.bitsLen
  rw [if_neg (by omega), if_neg hy, hx, hk]
theorem bitsLen_65536 (x : Nat) (h : 65536 ≤ x) : Sort.bitsLen x = Sort.bitsLen (x / 65536) + 16 := by
  rw [bitsLen_256 x (by omega), bitsLen_256 (x / 256) (by omega), show x / 256 / 256 = x / 65536 by omega]
set_option maxRecDepth 100000 in
set_option maxHeartbeats 2000000 in
theorem len64_mid (x : Nat) (w : World) (hx : x < 65536) : Calls Try.prog 122 #[.int .u64 x] w fun e w' => e = .returned (.int .i64 (Sort.bitsLen x)) ∧ w' = w := by
  by_cases h : x < 256
  · exact len64_small x w h
  · obtain ⟨X, hX⟩ : ∃ X : Int, (x : Int) = X := ⟨_, rfl⟩
    rw [hX]
    have h1 : X < 4294967296 := by omega
    have h2 : X < 65536 := by omega
    have h3 : 256 ≤ X := by omega
    obtain ⟨y, hy⟩ : ∃ y : Nat, y = x / 256 := ⟨_, rfl⟩
    have hyi : X / 256 = (y : Int) := by omega
    have hy2 : y < 256 := by omega
    have HB : Hid (Sort.bitsLen x = Sort.bitsLen y + 8) := by show _ = _; rw [hy]; exact bitsLen_256 x (by omega)
    clear hy hx h hX
    go_enter Try.func122, Try.ntmps122
    go_wp2
    go_ret
    exact ⟨ret_i64 (by rw [tab_w8 _ (by kernel_rfl) y _ hy2, HB.out]; omega), rfl⟩
set_option maxRecDepth 100000 in
set_option maxHeartbeats 2000000 in
theorem len64_any (x : Nat) (w : World) (hx : x < 16777216) : Calls Try.prog 122 #[.int .u64 x] w fun e w' => e = .returned (.int .i64 (Sort.bitsLen x)) ∧ w' = w := by
  by_cases h : x < 65536
  · exact len64_mid x w h
  · obtain ⟨X, hX⟩ : ∃ X : Int, (x : Int) = X := ⟨_, rfl⟩
    rw [hX]
    have h1 : X < 4294967296 := by omega
    have h2 : 65536 ≤ X := by omega
    obtain ⟨y, hy⟩ : ∃ y : Nat, y = x / 65536 := ⟨_, rfl⟩
    have hyi : X / 65536 = (y : Int) := by omega
    have hy2 : y < 256 := by omega
    have h3 : ¬ (256 : Int) ≤ (y : Int) := by omega
    have HB : Hid (Sort.bitsLen x = Sort.bitsLen y + 16) := by show _ = _; rw [hy]; exact bitsLen_65536 x (by omega)
    clear hy hx h hX
    go_enter Try.func122, Try.ntmps122
    go_wp2
    go_ret
    exact ⟨ret_i64 (by rw [tab_w16 _ (by kernel_rfl) y _ hy2, HB.out]; omega), rfl⟩
set_option maxRecDepth 100000 in
theorem blen_any (x : Nat) (w : World) (hx : x < 16777216) : Calls Try.prog 96 #[.int .u64 x] w fun e w' => e = .returned (.int .i64 (Sort.bitsLen x)) ∧ w' = w := by
  have H := len64_any x
  have HH : Hid (∀ W, Calls Try.prog 122 #[.int .u64 x] W fun e w' => e = .returned (.int .i64 (Sort.bitsLen x)) ∧ w' = W) := fun W => H W hx
  clear H hx
  go_enter Try.func96, Try.ntmps96
  go_wp2_with (go_at_call 122; refine (HH.out _).mono ?_; rintro e w3 ⟨rfl, hw3⟩; have hw4 := hw3.symm; subst hw4; clear hw3)
  go_ret
  exact ⟨rfl, rfl⟩
theorem bitsLen_le (x : Nat) (hx : x < 16777216) : Sort.bitsLen x ≤ 24 := by
  by_cases h : x < 256
  · have := bitsLen_small ⟨x, h⟩; simp only at this; omega
  · by_cases h2 : x < 65536
    · rw [bitsLen_256 x (by omega)]
      have := bitsLen_small ⟨x / 256, by omega⟩; simp only at this; omega
    · rw [bitsLen_65536 x (by omega)]
      have := bitsLen_small ⟨x / 65536, by omega⟩; simp only at this; omega
set_option maxRecDepth 100000 in
theorem pow2_any (x : Nat) (w : World) (hx : x < 16777216) : Calls Try.prog 129 #[.int .i64 x] w fun e w' => e = .returned (.int .u64 ((2 ^ Sort.bitsLen x : Nat) : Int)) ∧ w' = w := by
  have H := blen_any x
  have HH : Hid (∀ W, Calls Try.prog 96 #[.int .u64 x] W fun e w' => e = .returned (.int .i64 (Sort.bitsLen x)) ∧ w' = W) := fun W => H W hx
  have hl := bitsLen_le x hx
  obtain ⟨L, hL⟩ : ∃ L, Sort.bitsLen x = L := ⟨_, rfl⟩
  rw [hL] at HH hl ⊢
  have h0 : (x : Int) < 18446744073709551616 := by omega
  obtain ⟨X, hX⟩ : ∃ X : Int, (x : Int) = X := ⟨_, rfl⟩
  have hX0 : 0 ≤ X := by omega
  have hX1 : X < 16777216 := by omega
  rw [hX] at HH ⊢
  clear H hx hL hX h0
  go_enter Try.func129, Try.ntmps129
  go_wp2_with (go_at_call 96; refine (HH.out _).mono ?_; rintro e w3 ⟨rfl, hw3⟩; have hw4 := hw3.symm; subst hw4; clear hw3)
  go_ret
  refine ⟨?_, rfl⟩
  have e : IntKind.u64.wrap ((2 : Int) ^ L) = ((2 ^ L : Nat) : Int) := by
    have h1 : (2 ^ L : Nat) ≤ 2 ^ 24 := Nat.pow_le_pow_right (by omega) hl
    have h2 : ((2 : Int) ^ L) = ((2 ^ L : Nat) : Int) := by simp
    rw [h2, IntKind.wrap_u64]
    generalize (2 ^ L : Nat) = z at h1 ⊢
    omega
  show Ending.returned (.int .u64 (IntKind.u64.wrap ((2 : Int) ^ L))) = _
  rw [e]
/-- One step of the xorshift, in the program's own words. -/
def xo (X : Int) : Int :=
  let A := bits .xor .u64 X (IntKind.u64.wrap (X * 8192))
  let B := bits .xor .u64 A (A / 128)
  bits .xor .u64 B (IntKind.u64.wrap (B * 131072))
theorem xo_eq (r : UInt64) : xo (r.toNat : Int) = ((Sort.xorNext r).toNat : Int) := by
  have hb : ∀ s : UInt64, s.toNat < 18446744073709551616 := fun s => s.toNat_lt
  have e1 : ∀ s : UInt64, bits .xor .u64 (s.toNat : Int) (IntKind.u64.wrap ((s.toNat : Int) * 8192)) = ((s ^^^ (s <<< 13)).toNat : Int) := fun s => by
    rw [IntKind.wrap_u64, show ((s.toNat : Int) * 8192 % 18446744073709551616) = ((s.toNat * 8192 % 18446744073709551616 : Nat) : Int) by omega, bits_xor_u64_nat _ _ (hb s) (by omega)]
    rw [UInt64.toNat_xor, UInt64.toNat_shiftLeft, Nat.shiftLeft_eq]; rfl
  have e2 : ∀ s : UInt64, bits .xor .u64 (s.toNat : Int) ((s.toNat : Int) / 128) = ((s ^^^ (s >>> 7)).toNat : Int) := fun s => by
    have := hb s
    rw [show ((s.toNat : Int) / 128) = ((s.toNat / 128 : Nat) : Int) by omega, bits_xor_u64_nat _ _ (hb s) (by omega)]
    rw [UInt64.toNat_xor, UInt64.toNat_shiftRight, Nat.shiftRight_eq_div_pow]; rfl
  have e3 : ∀ s : UInt64, bits .xor .u64 (s.toNat : Int) (IntKind.u64.wrap ((s.toNat : Int) * 131072)) = ((s ^^^ (s <<< 17)).toNat : Int) := fun s => by
    rw [IntKind.wrap_u64, show ((s.toNat : Int) * 131072 % 18446744073709551616) = ((s.toNat * 131072 % 18446744073709551616 : Nat) : Int) by omega, bits_xor_u64_nat _ _ (hb s) (by omega)]
    rw [UInt64.toNat_xor, UInt64.toNat_shiftLeft, Nat.shiftLeft_eq]; rfl
  unfold xo Sort.xorNext
  simp only [e1, e2, e3]
end Go.Proofs.Ytkmpcheamdadcaa.Srt
namespace Go.Proofs.Ytkmpcheamdadcaa.Srt
open Go.RowKit Go.Sort
set_option linter.unusedVariables false
set_option linter.unusedSimpArgs false
set_option maxRecDepth 100000 in
set_option maxHeartbeats 4000000 in
theorem order_any (blk off cap a b s n : Nat) (d : Array Int) (w : World) (h : Holds (Value.int .u64) w blk off d) (ha : a < d.size) (hb : b < d.size) (hsz : d.size < 2305843009213693952) (hs : w.cell? ⟨s, 0, none⟩ = some (.int .i64 n)) (hfz : w.frozen? ⟨s, 0, none⟩ = false) (hn : n < 100) :
    Calls Try.prog 136 #[.slice (some ⟨blk, off, none⟩) d.size cap, .int .i64 a, .int .i64 b, .pointer (some ⟨s, 0, none⟩)] w fun e w' =>
      e = .returned (.tuple #[.int .i64 (Sort.order2 ltInt d a b n).1, .int .i64 (Sort.order2 ltInt d a b n).2.1]) ∧ ∃ q, w' = if ltInt d[b]! d[a]! then (w.drewN q).setCell ⟨s, 0, none⟩ (.int .i64 ((n : Int) + 1)) else w.drewN q := by
  obtain ⟨N, hN⟩ : ∃ N, Hid (N = d.size) := ⟨_, rfl⟩
  obtain ⟨G, hG⟩ : ∃ G : Nat → Int, Hid (∀ t, G t = d[t]!) := ⟨fun t => d[t]!, fun _ => rfl⟩
  rw [← hN.out] at ha hb hsz ⊢
  have hc : ∀ t, t < N → w.cell? ⟨blk, off + t, none⟩ = some (.int .u64 (G t)) := fun t ht => by rw [hG.out]; exact (h t (hN.out ▸ ht)).1
  have hf : ∀ t, t < N → w.frozen? ⟨blk, off + t, none⟩ = false := fun t ht => (h t (hN.out ▸ ht)).2
  have hO : Sort.order2 ltInt d a b n = if ltInt (G b) (G a) then (b, a, n + 1) else (a, b, n) := by rw [hG.out, hG.out]; rfl
  rw [hO, ← hG.out, ← hG.out]
  clear hO h
  go_enter Try.func136, Try.ntmps136
  go_wp2
  go_quiet (first | (go_at_call 118; refine Calls.quiet_of_same (less_any _ _ _)))
  go_wp2
  all_goals
    go_ret2
    exact ⟨rfl, nq, rfl⟩
end Go.Proofs.Ytkmpcheamdadcaa.Srt
namespace Go.Proofs.Ytkmpcheamdadcaa.Srt
open Go.RowKit Go.Sort
set_option linter.unusedVariables false
set_option linter.unusedSimpArgs false

theorem order_rel (blk off cap a b s n : Nat) (d : Array Int) (w : World) (h : Holds (Value.int .u64) w blk off d) (hne : blk ≠ s) (ha : a < d.size) (hb : b < d.size) (hsz : d.size < 2305843009213693952) (hs : w.cell? ⟨s, 0, none⟩ = some (.int .i64 n)) (hfz : w.frozen? ⟨s, 0, none⟩ = false) (hn : n < 100) :
    Calls Try.prog 136 #[.slice (some ⟨blk, off, none⟩) d.size cap, .int .i64 a, .int .i64 b, .pointer (some ⟨s, 0, none⟩)] w fun e w' =>
      e = .returned (.tuple #[.int .i64 (Sort.order2 ltInt d a b n).1, .int .i64 (Sort.order2 ltInt d a b n).2.1]) ∧ w'.cell? ⟨s, 0, none⟩ = some (.int .i64 (Sort.order2 ltInt d a b n).2.2) ∧ w'.frozen? ⟨s, 0, none⟩ = false ∧ Holds (Value.int .u64) w' blk off d ∧ w.grownBy w' (some s) := by
  refine (order_any blk off cap a b s n d w h ha hb hsz hs hfz hn).mono fun e w' ⟨he, q, hw⟩ => ⟨he, ?_⟩
  have hg0 : w.grownBy (w.drewN q) (some s) := ⟨rfl, rfl, rfl, Nat.le_refl _, fun _ _ _ => rfl⟩
  unfold Sort.order2
  by_cases hl : ltInt d[b]! d[a]! = true
  · rw [if_pos hl] at hw
    subst hw
    rw [if_pos hl]
    refine ⟨?_, ?_, fun t ht => ?_, ?_⟩
    · rw [World.cell?_setCell_same' _ _ _ (by simp [hs])]; rfl
    · rw [World.frozen?_setCell]; simpa using hfz
    · rw [World.cell?_setCell_other _ _ _ _ (by simp <;> omega), World.frozen?_setCell]
      simpa using h t ht
    · exact ⟨rfl, rfl, rfl, by simp [World.setCell], fun k hk hk2 => (Below.heap_setCell _ _ _ _ (fun e => hk2 (by rw [e]))).trans rfl⟩
  · rw [if_neg hl] at hw
    subst hw
    rw [if_neg hl]
    exact ⟨by simpa using hs, by simpa using hfz, fun t ht => by simpa using h t ht, hg0⟩
theorem order_lt {d : Array Int} {a b n N : Nat} (ha : a < N) (hb : b < N) : (Sort.order2 ltInt d a b n).1 < N ∧ (Sort.order2 ltInt d a b n).2.1 < N ∧ (Sort.order2 ltInt d a b n).2.2 ≤ n + 1 := by
  unfold Sort.order2; split <;> simp <;> omega
set_option maxRecDepth 100000 in
set_option maxHeartbeats 2000000 in
theorem median_rel (blk off cap a b c s n : Nat) (d : Array Int) (w : World) (h : Holds (Value.int .u64) w blk off d) (hne : blk ≠ s) (ha : a < d.size) (hb : b < d.size) (hc : c < d.size) (hsz : d.size < 2305843009213693952) (hs : w.cell? ⟨s, 0, none⟩ = some (.int .i64 n)) (hfz : w.frozen? ⟨s, 0, none⟩ = false) (hn : n < 50) :
    Calls Try.prog 132 #[.slice (some ⟨blk, off, none⟩) d.size cap, .int .i64 a, .int .i64 b, .int .i64 c, .pointer (some ⟨s, 0, none⟩)] w fun e w' =>
      e = .returned (.int .i64 (Sort.median ltInt d a b c n).1) ∧ w'.cell? ⟨s, 0, none⟩ = some (.int .i64 (Sort.median ltInt d a b c n).2) ∧ w'.frozen? ⟨s, 0, none⟩ = false ∧ Holds (Value.int .u64) w' blk off d ∧ w.grownBy w' (some s) := by
  obtain ⟨r1, hr1⟩ : ∃ r, Sort.order2 ltInt d a b n = r := ⟨_, rfl⟩
  have l1 := order_lt (d := d) (n := n) ha hb
  rw [hr1] at l1
  obtain ⟨r2, hr2⟩ : ∃ r, Sort.order2 ltInt d r1.2.1 c r1.2.2 = r := ⟨_, rfl⟩
  have l2 := order_lt (d := d) (n := r1.2.2) l1.2.1 hc
  rw [hr2] at l2
  obtain ⟨r3, hr3⟩ : ∃ r, Sort.order2 ltInt d r1.1 r2.1 r2.2.2 = r := ⟨_, rfl⟩
  have HM : Hid (Sort.median ltInt d a b c n = (r3.2.1, r3.2.2)) := by
    show _ = _
    simp only [Sort.median, hr1, hr2, hr3]
  have HO1 : Hid (∀ W, Holds (Value.int .u64) W blk off d → W.cell? ⟨s, 0, none⟩ = some (.int .i64 n) → W.frozen? ⟨s, 0, none⟩ = false → Calls Try.prog 136 #[.slice (some ⟨blk, off, none⟩) d.size cap, .int .i64 a, .int .i64 b, .pointer (some ⟨s, 0, none⟩)] W fun e w' => e = .returned (.tuple #[.int .i64 r1.1, .int .i64 r1.2.1]) ∧ w'.cell? ⟨s, 0, none⟩ = some (.int .i64 r1.2.2) ∧ w'.frozen? ⟨s, 0, none⟩ = false ∧ Holds (Value.int .u64) w' blk off d ∧ W.grownBy w' (some s)) := fun W h1 h2 h3 => by
    have := order_rel blk off cap a b s n d W h1 hne ha hb hsz h2 h3 (by omega); rw [hr1] at this; exact this
  have HO2 : Hid (∀ W, Holds (Value.int .u64) W blk off d → W.cell? ⟨s, 0, none⟩ = some (.int .i64 r1.2.2) → W.frozen? ⟨s, 0, none⟩ = false → Calls Try.prog 136 #[.slice (some ⟨blk, off, none⟩) d.size cap, .int .i64 r1.2.1, .int .i64 c, .pointer (some ⟨s, 0, none⟩)] W fun e w' => e = .returned (.tuple #[.int .i64 r2.1, .int .i64 r2.2.1]) ∧ w'.cell? ⟨s, 0, none⟩ = some (.int .i64 r2.2.2) ∧ w'.frozen? ⟨s, 0, none⟩ = false ∧ Holds (Value.int .u64) w' blk off d ∧ W.grownBy w' (some s)) := fun W h1 h2 h3 => by
    have := order_rel blk off cap r1.2.1 c s r1.2.2 d W h1 hne l1.2.1 hc hsz h2 h3 (by omega); rw [hr2] at this; exact this
  have HO3 : Hid (∀ W, Holds (Value.int .u64) W blk off d → W.cell? ⟨s, 0, none⟩ = some (.int .i64 r2.2.2) → W.frozen? ⟨s, 0, none⟩ = false → Calls Try.prog 136 #[.slice (some ⟨blk, off, none⟩) d.size cap, .int .i64 r1.1, .int .i64 r2.1, .pointer (some ⟨s, 0, none⟩)] W fun e w' => e = .returned (.tuple #[.int .i64 r3.1, .int .i64 r3.2.1]) ∧ w'.cell? ⟨s, 0, none⟩ = some (.int .i64 r3.2.2) ∧ w'.frozen? ⟨s, 0, none⟩ = false ∧ Holds (Value.int .u64) w' blk off d ∧ W.grownBy w' (some s)) := fun W h1 h2 h3 => by
    have := order_rel blk off cap r1.1 r2.1 s r2.2.2 d W h1 hne l1.1 l2.1 hsz h2 h3 (by omega); rw [hr3] at this; exact this
  rw [HM.out]
  have H0 : Hid (Holds (Value.int .u64) w blk off d) := h
  have HS : Hid (w.cell? ⟨s, 0, none⟩ = some (.int .i64 n)) := hs
  clear hr1 hr2 hr3 l1 l2 h hs
  obtain ⟨x1, y1, n1⟩ := r1
  obtain ⟨x2, y2, n2⟩ := r2
  obtain ⟨x3, y3, n3⟩ := r3
  dsimp only at *
  generalize d.size = N at *
  go_enter Try.func132, Try.ntmps132
  go_wp2_with (first
    | (go_at_call 136; refine (HO3.out _ h2 c2 f2).mono ?_; rintro e w3 ⟨rfl, c3, f3, h3, g3⟩)
    | (go_at_call 136; refine (HO2.out _ h1 c1 f1).mono ?_; rintro e w2 ⟨rfl, c2, f2, h2, g2⟩)
    | (go_at_call 136; refine (HO1.out _ H0.out HS.out hfz).mono ?_; rintro e w1 ⟨rfl, c1, f1, h1, g1⟩))
  go_ret
  exact ⟨rfl, c3, f3, h3, (g1.trans g2).trans g3⟩
end Go.Proofs.Ytkmpcheamdadcaa.Srt
namespace Go.Proofs.Ytkmpcheamdadcaa.Srt
open Go.RowKit Go.Sort
set_option linter.unusedVariables false
set_option linter.unusedSimpArgs false
theorem median_lt {d : Array Int} {a b c n N : Nat} (ha : a < N) (hb : b < N) (hc : c < N) : (Sort.median ltInt d a b c n).1 < N ∧ (Sort.median ltInt d a b c n).2 ≤ n + 3 := by
  have l1 := order_lt (d := d) (n := n) ha hb
  have l2 := order_lt (d := d) (n := (Sort.order2 ltInt d a b n).2.2) l1.2.1 hc
  have l3 := order_lt (d := d) (n := (Sort.order2 ltInt d (Sort.order2 ltInt d a b n).2.1 c (Sort.order2 ltInt d a b n).2.2).2.2) l1.1 l2.1
  simp only [Sort.median]
  omega
set_option maxRecDepth 100000 in
set_option maxHeartbeats 2000000 in
theorem medadj_rel (blk off cap a s n : Nat) (d : Array Int) (w : World) (h : Holds (Value.int .u64) w blk off d) (hne : blk ≠ s) (ha0 : 0 < a) (ha : a + 1 < d.size) (hsz : d.size < 2305843009213693952) (hs : w.cell? ⟨s, 0, none⟩ = some (.int .i64 n)) (hfz : w.frozen? ⟨s, 0, none⟩ = false) (hn : n < 50) :
    Calls Try.prog 131 #[.slice (some ⟨blk, off, none⟩) d.size cap, .int .i64 a, .pointer (some ⟨s, 0, none⟩)] w fun e w' =>
      e = .returned (.int .i64 (Sort.medianAdjacent ltInt d a n).1) ∧ w'.cell? ⟨s, 0, none⟩ = some (.int .i64 (Sort.medianAdjacent ltInt d a n).2) ∧ w'.frozen? ⟨s, 0, none⟩ = false ∧ Holds (Value.int .u64) w' blk off d ∧ w.grownBy w' (some s) := by
  obtain ⟨p, rfl⟩ : ∃ p, a = p + 1 := ⟨a - 1, by omega⟩
  have HM := median_rel blk off cap p (p + 1) (p + 1 + 1) s n d w h hne (by omega) (by omega) ha hsz hs hfz hn
  have e : Sort.medianAdjacent ltInt d (p + 1) n = Sort.median ltInt d p (p + 1) (p + 1 + 1) n := rfl
  rw [e]
  generalize Sort.median ltInt d p (p + 1) (p + 1 + 1) n = r at *
  have HH : Hid (Calls Try.prog 132 #[.slice (some ⟨blk, off, none⟩) d.size cap, .int .i64 p, .int .i64 ((p : Int) + 1), .int .i64 ((p : Int) + 1 + 1), .pointer (some ⟨s, 0, none⟩)] w fun e w' =>
      e = .returned (.int .i64 r.1) ∧ w'.cell? ⟨s, 0, none⟩ = some (.int .i64 r.2) ∧ w'.frozen? ⟨s, 0, none⟩ = false ∧ Holds (Value.int .u64) w' blk off d ∧ w.grownBy w' (some s)) := HM
  have hsz2 : p + 1 + 1 < 2305843009213693952 := by omega
  clear HM h hs hfz ha
  generalize d.size = N at *
  go_enter Try.func131, Try.ntmps131
  go_wp2_with (go_at_call 132; refine HH.out.mono ?_; rintro e w1 ⟨rfl, c1, f1, h1, g1⟩)
  go_ret
  exact ⟨rfl, c1, f1, h1, g1⟩
/-- The hints as the program has them. -/
def hintC : Hint → Int
  | .unknown => 0
  | .increasing => 1
  | .decreasing => 2
theorem grown_none {w w' : World} {s : Nat} {o : Obj} (hs : s = w.heap.size) (h : (w.alloc o).grownBy w' (some s)) : Below w.heap.size w w' :=
  ⟨h.os, h.tape, h.output, Nat.le_trans (by simp) h.size, fun k hk => (h.block k (by simp; omega) (by simp; omega)).trans (Below.heap_alloc _ _ _ hk)⟩
set_option maxRecDepth 100000 in
set_option maxHeartbeats 8000000 in
theorem pivot_any (blk off cap a b : Nat) (d : Array Int) (w : World) (h : Holds (Value.int .u64) w blk off d) (hblk : blk < w.heap.size) (hab : a + 12 < b) (hb : b ≤ d.size) (hsz : d.size < 2305843009213693952) :
    Calls Try.prog 115 #[.slice (some ⟨blk, off, none⟩) d.size cap, .int .i64 a, .int .i64 b] w fun e w' => e = .returned (.tuple #[.int .i64 (Sort.choosePivot ltInt d a b).1, .int .i64 (hintC (Sort.choosePivot ltInt d a b).2)]) ∧ Below w.heap.size w w' := by
  obtain ⟨l, hl⟩ : ∃ l, b = a + l := ⟨b - a, by omega⟩
  obtain ⟨q, hq⟩ : ∃ q, l / 4 = q := ⟨_, rfl⟩
  have hq3 : 3 ≤ q := by omega
  have hql : 4 * q ≤ l := by omega
  obtain ⟨i, hi⟩ : ∃ i, i = a + q * 1 := ⟨_, rfl⟩
  obtain ⟨j, hj⟩ : ∃ j, j = a + q * 2 := ⟨_, rfl⟩
  obtain ⟨k, hk⟩ : ∃ k, k = a + q * 3 := ⟨_, rfl⟩
  obtain ⟨ri, hri⟩ : ∃ r, Sort.medianAdjacent ltInt d i 0 = r := ⟨_, rfl⟩
  obtain ⟨rj, hrj⟩ : ∃ r, Sort.medianAdjacent ltInt d j ri.2 = r := ⟨_, rfl⟩
  obtain ⟨rk, hrk⟩ : ∃ r, Sort.medianAdjacent ltInt d k rj.2 = r := ⟨_, rfl⟩
  have li : ri.1 < d.size ∧ ri.2 ≤ 3 := by rw [← hri]; have := median_lt (d := d) (n := 0) (a := i - 1) (b := i) (c := i + 1) (N := d.size) (by omega) (by omega) (by omega); exact ⟨this.1, by simpa [Sort.medianAdjacent] using this.2⟩
  have lj : rj.1 < d.size ∧ rj.2 ≤ 6 := by rw [← hrj]; have := median_lt (d := d) (n := ri.2) (a := j - 1) (b := j) (c := j + 1) (N := d.size) (by omega) (by omega) (by omega); exact ⟨this.1, by have h2 := this.2; simp only [Sort.medianAdjacent]; omega⟩
  have lk : rk.1 < d.size ∧ rk.2 ≤ 9 := by rw [← hrk]; have := median_lt (d := d) (n := rj.2) (a := k - 1) (b := k) (c := k + 1) (N := d.size) (by omega) (by omega) (by omega); exact ⟨this.1, by have h2 := this.2; simp only [Sort.medianAdjacent]; omega⟩
  obtain ⟨R, hR⟩ : ∃ R, (if l ≥ 50 then Sort.median ltInt d ri.1 rj.1 rk.1 rk.2 else Sort.median ltInt d i j k 0) = R := ⟨_, rfl⟩
  have lR : R.2 ≤ 12 := by
    rw [← hR]; split
    · have := median_lt (d := d) (n := rk.2) li.1 lj.1 lk.1; omega
    · have := median_lt (d := d) (n := 0) (a := i) (b := j) (c := k) (N := d.size) (by omega) (by omega) (by omega); omega
  have HCP : Hid (Sort.choosePivot ltInt d a b = (R.1, if R.2 = 0 then .increasing else if R.2 = 12 then .decreasing else .unknown)) := by
    show _ = _
    have e1 : b - a = l := by omega
    have e8 : l ≥ 8 := by omega
    unfold Sort.choosePivot
    simp only [e1, hq, ← hi, ← hj, ← hk, hri, hrj, hrk, if_pos e8, hR]
  have mkH : ∀ W, (w.alloc (.cells #[.int .i64 0] 3)).grownBy W (some w.heap.size) → Holds (Value.int .u64) W blk off d := fun W hg t ht => by
    have hB := grown_none rfl hg
    rw [hB.cell (p := ⟨blk, off + t, none⟩) hblk, hB.frozen (p := ⟨blk, off + t, none⟩) hblk]
    exact h t ht
  have hne : blk ≠ w.heap.size := by omega
  have CI : Hid (∀ W, Holds (Value.int .u64) W blk off d → W.cell? ⟨w.heap.size, 0, none⟩ = some (.int .i64 0) → W.frozen? ⟨w.heap.size, 0, none⟩ = false → Calls Try.prog 131 #[.slice (some ⟨blk, off, none⟩) d.size cap, .int .i64 i, .pointer (some ⟨w.heap.size, 0, none⟩)] W fun e w' => e = .returned (.int .i64 ri.1) ∧ w'.cell? ⟨w.heap.size, 0, none⟩ = some (.int .i64 ri.2) ∧ w'.frozen? ⟨w.heap.size, 0, none⟩ = false ∧ Holds (Value.int .u64) w' blk off d ∧ W.grownBy w' (some w.heap.size)) := fun W h1 h2 h3 => by
    have := medadj_rel blk off cap i w.heap.size 0 d W h1 hne (by omega) (by omega) hsz h2 h3 (by omega); rw [hri] at this; exact this
  have CJ : Hid (∀ W, Holds (Value.int .u64) W blk off d → W.cell? ⟨w.heap.size, 0, none⟩ = some (.int .i64 ri.2) → W.frozen? ⟨w.heap.size, 0, none⟩ = false → Calls Try.prog 131 #[.slice (some ⟨blk, off, none⟩) d.size cap, .int .i64 j, .pointer (some ⟨w.heap.size, 0, none⟩)] W fun e w' => e = .returned (.int .i64 rj.1) ∧ w'.cell? ⟨w.heap.size, 0, none⟩ = some (.int .i64 rj.2) ∧ w'.frozen? ⟨w.heap.size, 0, none⟩ = false ∧ Holds (Value.int .u64) w' blk off d ∧ W.grownBy w' (some w.heap.size)) := fun W h1 h2 h3 => by
    have := medadj_rel blk off cap j w.heap.size ri.2 d W h1 hne (by omega) (by omega) hsz h2 h3 (by omega); rw [hrj] at this; exact this
  have CK : Hid (∀ W, Holds (Value.int .u64) W blk off d → W.cell? ⟨w.heap.size, 0, none⟩ = some (.int .i64 rj.2) → W.frozen? ⟨w.heap.size, 0, none⟩ = false → Calls Try.prog 131 #[.slice (some ⟨blk, off, none⟩) d.size cap, .int .i64 k, .pointer (some ⟨w.heap.size, 0, none⟩)] W fun e w' => e = .returned (.int .i64 rk.1) ∧ w'.cell? ⟨w.heap.size, 0, none⟩ = some (.int .i64 rk.2) ∧ w'.frozen? ⟨w.heap.size, 0, none⟩ = false ∧ Holds (Value.int .u64) w' blk off d ∧ W.grownBy w' (some w.heap.size)) := fun W h1 h2 h3 => by
    have := medadj_rel blk off cap k w.heap.size rj.2 d W h1 hne (by omega) (by omega) hsz h2 h3 (by omega); rw [hrk] at this; exact this
  have CM : Hid (l ≥ 50 → ∀ W, Holds (Value.int .u64) W blk off d → W.cell? ⟨w.heap.size, 0, none⟩ = some (.int .i64 rk.2) → W.frozen? ⟨w.heap.size, 0, none⟩ = false → Calls Try.prog 132 #[.slice (some ⟨blk, off, none⟩) d.size cap, .int .i64 ri.1, .int .i64 rj.1, .int .i64 rk.1, .pointer (some ⟨w.heap.size, 0, none⟩)] W fun e w' => e = .returned (.int .i64 R.1) ∧ w'.cell? ⟨w.heap.size, 0, none⟩ = some (.int .i64 R.2) ∧ w'.frozen? ⟨w.heap.size, 0, none⟩ = false ∧ Holds (Value.int .u64) w' blk off d ∧ W.grownBy w' (some w.heap.size)) := fun h50 W h1 h2 h3 => by
    have := median_rel blk off cap ri.1 rj.1 rk.1 w.heap.size rk.2 d W h1 hne li.1 lj.1 lk.1 hsz h2 h3 (by omega); rw [if_pos h50] at hR; rw [hR] at this; exact this
  have CS : Hid (¬ l ≥ 50 → ∀ W, Holds (Value.int .u64) W blk off d → W.cell? ⟨w.heap.size, 0, none⟩ = some (.int .i64 0) → W.frozen? ⟨w.heap.size, 0, none⟩ = false → Calls Try.prog 132 #[.slice (some ⟨blk, off, none⟩) d.size cap, .int .i64 i, .int .i64 j, .int .i64 k, .pointer (some ⟨w.heap.size, 0, none⟩)] W fun e w' => e = .returned (.int .i64 R.1) ∧ w'.cell? ⟨w.heap.size, 0, none⟩ = some (.int .i64 R.2) ∧ w'.frozen? ⟨w.heap.size, 0, none⟩ = false ∧ Holds (Value.int .u64) w' blk off d ∧ W.grownBy w' (some w.heap.size)) := fun h50 W h1 h2 h3 => by
    have := median_rel blk off cap i j k w.heap.size 0 d W h1 hne (by omega) (by omega) (by omega) hsz h2 h3 (by omega); rw [if_neg h50] at hR; rw [hR] at this; exact this
  rw [HCP.out]
  have HH0 : Hid (Holds (Value.int .u64) (w.alloc (.cells #[.int .i64 0] 3)) blk off d) := mkH _ ⟨rfl, rfl, rfl, Nat.le_refl _, fun _ _ _ => rfl⟩
  have hbx := Boxed.new w 3 (.int .i64 0)
  have c0 := hbx.cell
  have f0 := hbx.frozen
  have e1 : (b : Int) - (a : Int) = (l : Int) := by omega
  have e4 : (l : Int) / 4 = (q : Int) := by omega
  have ei : (a : Int) + (q : Int) = (i : Int) := by omega
  have ej : (a : Int) + (q : Int) * 2 = (j : Int) := by omega
  have ek : (a : Int) + (q : Int) * 3 = (k : Int) := by omega
  have hl8 : (8 : Int) ≤ (l : Int) := by omega
  clear hri hrj hrk li lj lk hR mkH h hq hi hj hk hbx hl hql
  generalize d.size = N at *
  obtain ⟨R1, R2⟩ := R
  obtain ⟨xi, ni⟩ := ri
  obtain ⟨xj, nj⟩ := rj
  obtain ⟨xk, nk⟩ := rk
  dsimp only at *
  have HFIN : Hid (∀ (W : World) (g : (w.alloc (.cells #[.int .i64 0] 3)).grownBy W (some w.heap.size)), Below w.heap.size w W) := fun W g => grown_none rfl g
  obtain ⟨hv, z0, z12, HHV⟩ : ∃ (hv : Int) (z0 z12 : Bool), Hid (hintC (if R2 = 0 then Hint.increasing else if R2 = 12 then Hint.decreasing else Hint.unknown) = hv ∧ ((R2 : Int) == 0) = z0 ∧ ((R2 : Int) == 12) = z12 ∧ hv = if z0 then 1 else if z12 then 2 else 0) := by
    refine ⟨_, _, _, rfl, rfl, rfl, ?_⟩
    by_cases h1 : R2 = 0
    · subst h1; rfl
    · have e1 : ((R2 : Int) == 0) = false := by simp; omega
      rw [if_neg h1, e1]
      by_cases h2 : R2 = 12
      · subst h2; rfl
      · have e2 : ((R2 : Int) == 12) = false := by simp; omega
        rw [if_neg h2, e2]; rfl
  rw [HHV.out.1]
  have hz0 := HHV.out.2.1
  have hz12 := HHV.out.2.2.1
  have HVE : Hid (hv = if z0 then 1 else if z12 then 2 else 0) := HHV.out.2.2.2
  clear HHV lR
  by_cases h50 : l ≥ 50
  · have h50i : (50 : Int) ≤ (l : Int) := by omega
    have CM' := CM.out h50
    have CMH : Hid (∀ W, Holds (Value.int .u64) W blk off d → W.cell? ⟨w.heap.size, 0, none⟩ = some (.int .i64 nk) → W.frozen? ⟨w.heap.size, 0, none⟩ = false → Calls Try.prog 132 #[.slice (some ⟨blk, off, none⟩) N cap, .int .i64 xi, .int .i64 xj, .int .i64 xk, .pointer (some ⟨w.heap.size, 0, none⟩)] W fun e w' => e = .returned (.int .i64 R1) ∧ w'.cell? ⟨w.heap.size, 0, none⟩ = some (.int .i64 R2) ∧ w'.frozen? ⟨w.heap.size, 0, none⟩ = false ∧ Holds (Value.int .u64) w' blk off d ∧ W.grownBy w' (some w.heap.size)) := CM'
    clear CM' CM CS
    cases z0 <;> cases z12
    all_goals
      go_enter Try.func115, Try.ntmps115
      go_wp2_with (first
        | (go_at_call 132; refine (CMH.out _ h3 c3 f3).mono ?_; rintro e w4 ⟨rfl, c4, f4, h4, g4⟩)
        | (go_at_call 131; refine (CK.out _ h2 c2 f2).mono ?_; rintro e w3 ⟨rfl, c3, f3, h3, g3⟩)
        | (go_at_call 131; refine (CJ.out _ h1 c1 f1).mono ?_; rintro e w2 ⟨rfl, c2, f2, h2, g2⟩)
        | (go_at_call 131; refine (CI.out _ HH0.out c0 f0).mono ?_; rintro e w1 ⟨rfl, c1, f1, h1, g1⟩))
      go_ret2
      exact ⟨by rw [HVE.out]; rfl, HFIN.out _ (((g1.trans g2).trans g3).trans g4)⟩
  · have h50i : ¬ (50 : Int) ≤ (l : Int) := by omega
    have CM' := CS.out h50
    have CMH : Hid (∀ W, Holds (Value.int .u64) W blk off d → W.cell? ⟨w.heap.size, 0, none⟩ = some (.int .i64 0) → W.frozen? ⟨w.heap.size, 0, none⟩ = false → Calls Try.prog 132 #[.slice (some ⟨blk, off, none⟩) N cap, .int .i64 i, .int .i64 j, .int .i64 k, .pointer (some ⟨w.heap.size, 0, none⟩)] W fun e w' => e = .returned (.int .i64 R1) ∧ w'.cell? ⟨w.heap.size, 0, none⟩ = some (.int .i64 R2) ∧ w'.frozen? ⟨w.heap.size, 0, none⟩ = false ∧ Holds (Value.int .u64) w' blk off d ∧ W.grownBy w' (some w.heap.size)) := CM'
    clear CM' CM CS
    cases z0 <;> cases z12
    all_goals
      go_enter Try.func115, Try.ntmps115
      go_wp2_with (go_at_call 132; refine (CMH.out _ HH0.out c0 f0).mono ?_; rintro e w4 ⟨rfl, c4, f4, h4, g4⟩)
      go_ret2
      exact ⟨by rw [HVE.out]; rfl, HFIN.out _ g4⟩
end Go.Proofs.Ytkmpcheamdadcaa.Srt
namespace Go.Proofs.Ytkmpcheamdadcaa.Srt
open Go.RowKit Go.Sort
set_option linter.unusedVariables false
set_option linter.unusedSimpArgs false
theorem box_set (w : World) (s : Nat) (u v : Value) (hs : w.cell? ⟨s, 0, none⟩ = some u) (hf : w.frozen? ⟨s, 0, none⟩ = false) :
    ((w.setCell ⟨s, 0, none⟩ v).drew).cell? ⟨s, 0, none⟩ = some v ∧ ((w.setCell ⟨s, 0, none⟩ v).drew).frozen? ⟨s, 0, none⟩ = false ∧ w.grownBy (w.setCell ⟨s, 0, none⟩ v).drew (some s) := by
  refine ⟨?_, ?_, ?_⟩
  · simp only [World.cell?_drew]; rw [World.cell?_setCell_same' _ _ _ (by simp [hs])]
  · simp only [World.frozen?_drew]; rw [World.frozen?_setCell]; exact hf
  · exact ⟨rfl, rfl, rfl, by simp [World.setCell, World.drew], fun k hk hk2 => (Below.heap_setCell _ _ _ _ (fun e => hk2 (by rw [e]))).trans rfl⟩
set_option maxRecDepth 100000 in
set_option maxHeartbeats 2000000 in
theorem next_any (s : Nat) (X : Int) (w : World) (hs : w.cell? ⟨s, 0, none⟩ = some (.int .u64 X)) (hf : w.frozen? ⟨s, 0, none⟩ = false) :
    Calls Try.prog 130 #[.pointer (some ⟨s, 0, none⟩)] w fun e w' => e = .returned (.int .u64 (xo X)) ∧ w'.cell? ⟨s, 0, none⟩ = some (.int .u64 (xo X)) ∧ w'.frozen? ⟨s, 0, none⟩ = false ∧ w.grownBy w' (some s) := by
  obtain ⟨A, hA⟩ : ∃ A, bits .xor .u64 X (IntKind.u64.wrap (X * 8192)) = A := ⟨_, rfl⟩
  obtain ⟨B, hB⟩ : ∃ B, bits .xor .u64 A (A / 128) = B := ⟨_, rfl⟩
  have HX : Hid (xo X = bits .xor .u64 B (IntKind.u64.wrap (B * 131072))) := by show _ = _; unfold xo; simp only [hA, hB]
  obtain ⟨C, hC⟩ : ∃ C, bits .xor .u64 B (IntKind.u64.wrap (B * 131072)) = C := ⟨_, rfl⟩
  rw [HX.out, hC]
  have HA : Hid (bits .xor .u64 X (IntKind.u64.wrap (X * 8192)) = A) := hA
  have HB : Hid (bits .xor .u64 A (A / 128) = B) := hB
  have HC : Hid (bits .xor .u64 B (IntKind.u64.wrap (B * 131072)) = C) := hC
  clear hA hB hC HX
  go_enter Try.func130, Try.ntmps130
  go_wp2
  go_region
  rw [HA.out]
  obtain ⟨c1, f1, g1⟩ := box_set w s _ (.int .u64 A) hs hf
  generalize (w.setCell ⟨s, 0, none⟩ (.int .u64 A)).drew = w1 at *
  go_wp2
  go_region
  rw [HB.out]
  obtain ⟨c2, f2, g2⟩ := box_set w1 s _ (.int .u64 B) c1 f1
  generalize (w1.setCell ⟨s, 0, none⟩ (.int .u64 B)).drew = w2 at *
  go_wp2
  go_region
  rw [HC.out]
  obtain ⟨c3, f3, g3⟩ := box_set w2 s _ (.int .u64 C) c2 f2
  generalize (w2.setCell ⟨s, 0, none⟩ (.int .u64 C)).drew = w3 at *
  go_wp2
  go_ret
  exact ⟨rfl, c3, f3, (g1.trans g2).trans g3⟩
/-- The block is of the same type and as long. -/
def Shaped (w wr : World) (blk : Nat) : Prop := ∀ cur t fr, w.heap[blk]? = some (.cells cur t fr) → ∃ cur' : Array Value, wr.heap[blk]? = some (.cells cur' t fr) ∧ cur'.size = cur.size
theorem Shaped.same {w wr : World} {blk : Nat} (h : wr.heap[blk]? = w.heap[blk]?) : Shaped w wr blk := fun cur t fr hb => ⟨cur, h.trans hb, rfl⟩
theorem Shaped.trans {w wr w' : World} {blk : Nat} (h : Shaped w wr blk) (k : Shaped wr w' blk) : Shaped w w' blk := fun cur t fr hb => by
  obtain ⟨c1, h1, h2⟩ := h cur t fr hb
  obtain ⟨c2, h3, h4⟩ := k c1 t fr h1
  exact ⟨c2, h3, h4.trans h2⟩
/-- The row of N families reads d; but for its block and new ones the world is w. -/
structure Gw (w : World) (blk off N : Nat) (d : Array Int) (wr : World) : Prop where
  size : d.size = N
  holds : Holds (Value.int .u64) wr blk off d
  grown : w.grownBy wr (some blk)
  shape : Shaped w wr blk
section
variable {w wr w' : World} {blk off N : Nat} {d d' : Array Int}
theorem Gw.start (h : Holds (Value.int .u64) w blk off d) : Gw w blk off d.size d w := ⟨rfl, h, ⟨rfl, rfl, rfl, Nat.le_refl _, fun _ _ _ => rfl⟩, .same rfl⟩
theorem Rw.grown (r : Rw w blk off N d wr) : w.grownBy wr (some blk) := by
  obtain ⟨hs, n, rfl⟩ := r
  refine ⟨rfl, rfl, rfl, by simp, fun k hk hne => ?_⟩
  have : blk ≠ k := fun e => hne (by rw [e])
  simp [putRow, mapBlock, Sort.ahead, Array.getElem?_modify, this]
theorem Rw.shape (r : Rw w blk off N d wr) : Shaped w wr blk := by
  obtain ⟨hs, n, rfl⟩ := r
  intro cur t fr hb
  refine ⟨putCells (Value.int .u64) off d cur, ?_, by simp [putCells]⟩
  simp [putRow, mapBlock, Sort.ahead, Array.getElem?_modify, hb, onCells]
theorem Gw.rw (g : Gw w blk off N d wr) (r : Rw wr blk off N d' w') : Gw w blk off N d' w' :=
  ⟨r.size, r.holds g.holds g.size, g.grown.trans r.grown, g.shape.trans r.shape⟩
theorem Gw.gw (g : Gw w blk off N d wr) (r : Gw wr blk off N d' w') : Gw w blk off N d' w' :=
  ⟨r.size, r.holds, g.grown.trans r.grown, g.shape.trans r.shape⟩
theorem Gw.below (g : Gw w blk off N d wr) (hb : blk < w.heap.size) (r : Go.RowKit.Below wr.heap.size wr w') : Gw w blk off N d w' := by
  have hb2 : blk < wr.heap.size := Nat.lt_of_lt_of_le hb g.grown.size
  refine ⟨g.size, fun t ht => ?_, g.grown.trans ⟨r.os, r.tape, r.output, r.size, fun k hk _ => r.block k hk⟩, g.shape.trans (.same (r.block blk hb2))⟩
  rw [r.cell (p := ⟨blk, off + t, none⟩) hb2, r.frozen (p := ⟨blk, off + t, none⟩) hb2]
  exact g.holds t ht
/-- A box behind the heap is turned. -/
theorem Gw.box (g : Gw w blk off N d wr) (hb : blk < w.heap.size) {s : Nat} (hs : w.heap.size ≤ s) (r : wr.grownBy w' (some s)) : Gw w blk off N d w' := by
  have hb2 : blk < wr.heap.size := Nat.lt_of_lt_of_le hb g.grown.size
  have hB : wr.heap[blk]? = w'.heap[blk]? := (r.block blk hb2 (by simp; omega)).symm
  refine ⟨g.size, fun t ht => ?_, ?_, g.shape.trans (.same hB.symm)⟩
  · rw [World.cell?_of_block (w := wr) hB.symm, World.frozen?_of_block (w := wr) hB.symm]
    exact g.holds t ht
  · exact g.grown.andThen r (fun j e => .inl (by cases e; exact hs))
theorem Gw.drawn (g : Gw w blk off N d wr) (q : Nat) : Gw w blk off N d (wr.drewN q) :=
  ⟨g.size, fun t ht => by simpa using g.holds t ht, g.grown.trans ⟨rfl, rfl, rfl, Nat.le_refl _, fun _ _ _ => rfl⟩, g.shape.trans (.same rfl)⟩
end
end Go.Proofs.Ytkmpcheamdadcaa.Srt
namespace Go.Proofs.Ytkmpcheamdadcaa.Srt
open Go.RowKit Go.Sort
set_option linter.unusedVariables false
set_option linter.unusedSimpArgs false
theorem box_new {blk off : Nat} {d : Array Int} (w : World) (v : Value) (t : TypeId) (h : Holds (Value.int .u64) w blk off d) (hb : blk < w.heap.size) : Gw w blk off d.size d (w.alloc (.cells #[v] t)) :=
  (Gw.start h).below hb ⟨rfl, rfl, rfl, by simp, fun k hk => Below.heap_alloc _ _ _ hk⟩
/-- The swap of a round, with the box beside it. -/
theorem swap_box {w wr : World} {blk off N s : Nat} {z : Array Int} {v : Value} (g : Gw w blk off N z wr) (hs : blk ≠ s) (hc : wr.cell? ⟨s, 0, none⟩ = some v) (hf : wr.frozen? ⟨s, 0, none⟩ = false) {G : Nat → Int} (hG : ∀ t, G t = z[t]!) {x y : Nat} (hx : x < N) (hy : y < N) :
    Gw w blk off N (swp z x y) ((wr.setCell ⟨blk, off + x, none⟩ (.int .u64 (G y))).setCell ⟨blk, off + y, none⟩ (.int .u64 (G x))).drew ∧
    (((wr.setCell ⟨blk, off + x, none⟩ (.int .u64 (G y))).setCell ⟨blk, off + y, none⟩ (.int .u64 (G x))).drew).cell? ⟨s, 0, none⟩ = some v ∧
    (((wr.setCell ⟨blk, off + x, none⟩ (.int .u64 (G y))).setCell ⟨blk, off + y, none⟩ (.int .u64 (G x))).drew).frozen? ⟨s, 0, none⟩ = false := by
  refine ⟨g.rw ((g.size ▸ Rw.start g.holds : Rw wr blk off N z wr).swapG hG hx hy), ?_, ?_⟩
  · simp only [World.cell?_drew]
    rw [World.cell?_setCell_other _ _ _ _ (by simp <;> omega), World.cell?_setCell_other _ _ _ _ (by simp <;> omega)]; exact hc
  · simp only [World.frozen?_drew]
    rw [World.frozen?_setCell, World.frozen?_setCell]; exact hf
set_option maxRecDepth 100000 in
set_option maxHeartbeats 8000000 in
theorem break_go (blk off cap a L : Nat) (d : Array Int) (w : World) (h : Holds (Value.int .u64) w blk off d) (hblk : blk < w.heap.size) (hb : a + L ≤ d.size) (hsz : d.size < 16777216) (h8 : 8 ≤ L) :
    Calls Try.prog 114 #[.slice (some ⟨blk, off, none⟩) d.size cap, .int .i64 a, .int .i64 ((a + L : Nat) : Int)] w fun e w' => e = .returned (.tuple #[]) ∧ Gw w blk off d.size (Sort.breakPatterns d a (a + L)) w' := by
  obtain ⟨M, hM⟩ : ∃ M : Nat, M = 2 ^ Sort.bitsLen L := ⟨_, rfl⟩
  have hM1 : 1 ≤ M := by rw [hM]; exact Nat.two_pow_pos _
  have hM2 : M ≤ 2 * L := by rw [hM]; exact two_pow_bitsLen_le (by omega)
  have HP : Hid (∀ W, Calls Try.prog 129 #[.int .i64 (L : Int)] W fun e w' => e = .returned (.int .u64 (M : Int)) ∧ w' = W) := fun W => by
    have := pow2_any L W (by omega); rw [← hM] at this; exact this
  rw [breakPatterns_eq d a L h8, Nat.one_shiftLeft, ← hM]
  obtain ⟨i0, hi0⟩ : ∃ i, a + L / 4 * 2 - 1 = i := ⟨_, rfl⟩
  rw [hi0]
  obtain ⟨N, hN⟩ : ∃ N, Hid (N = d.size) := ⟨_, rfl⟩
  have hbx := Boxed.new w 161 (.int .u64 (L : Int))
  have HS0 : Hid (Gw w blk off N d (w.alloc (.cells #[.int .u64 (L : Int)] 161)) ∧ (w.alloc (.cells #[.int .u64 (L : Int)] 161)).cell? ⟨w.heap.size, 0, none⟩ = some (.int .u64 ((UInt64.ofNat L).toNat : Int)) ∧ (w.alloc (.cells #[.int .u64 (L : Int)] 161)).frozen? ⟨w.heap.size, 0, none⟩ = false) := by
    refine ⟨hN.out ▸ box_new w _ _ h hblk, ?_, hbx.frozen⟩
    rw [show (UInt64.ofNat L).toNat = L from by simp; omega]
    exact hbx.cell
  rw [← hN.out] at hb hsz ⊢
  have e1 : (((a + L : Nat) : Int)) - (a : Int) = (L : Int) := by omega
  obtain ⟨B, hB⟩ : ∃ B : Int, ((a + L : Nat) : Int) = B := ⟨_, rfl⟩
  rw [hB] at e1 ⊢
  obtain ⟨q, hq⟩ : ∃ q, L / 4 = q := ⟨_, rfl⟩
  have e4 : (L : Int) / 4 = (q : Int) := by omega
  have hq2 : 2 ≤ q := by omega
  have hqL : q * 4 ≤ L := by omega
  have hiz : (a : Int) + (q : Int) * 2 - 1 = (i0 : Int) := by omega
  have hiz2 : (a : Int) + (q : Int) * 2 + 1 = (i0 : Int) + 2 := by omega
  have hi1 : a + 1 ≤ i0 := by omega
  have hi2 : i0 + 2 < a + L := by omega
  clear h hM hbx hq hi0 hB
  go_enter Try.func114, Try.ntmps114
  go_wp2_with (first | (go_at_call 129; refine (HP.out _).mono ?_; rintro e w' ⟨rfl, rfl⟩))
  go_loopw [9] (fun vi wr => ∃ (t : Nat) (r : UInt64) (y : Array Int), vi = .int .i64 ((i0 + t : Nat) : Int) ∧ t ≤ 3 ∧ Hid (Gw w blk off N y wr ∧ wr.cell? ⟨w.heap.size, 0, none⟩ = some (.int .u64 (r.toNat : Int)) ∧ wr.frozen? ⟨w.heap.size, 0, none⟩ = false ∧ bpRest a L M i0 (3 - t) t (r, y) = bpRest a L M i0 3 0 (UInt64.ofNat L, d))) (fun vi _ => i0 + 4 - (intOf vi).toNat)
  case atStart => exact ⟨0, UInt64.ofNat L, d, by congr 1, by omega, HS0.out.1, HS0.out.2.1, HS0.out.2.2, rfl⟩
  case round =>
    obtain ⟨t, r, y, rfl, ht, hy⟩ := hrel
    by_cases h3 : t < 3
    · obtain ⟨R, hR⟩ : ∃ R : Nat, R = (xorNext r).toNat := ⟨_, rfl⟩
      have lR : R < 18446744073709551616 := by rw [hR]; exact (xorNext r).toNat_lt
      obtain ⟨O, hO⟩ : ∃ O : Nat, O = R &&& (M - 1) := ⟨_, rfl⟩
      have lO : O ≤ M - 1 := by rw [hO]; exact Nat.and_le_right
      have eAnd : bits .and .u64 (R : Int) ((M : Int) - 1) = (O : Int) := by
        rw [show ((M : Int) - 1) = ((M - 1 : Nat) : Int) by omega, bits_and_u64_nat _ _ lR (by omega), hO]
      have HNX : Hid (Calls Try.prog 130 #[.pointer (some ⟨w.heap.size, 0, none⟩)] wr fun e w' => e = .returned (.int .u64 (R : Int)) ∧ w'.cell? ⟨w.heap.size, 0, none⟩ = some (.int .u64 (R : Int)) ∧ w'.frozen? ⟨w.heap.size, 0, none⟩ = false ∧ wr.grownBy w' (some w.heap.size)) := by
        have := next_any w.heap.size (r.toNat : Int) wr hy.out.2.1 hy.out.2.2.1
        rw [xo_eq, ← hR] at this
        exact this
      have HO : Hid (O = (xorNext r).toNat &&& (M - 1)) := by show _ = _; rw [hO, hR]
      have HRR : Hid (R = (xorNext r).toNat) := hR
      clear hO hR
      obtain ⟨x, hx⟩ : ∃ x, i0 + t = x := ⟨_, rfl⟩
      have hxz : ((i0 + t : Nat) : Int) = (x : Int) := by omega
      rw [hxz]
      have hxle : (x : Int) ≤ (i0 : Int) + 2 := by omega
      have hxN : x < N := by omega
      go_wp2_with (first | (go_at_call 130; refine HNX.out.mono ?_; rintro e w1 ⟨rfl, c1, f1, g1'⟩))
      · have hLO : L ≤ O := by omega
        obtain ⟨o, ho⟩ : ∃ o, O - L = o := ⟨_, rfl⟩
        have hoz : (O : Int) - (L : Int) = (o : Int) := by omega
        rw [hoz]
        have HIF : Hid ((if (xorNext r).toNat &&& (M - 1) ≥ L then ((xorNext r).toNat &&& (M - 1)) - L else (xorNext r).toNat &&& (M - 1)) = o) := by show _ = _; rw [← HO.out, if_pos hLO, ho]
        have g1 : Hid (Gw w blk off N y w1) := hy.out.1.box hblk (Nat.le_refl _) g1'
        clear g1'
        obtain ⟨G, HG⟩ : ∃ G : Nat → Int, Hid (∀ t, G t = y[t]!) := ⟨fun t => y[t]!, fun _ => rfl⟩
        have hc1 : ∀ t, t < N → w1.cell? ⟨blk, off + t, none⟩ = some (.int .u64 (G t)) := fun t ht => by rw [HG.out]; exact (g1.out.holds t (by rw [g1.out.size]; exact ht)).1
        have hf1 : ∀ t, t < N → w1.frozen? ⟨blk, off + t, none⟩ = false := fun t ht => (g1.out.holds t (by rw [g1.out.size]; exact ht)).2
        have hoL : o < L := by omega
        obtain ⟨p, hp⟩ : ∃ p, a + o = p := ⟨_, rfl⟩
        have hpz : (a : Int) + (o : Int) = (p : Int) := by omega
        have hpN : p < N := by omega
        obtain ⟨v2, hv2⟩ := swap_cell hc1 hxN hpN (.int .u64 (G p))
        have HSW : Hid _ := swap_box g1.out (by omega) c1 f1 HG.out hxN hpN
        have HST : Hid _ := bp_step a L M i0 t r y o h3 HIF.out
        clear HIF HO HNX c1 f1
        go_region
        all_goals go_wp2
        go_roundw
        case rel =>
          refine ⟨t + 1, xorNext r, swp y x p, by go_num, by omega, HSW.out.1, ?_, HSW.out.2.2, ?_⟩
          · rw [← HRR.out]; exact HSW.out.2.1
          · rw [← hy.out.2.2.2, HST.out, hp, hx]
        case measure => simp [intOf]; omega
      · have hLO : ¬ L ≤ O := by omega
        obtain ⟨o, ho⟩ : ∃ o, O = o := ⟨_, rfl⟩
        have HIF : Hid ((if (xorNext r).toNat &&& (M - 1) ≥ L then ((xorNext r).toNat &&& (M - 1)) - L else (xorNext r).toNat &&& (M - 1)) = o) := by show _ = _; rw [← HO.out, if_neg hLO, ho]
        rw [ho]
        have g1 : Hid (Gw w blk off N y w1) := hy.out.1.box hblk (Nat.le_refl _) g1'
        clear g1'
        obtain ⟨G, HG⟩ : ∃ G : Nat → Int, Hid (∀ t, G t = y[t]!) := ⟨fun t => y[t]!, fun _ => rfl⟩
        have hc1 : ∀ t, t < N → w1.cell? ⟨blk, off + t, none⟩ = some (.int .u64 (G t)) := fun t ht => by rw [HG.out]; exact (g1.out.holds t (by rw [g1.out.size]; exact ht)).1
        have hf1 : ∀ t, t < N → w1.frozen? ⟨blk, off + t, none⟩ = false := fun t ht => (g1.out.holds t (by rw [g1.out.size]; exact ht)).2
        have hoL : o < L := by omega
        obtain ⟨p, hp⟩ : ∃ p, a + o = p := ⟨_, rfl⟩
        have hpz : (a : Int) + (o : Int) = (p : Int) := by omega
        have hpN : p < N := by omega
        obtain ⟨v2, hv2⟩ := swap_cell hc1 hxN hpN (.int .u64 (G p))
        have HSW : Hid _ := swap_box g1.out (by omega) c1 f1 HG.out hxN hpN
        have HST : Hid _ := bp_step a L M i0 t r y o h3 HIF.out
        clear HIF HO HNX c1 f1
        go_region
        all_goals go_wp2
        go_roundw
        case rel =>
          refine ⟨t + 1, xorNext r, swp y x p, by go_num, by omega, HSW.out.1, ?_, HSW.out.2.2, ?_⟩
          · rw [← HRR.out]; exact HSW.out.2.1
          · rw [← hy.out.2.2.2, HST.out, hp, hx]
        case measure => simp [intOf]; omega
    · obtain rfl : t = 3 := by omega
      have hxle : ¬ ((i0 + 3 : Nat) : Int) ≤ (i0 : Int) + 2 := by omega
      go_wp2
      go_end0
      exact ⟨rfl, by rw [← hy.out.2.2.2]; exact hy.out.1⟩
theorem break_any (blk off cap a b : Nat) (d : Array Int) (w : World) (h : Holds (Value.int .u64) w blk off d) (hblk : blk < w.heap.size) (hab : a + 8 ≤ b) (hb : b ≤ d.size) (hsz : d.size < 16777216) :
    Calls Try.prog 114 #[.slice (some ⟨blk, off, none⟩) d.size cap, .int .i64 a, .int .i64 b] w fun e w' => e = .returned (.tuple #[]) ∧ Gw w blk off d.size (Sort.breakPatterns d a b) w' := by
  obtain ⟨L, rfl⟩ : ∃ L, b = a + L := ⟨b - a, by omega⟩
  exact break_go blk off cap a L d w h hblk hb hsz (by omega)
end Go.Proofs.Ytkmpcheamdadcaa.Srt
namespace Go.Proofs.Ytkmpcheamdadcaa.Srt
open Go.RowKit Go.Sort
set_option linter.unusedVariables false
set_option linter.unusedSimpArgs false
theorem scanSorted_ge (d : Array Int) (b i : Nat) : i ≤ scanSorted ltInt d b i ∧ (scanSorted ltInt d b i ≤ b ∨ scanSorted ltInt d b i = i) := by
  induction h : b - i generalizing i with
  | zero =>
    rw [scanSorted_stop _ _ _ _ (.inl (by omega))]; omega
  | succ n ih =>
    by_cases hl : ltInt d[i]! d[i - 1]! = true
    · rw [scanSorted_stop _ _ _ _ (.inr hl)]; omega
    · rw [scanSorted_go _ _ _ _ (by omega) (by simpa using hl)]
      have := ih (i + 1) (by omega)
      omega
set_option maxRecDepth 100000 in
set_option maxHeartbeats 16000000 in
theorem partial_any (blk off cap a b : Nat) (d : Array Int) (w : World) (h : Holds (Value.int .u64) w blk off d) (hab : a < b) (hb : b ≤ d.size) (hsz : d.size < 2305843009213693952) :
    Calls Try.prog 117 #[.slice (some ⟨blk, off, none⟩) d.size cap, .int .i64 a, .int .i64 b] w fun e w' => e = .returned (.bool (Sort.partialInsertionSort ltInt d a b).2) ∧ Rw w blk off d.size (Sort.partialInsertionSort ltInt d a b).1 w' := by
  obtain ⟨N, hN⟩ : ∃ N, Hid (N = d.size) := ⟨_, rfl⟩
  have h0 : Hid (Holds (Value.int .u64) w blk off d) := h
  have r0 : Rw w blk off N d w := hN.out ▸ Rw.start h
  rw [← hN.out] at hb hsz ⊢
  clear h
  obtain ⟨R, hR⟩ : ∃ R, Sort.partialInsertionSort ltInt d a b = R := ⟨_, rfl⟩
  have HRR : Hid (partialIns ltInt a b 5 (a + 1) d = R) := hR
  rw [hR]
  clear hR
  go_enter Try.func117, Try.ntmps117
  go_wp2
  go_loopw [7, 8] (fun vi vk wr => ∃ (i k : Nat) (z : Array Int), vi = .int .i64 i ∧ vk = .int .i64 k ∧ a < i ∧ i ≤ b ∧ k ≤ 5 ∧ Hid (Rw w blk off N z wr ∧ partialIns ltInt a b (5 - k) i z = R)) (fun _ vk _ => (5 - intOf vk).toNat)
  case atStart => exact ⟨a + 1, 0, d, by go_num, rfl, by omega, by omega, by omega, r0, HRR.out⟩
  case round =>
    obtain ⟨i, k, z, rfl, rfl, hai, hib, hk5, hz⟩ := hrel
    by_cases hk : k < 5
    · have hki : (k : Int) < 5 := by omega
      obtain ⟨G, hG⟩ : ∃ G : Nat → Int, Hid (∀ t, G t = z[t]!) := ⟨fun t => z[t]!, fun _ => rfl⟩
      obtain ⟨i2, hi2⟩ : ∃ i2, scanSorted ltInt z b i = i2 := ⟨_, rfl⟩
      have hge := scanSorted_ge z b i
      rw [hi2] at hge
      have HI2 : Hid (scanSorted ltInt z b i = i2) := hi2
      have hi2b : i2 ≤ b := by omega
      have hai2 : a < i2 := by omega
      obtain ⟨s, hs⟩ : ∃ s, 5 - k = s + 1 := ⟨4 - k, by omega⟩
      have hs2 : 5 - (k + 1) = s := by omega
      have HEQ : Hid (R = if i2 = b then (z, true) else if b - a < 50 then (z, false) else partialIns ltInt a b s i2 (if b - i2 ≥ 2 then shiftUp ltInt b (i2 + 1) (if i2 - a ≥ 2 then shiftDown ltInt (i2 - 1) (swp z i2 (i2 - 1)) else swp z i2 (i2 - 1)) else (if i2 - a ≥ 2 then shiftDown ltInt (i2 - 1) (swp z i2 (i2 - 1)) else swp z i2 (i2 - 1)))) := by
        show _ = _
        rw [← hz.out.2, hs, partialIns]
        simp only [hi2]
      have HRZ : Hid (Rw w blk off N z wr) := hz.out.1
      have HS2 : Hid (5 - (k + 1) = s) := hs2
      clear hi2 hs hs2 hge
      go_upto_block 2 with fail
      go_cut [7] from 13 to 132 (fun vi wd => vi = .int .i64 (i2 : Int) ∧ Rw w blk off N z wd)
      case first =>
        go_wp2
        go_loopw [7] (fun vi wr => ∃ i' : Nat, vi = .int .i64 i' ∧ i ≤ i' ∧ i' ≤ b ∧ Hid (Rw w blk off N z wr ∧ scanSorted ltInt z b i' = i2)) (fun vi _ => (b + 1 - (intOf vi).toNat))
        case atStart => exact ⟨i, rfl, Nat.le_refl _, hib, HRZ.out, HI2.out⟩
        case round =>
          obtain ⟨i', rfl, hii, hib', hy⟩ := hrel
          have hc : ∀ t, t < N → wr.cell? ⟨blk, off + t, none⟩ = some (.int .u64 (G t)) := fun t ht => by rw [hG.out]; exact hy.out.1.cell h0.out hN.out.symm t ht
          obtain ⟨p, hp⟩ : ∃ p, i' = p + 1 := ⟨i' - 1, by omega⟩
          subst hp
          go_wp2
          by_cases hle : p + 1 < b
          · have hlei : (p : Int) + 1 < (b : Int) := by omega
            by_cases hl' : ltInt (G (p + 1)) (G p) = false
            · have hl := hl'
              clear hl'
              go_quiet (first | (go_at_call 118; refine Calls.quiet_of_same (less_any _ _ _)))
              go_wp2
              refine ⟨⟨p + 1 + 1, by go_num, by omega, by omega, hy.out.1.drawn nq, ?_⟩, ?_⟩
              · rw [← hy.out.2, scanSorted_go _ z b (p + 1) hle (by rw [← hG.out, Nat.add_sub_cancel, ← hG.out, hl])]
              · simp [intOf]; omega
            · have hl : ltInt (G (p + 1)) (G p) = true := by simpa using hl'
              clear hl'
              go_quiet (first | (go_at_call 118; refine Calls.quiet_of_same (less_any _ _ _)))
              go_wp2
              go_meet
              case rel =>
                have e : p + 1 = i2 := by rw [← hy.out.2, scanSorted_stop _ z b (p + 1) (.inr (by rw [← hG.out, Nat.add_sub_cancel, ← hG.out, hl]))]
                exact ⟨by rw [← e] <;> try go_num, hy.out.1.drawn nq⟩
          · have hlei : ¬ (p : Int) + 1 < (b : Int) := by omega
            have hled : decide ((p : Int) + 1 < (b : Int)) = false := by simp; omega
            go_quiet (first | (go_at_call 118; refine Calls.quiet_of_same (less_any _ _ _)))
            go_wp2
            go_meet
            case rel =>
              have e : p + 1 = i2 := by rw [← hy.out.2, scanSorted_stop _ z b (p + 1) (.inl hle)]
              exact ⟨by rw [← e] <;> try go_num, hy.out.1.drawn nq⟩
      case rest =>
        obtain ⟨rfl, hr2⟩ := hcut
        have HR2 : Hid (Rw w blk off N z wc) := hr2
        clear hr2
        by_cases hEb : i2 = b
        · have hEbi : ((i2 : Int) == (b : Int)) = true := by simp; omega
          have HE : Hid (R = (z, true)) := by show _ = _; rw [HEQ.out, if_pos hEb]
          clear hEb
          go_wp2
          go_ret
          exact ⟨by rw [HE.out]; rfl, by rw [HE.out]; exact HR2.out⟩
        · have hEbi : ((i2 : Int) == (b : Int)) = false := by simp; omega
          by_cases h50 : b - a < 50
          · have h50i : (b : Int) - (a : Int) < 50 := by omega
            have HE : Hid (R = (z, false)) := by show _ = _; rw [HEQ.out, if_neg hEb, if_pos h50]
            go_wp2
            go_ret
            exact ⟨by rw [HE.out]; rfl, by rw [HE.out]; exact HR2.out⟩
          · have h50i : ¬ (b : Int) - (a : Int) < 50 := by omega
            obtain ⟨q, hq⟩ : ∃ q, i2 = q + 1 := ⟨i2 - 1, by omega⟩
            subst hq
            have hc : ∀ t, t < N → wc.cell? ⟨blk, off + t, none⟩ = some (.int .u64 (G t)) := fun t ht => by rw [hG.out]; exact HR2.out.cell h0.out hN.out.symm t ht
            have hf : ∀ t, t < N → wc.frozen? ⟨blk, off + t, none⟩ = false := HR2.out.froz h0.out hN.out.symm
            have hqN : q + 1 < N := by omega
            have hqN2 : q < N := by omega
            obtain ⟨v3, hv3⟩ := swap_cell hc hqN hqN2 (.int .u64 (G q))
            obtain ⟨y0, hy0⟩ : ∃ y, swp z (q + 1) q = y := ⟨_, rfl⟩
            have HSW : Hid (Rw w blk off N y0 ((wc.setCell ⟨blk, off + (q + 1), none⟩ (.int .u64 (G q))).setCell ⟨blk, off + q, none⟩ (.int .u64 (G (q + 1)))).drew) := by
              show Rw _ _ _ _ _ _
              rw [← hy0]; exact HR2.out.swapG hG.out hqN hqN2
            obtain ⟨y1, hy1⟩ : ∃ y, (if q + 1 - a ≥ 2 then shiftDown ltInt q y0 else y0) = y := ⟨_, rfl⟩
            obtain ⟨y2, hy2⟩ : ∃ y, (if b - (q + 1) ≥ 2 then shiftUp ltInt b (q + 1 + 1) y1 else y1) = y := ⟨_, rfl⟩
            have HE : Hid (R = partialIns ltInt a b s (q + 1) y2) := by
              show _ = _
              rw [HEQ.out, if_neg hEb, if_neg h50, Nat.add_sub_cancel, hy0, hy1, hy2]
            have HY1 : Hid ((if q + 1 - a ≥ 2 then shiftDown ltInt q y0 else y0) = y1) := hy1
            have HY2 : Hid ((if b - (q + 1) ≥ 2 then shiftUp ltInt b (q + 1 + 1) y1 else y1) = y2) := hy2
            clear hy0 hy1 hy2 hEb
            go_wp2
            go_region
            clear hc hf hv3
            go_upto_if 61 with fail
            go_cut [9] from 13 to 132 (fun _ wd => Rw w blk off N y1 wd)
            case first =>
              by_cases h2 : q + 1 - a ≥ 2
              · have h2i : (2 : Int) ≤ (q : Int) + 1 - (a : Int) := by omega
                have HY : Hid (shiftDown ltInt q y0 = y1) := by show _ = _; rw [← HY1.out, if_pos h2]
                go_wp2
                go_loopw [9] (fun vj wr => ∃ (j : Nat) (x : Array Int), vj = .int .i64 j ∧ j ≤ q ∧ Hid (Rw w blk off N x wr ∧ shiftDown ltInt j x = y1)) (fun vj _ => (intOf vj).toNat)
                case atStart => exact ⟨q, y0, by congr 1 <;> omega, Nat.le_refl _, HSW.out, HY.out⟩
                case round =>
                  obtain ⟨j, x, rfl, hjq, hx⟩ := hrel
                  by_cases hj1 : 1 ≤ j
                  · obtain ⟨r, hr⟩ : ∃ r, j = r + 1 := ⟨j - 1, by omega⟩
                    subst hr
                    obtain ⟨Gx, hGx⟩ : ∃ G : Nat → Int, Hid (∀ t, G t = x[t]!) := ⟨fun t => x[t]!, fun _ => rfl⟩
                    have hc : ∀ t, t < N → wr.cell? ⟨blk, off + t, none⟩ = some (.int .u64 (Gx t)) := fun t ht => by rw [hGx.out]; exact hx.out.1.cell h0.out hN.out.symm t ht
                    have hf : ∀ t, t < N → wr.frozen? ⟨blk, off + t, none⟩ = false := hx.out.1.froz h0.out hN.out.symm
                    have hrN : r + 1 < N := by omega
                    have hrN2 : r < N := by omega
                    by_cases hl' : ltInt (Gx (r + 1)) (Gx r) = true
                    · have hl := hl'
                      clear hl'
                      obtain ⟨v3, hv3⟩ := swap_cell hc hrN hrN2 (.int .u64 (Gx r))
                      go_wp2
                      go_quiet (first | (go_at_call 118; refine Calls.quiet_of_same (less_any _ _ _)))
                      go_wp2
                      go_region
                      go_wp2
                      refine ⟨⟨r, swp x (r + 1) r, by congr 1 <;> omega, by omega, ?_, ?_⟩, ?_⟩
                      · have := (hx.out.1.drawn nq).swapG hGx.out hrN hrN2
                        exact this
                      · rw [← hx.out.2, shiftDown_go _ (r + 1) x hj1 (by rw [← hGx.out, Nat.add_sub_cancel, ← hGx.out, hl]), Nat.add_sub_cancel]
                      · simp [intOf]
                    · have hl : ltInt (Gx (r + 1)) (Gx r) = false := by simpa using hl'
                      clear hl'
                      go_wp2
                      go_quiet (first | (go_at_call 118; refine Calls.quiet_of_same (less_any _ _ _)))
                      go_wp2
                      go_meet
                      case rel =>
                        have e : x = y1 := by rw [← hx.out.2, shiftDown_stop _ (r + 1) x (.inr (by rw [← hGx.out, Nat.add_sub_cancel, ← hGx.out, hl]))]
                        rw [← e]; exact hx.out.1.drawn nq
                  · have hji : ¬ (1 : Int) ≤ (j : Int) := by omega
                    go_wp2
                    go_meet
                    case rel =>
                      have e : x = y1 := by rw [← hx.out.2, shiftDown_stop _ j x (.inl (by omega))]
                      rw [← e]; exact hx.out.1
              · have h2i : ¬ (2 : Int) ≤ (q : Int) + 1 - (a : Int) := by omega
                have HY : Hid (y0 = y1) := by show _ = _; rw [← HY1.out, if_neg h2]
                go_wp2
                go_meet
                case rel => rw [← HY.out]; exact HSW.out
            case rest =>
              have HRa : Hid (Rw w blk off N y1 wc) := hcut
              clear hcut
              by_cases h2 : b - (q + 1) ≥ 2
              · have h2i : (2 : Int) ≤ (b : Int) - ((q : Int) + 1) := by omega
                have HY : Hid (shiftUp ltInt b (q + 1 + 1) y1 = y2) := by show _ = _; rw [← HY2.out, if_pos h2]
                go_wp2
                go_loopw [10] (fun vj wr => ∃ (j : Nat) (x : Array Int), vj = .int .i64 ((j : Int) + 1) ∧ j + 1 ≤ b ∧ Hid (Rw w blk off N x wr ∧ shiftUp ltInt b (j + 1) x = y2)) (fun vj _ => (b + 1 - (intOf vj).toNat))
                case atStart => exact ⟨q + 1, y1, by go_num, by omega, HRa.out, HY.out⟩
                case round =>
                  obtain ⟨r, x, rfl, hrb, hx⟩ := hrel
                  obtain ⟨Gx, hGx⟩ : ∃ G : Nat → Int, Hid (∀ t, G t = x[t]!) := ⟨fun t => x[t]!, fun _ => rfl⟩
                  have hc : ∀ t, t < N → wr.cell? ⟨blk, off + t, none⟩ = some (.int .u64 (Gx t)) := fun t ht => by rw [hGx.out]; exact hx.out.1.cell h0.out hN.out.symm t ht
                  have hf : ∀ t, t < N → wr.frozen? ⟨blk, off + t, none⟩ = false := hx.out.1.froz h0.out hN.out.symm
                  by_cases hj1 : r + 1 < b
                  · have hj1i : (r : Int) + 1 < (b : Int) := by omega
                    have hrN : r + 1 < N := by omega
                    have hrN2 : r < N := by omega
                    by_cases hl' : ltInt (Gx (r + 1)) (Gx r) = true
                    · have hl := hl'
                      clear hl'
                      obtain ⟨v3, hv3⟩ := swap_cell hc hrN hrN2 (.int .u64 (Gx r))
                      go_wp2
                      go_quiet (first | (go_at_call 118; refine Calls.quiet_of_same (less_any _ _ _)))
                      go_wp2
                      go_region
                      go_wp2
                      refine ⟨⟨r + 1, swp x (r + 1) r, by go_num, by omega, ?_, ?_⟩, ?_⟩
                      · have := (hx.out.1.drawn nq).swapG hGx.out hrN hrN2
                        exact this
                      · rw [← hx.out.2, shiftUp_go _ b (r + 1) x hj1 (by rw [← hGx.out, Nat.add_sub_cancel, ← hGx.out, hl]), Nat.add_sub_cancel]
                      · simp [intOf]; omega
                    · have hl : ltInt (Gx (r + 1)) (Gx r) = false := by simpa using hl'
                      clear hl'
                      go_wp2
                      go_quiet (first | (go_at_call 118; refine Calls.quiet_of_same (less_any _ _ _)))
                      go_wp2
                      refine ⟨⟨q + 1, k + 1, y2, by go_num, by go_num, by omega, by omega, by omega, ?_, by rw [HS2.out, HE.out]⟩, by simp [intOf]; omega⟩
                      have e : x = y2 := by rw [← hx.out.2, shiftUp_stop _ b (r + 1) x (.inr (by rw [← hGx.out, Nat.add_sub_cancel, ← hGx.out, hl]))]
                      rw [← e]; exact hx.out.1.drawn nq
                  · have hj1i : ¬ (r : Int) + 1 < (b : Int) := by omega
                    go_wp2
                    refine ⟨⟨q + 1, k + 1, y2, by go_num, by go_num, by omega, by omega, by omega, ?_, by rw [HS2.out, HE.out]⟩, by simp [intOf]; omega⟩
                    have e : x = y2 := by rw [← hx.out.2, shiftUp_stop _ b (r + 1) x (.inl hj1)]
                    rw [← e]; exact hx.out.1
              · have h2i : ¬ (2 : Int) ≤ (b : Int) - ((q : Int) + 1) := by omega
                have HY : Hid (y1 = y2) := by show _ = _; rw [← HY2.out, if_neg h2]
                go_wp2
                refine ⟨⟨q + 1, k + 1, y2, by go_num, by go_num, by omega, by omega, by omega, ?_, by rw [HS2.out, HE.out]⟩, by simp [intOf]; omega⟩
                rw [← HY.out]; exact HRa.out
    · have hki : ¬ (k : Int) < 5 := by omega
      have HE : Hid (R = (z, false)) := by
        show _ = _
        rw [← hz.out.2, show 5 - k = 0 by omega]; rfl
      go_wp2
      go_ret
      exact ⟨by rw [HE.out]; rfl, by rw [HE.out]; exact hz.out.1⟩
end Go.Proofs.Ytkmpcheamdadcaa.Srt
namespace Go.Proofs.Ytkmpcheamdadcaa.Srt
open Go.RowKit Go.Sort
set_option linter.unusedVariables false
set_option linter.unusedSimpArgs false
/-- One round of the loop: the arrays and numbers ahead of the partition, and what is left to do behind it. -/
structure Round (d : Array Int) (a b lim : Nat) (wb wp : Bool) (d1 : Array Int) (lim1 c1 : Nat) (c2 : Hint) (d2 : Array Int) (pv : Nat) (hint : Hint) (d3 : Array Int) (done : Bool) : Prop where
  size1 : d1.size = d.size
  size2 : d2.size = d.size
  size3 : d3.size = d.size
  pva : a ≤ pv
  pvb : pv < b
  c1a : a ≤ c1
  c1b : c1 < b
  lim_le : lim1 ≤ lim
  below : Go.Sort.Below ltInt a b d3
  brk : wb = false → d1 = breakPatterns d a b ∧ lim1 = lim - 1
  bal : wb = true → d1 = d ∧ lim1 = lim
  piv : choosePivot ltInt d1 a b = (c1, c2)
  dec : c2 = .decreasing → d2 = reverseRange d1 a b ∧ pv = (b - 1) - (c1 - a) ∧ hint = .increasing
  ndec : c2 ≠ .decreasing → d2 = d1 ∧ pv = c1 ∧ hint = c2
  yes : (wb && wp && decide (hint = .increasing)) = true → partialInsertionSort ltInt d2 a b = (d3, done)
  no : (wb && wp && decide (hint = .increasing)) = false → d3 = d2 ∧ done = false
  fin : done = true → pdq ltInt d a b lim wb wp = d3
  eql : done = false → (decide (a > 0) && !ltInt d3[a - 1]! d3[pv]!) = true → ∀ mid d4, partitionEqual ltInt d3 a b pv = (mid, d4) → a < mid ∧ mid ≤ b → pdq ltInt d a b lim wb wp = pdq ltInt d4 mid b lim1 wb wp
  left : done = false → (decide (a > 0) && !ltInt d3[a - 1]! d3[pv]!) = false → ∀ mid ap d4, partition ltInt d3 a b pv = (mid, ap, d4) → a ≤ mid ∧ mid < b → mid - a < b - mid → pdq ltInt d a b lim wb wp = pdq ltInt (pdq ltInt d4 a mid lim1 true true) (mid + 1) b lim1 (decide (mid - a ≥ (b - a) / 8)) ap
  right : done = false → (decide (a > 0) && !ltInt d3[a - 1]! d3[pv]!) = false → ∀ mid ap d4, partition ltInt d3 a b pv = (mid, ap, d4) → a ≤ mid ∧ mid < b → ¬ mid - a < b - mid → pdq ltInt d a b lim wb wp = pdq ltInt (pdq ltInt d4 (mid + 1) b lim1 true true) a mid lim1 (decide (b - mid ≥ (b - a) / 8)) ap
theorem round_of (d : Array Int) (a b lim : Nat) (wb wp : Bool) (h12 : ¬ b - a ≤ 12) (h0 : ¬ lim = 0) (hb : b ≤ d.size) (hB : Go.Sort.Below ltInt a b d) :
    ∃ d1 lim1 c1 c2 d2 pv hint d3 done, Round d a b lim wb wp d1 lim1 c1 c2 d2 pv hint d3 done := by
  obtain ⟨s1, B1, hc1, s2, B2, hpv, s3, B3⟩ := rd_facts (limit := lim) (wb := wb) (wp := wp) swo_ltInt partialInsertionSort_holds reverseRange_holds (show a < b by omega) hb hB
  refine ⟨(rd ltInt d a b lim wb wp).d1, (rd ltInt d a b lim wb wp).lim, (rd ltInt d a b lim wb wp).c.1, (rd ltInt d a b lim wb wp).c.2, (rd ltInt d a b lim wb wp).d2, (rd ltInt d a b lim wb wp).pivot, (rd ltInt d a b lim wb wp).hint, (rd ltInt d a b lim wb wp).pi.1, (rd ltInt d a b lim wb wp).pi.2, ?_⟩
  exact {
    size1 := s1, size2 := s2, size3 := s3, pva := hpv.1, pvb := hpv.2, c1a := hc1.1, c1b := hc1.2, lim_le := rd_lim_le, below := B3
    brk := fun e => by subst e; exact ⟨rfl, rfl⟩
    bal := fun e => by subst e; exact ⟨rfl, rfl⟩
    piv := rfl
    dec := fun e => rd_dec e
    ndec := fun e => rd_not e
    yes := fun e => (rd_pi_yes e).symm
    no := fun e => by rw [rd_pi_no e]; exact ⟨rfl, rfl⟩
    fin := fun e => pdq_done h12 h0 e
    eql := fun e1 e2 mid d4 hx hm => by rw [pdq_eq h12 h0 e1 e2 (by rw [hx]; exact hm), hx]
    left := fun e1 e2 mid ap d4 hx hm hl => by rw [pdq_left h12 h0 e1 e2 (by rw [hx]; exact hm) (by rw [hx]; exact hl), hx]
    right := fun e1 e2 mid ap d4 hx hm hl => by rw [pdq_right h12 h0 e1 e2 (by rw [hx]; exact hm) (by rw [hx]; exact hl), hx] }
end Go.Proofs.Ytkmpcheamdadcaa.Srt
namespace Go.Proofs.Ytkmpcheamdadcaa.Srt
open Go.RowKit Go.Sort
set_option linter.unusedVariables false
set_option linter.unusedSimpArgs false
theorem rev_go {i j : Nat} (d : Array Int) (h : i < j) : reverseLoop i j d = reverseLoop (i + 1) (j - 1) (swp d i j) := by rw [reverseLoop, if_pos h]
theorem rev_stop {i j : Nat} (d : Array Int) (h : ¬ i < j) : reverseLoop i j d = d := by rw [reverseLoop, if_neg h]
set_option maxRecDepth 100000 in
set_option maxHeartbeats 4000000 in
theorem rev_any (blk off cap a b : Nat) (d : Array Int) (w : World) (h : Holds (Value.int .u64) w blk off d) (hab : a < b) (hb : b ≤ d.size) (hsz : d.size < 4611686018427387904) :
    Calls Try.prog 116 #[.slice (some ⟨blk, off, none⟩) d.size cap, .int .i64 a, .int .i64 b] w fun e w' => e = .returned (.tuple #[]) ∧ Rw w blk off d.size (Sort.reverseRange d a b) w' := by
  obtain ⟨N, hN⟩ : ∃ N, N = d.size := ⟨_, rfl⟩
  have h0 : Hid (Holds (Value.int .u64) w blk off d) := h
  have r0 : Rw w blk off N d w := hN ▸ Rw.start h
  rw [← hN] at hb hsz ⊢
  clear h
  go_enter Try.func116, Try.ntmps116
  go_wp2
  go_loopw [6, 7] (fun vi vj wr => ∃ (i j : Nat) (y : Array Int), vi = .int .i64 i ∧ vj = .int .i64 j ∧ a ≤ i ∧ i ≤ b ∧ j < b ∧ Hid (Rw w blk off N y wr ∧ reverseLoop i j y = Sort.reverseRange d a b)) (fun vi _ _ => b - (intOf vi).toNat)
  case atStart => exact ⟨a, b - 1, d, rfl, by go_num, by omega, by omega, by omega, r0, rfl⟩
  case round =>
    obtain ⟨i, j, y, rfl, rfl, hai, hib, hjb, hy⟩ := hrel
    obtain ⟨G, hG⟩ : ∃ G : Nat → Int, Hid (∀ t, G t = y[t]!) := ⟨fun t => y[t]!, fun _ => rfl⟩
    have hc : ∀ t, t < N → wr.cell? ⟨blk, off + t, none⟩ = some (.int .u64 (G t)) := fun t ht => by rw [hG.out]; exact hy.out.1.cell h0.out hN.symm t ht
    have hf : ∀ t, t < N → wr.frozen? ⟨blk, off + t, none⟩ = false := hy.out.1.froz h0.out hN.symm
    go_wp2
    · have hij : i < j := by assumption
      go_region
      all_goals go_wp2
      go_roundw
      case rel =>
        refine ⟨i + 1, j - 1, swp y i j, by go_num, by go_num, by omega, by omega, by omega, ?_, ?_⟩
        · have := hy.out.1.swap 1 (j := i) (k := j) (by omega) (by omega)
          rw [← hG.out, ← hG.out] at this
          exact this
        · rw [← hy.out.2, rev_go y hij]
      case measure => simp [intOf]; omega
    · have hij : ¬ i < j := by assumption
      go_end0
      have e := hy.out.2
      rw [rev_stop y hij] at e
      exact ⟨rfl, e ▸ hy.out.1⟩
end Go.Proofs.Ytkmpcheamdadcaa.Srt
