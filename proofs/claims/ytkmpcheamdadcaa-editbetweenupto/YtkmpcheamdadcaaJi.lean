/-
  The sort at uint64: partitionEqual.
  The sort at uint64: partition.
-/
import Derived.Test.YtkmpcheamdadcaaVd
import Derived.Deep.RegionLaw
import Derived.BigQuiet
import Derived.Sort.WalkA
import Derived.Sort.LotC
import Derived.Sort.WalkC
import Derived.Deep.CutBlock
namespace Go.Proofs.Ytkmpcheamdadcaa.Srt
open Go.RowKit Go.Sort
set_option linter.unusedVariables false
set_option linter.unusedSimpArgs false
set_option maxRecDepth 100000 in
/-- No number of a kind of ints is 'not a number'. -/
theorem isnan_any (x : Int) (w : World) : Calls Try.prog 110 #[.int .u64 x] w fun e w' => e = .returned (.bool false) ∧ w' = w := by
  go_enter Try.func110, Try.ntmps110
  go_wp2
  go_ret
  exact ⟨rfl, rfl⟩
set_option maxRecDepth 100000 in
theorem less_any (x y : Int) (w : World) : Calls Try.prog 118 #[.int .u64 x, .int .u64 y] w fun e w' => e = .returned (.bool (ltInt x y)) ∧ w' = w := by
  go_enter Try.func118, Try.ntmps118
  go_wp2_with (go_at_call 110; refine (isnan_any x w).mono ?_; rintro e w' ⟨rfl, rfl⟩)
  go_ret
  exact ⟨rfl, rfl⟩
/-- The row of N families at a place reads d; but for it and the draws the world is w. -/
structure Rw (w : World) (blk off N : Nat) (d : Array Int) (wr : World) : Prop where
  size : d.size = N
  is : ∃ n, wr = putRow (Value.int .u64) (Sort.ahead w n) blk off d
section
variable {w wr : World} {blk off N : Nat} {d : Array Int}
theorem Rw.start (h : Holds (Value.int .u64) w blk off d) : Rw w blk off d.size d w := ⟨rfl, 0, (putRow_self _ _ _ _ _ h).symm⟩
theorem Rw.cell (r : Rw w blk off N d wr) {d0 : Array Int} (h : Holds (Value.int .u64) w blk off d0) (hN : d0.size = N) (t : Nat) (ht : t < N) : wr.cell? ⟨blk, off + t, none⟩ = some (.int .u64 d[t]!) := by
  obtain ⟨hs, n, rfl⟩ := r
  exact cell?_putRow _ _ _ _ d0 d (holds_ahead _ _ _ _ _ _ h) (by omega) t (by omega)
theorem Rw.froz (r : Rw w blk off N d wr) {d0 : Array Int} (h : Holds (Value.int .u64) w blk off d0) (hN : d0.size = N) (t : Nat) (ht : t < N) : wr.frozen? ⟨blk, off + t, none⟩ = false := by
  obtain ⟨hs, n, rfl⟩ := r
  rw [frozen?_putRow]
  exact ((holds_ahead _ _ n _ _ _ h) t (by omega)).2
theorem Rw.drawn (r : Rw w blk off N d wr) (q : Nat) : Rw w blk off N d (wr.drewN q) := by
  obtain ⟨hs, n, rfl⟩ := r
  exact ⟨hs, n + q, putRow_drewN _ _ _ _ _ _ _⟩
theorem Rw.swap (r : Rw w blk off N d wr) (q : Nat) {j k : Nat} (hj : j < N) (hk : k < N) :
    Rw w blk off N (swp d j k) (((wr.drewN q).setCell ⟨blk, off + j, none⟩ (.int .u64 d[k]!)).setCell ⟨blk, off + k, none⟩ (.int .u64 d[j]!)) := by
  obtain ⟨hs, n, rfl⟩ := r
  exact ⟨by rw [size_swp]; exact hs, n + q, swap_worldA (Value.int .u64) w n q blk off d j k (by omega) (by omega)⟩
end
end Go.Proofs.Ytkmpcheamdadcaa.Srt
namespace Go.Proofs.Ytkmpcheamdadcaa.Srt
open Go.RowKit Go.Sort
set_option linter.unusedVariables false
set_option linter.unusedSimpArgs false
set_option maxRecDepth 100000 in
set_option maxHeartbeats 4000000 in
theorem ins_any (blk off cap a b : Nat) (d : Array Int) (w : World) (h : Holds (Value.int .u64) w blk off d) (hab : a ≤ b) (hb : b ≤ d.size) (hsz : d.size < 4611686018427387904) :
    Calls Try.prog 112 #[.slice (some ⟨blk, off, none⟩) d.size cap, .int .i64 a, .int .i64 b] w fun e w' => e = .returned (.tuple #[]) ∧ Rw w blk off d.size (Sort.insertionSort ltInt d a b) w' := by
  obtain ⟨N, hN⟩ : ∃ N, N = d.size := ⟨_, rfl⟩
  have h0 : Hid (Holds (Value.int .u64) w blk off d) := h
  have r0 : Rw w blk off N d w := hN ▸ Rw.start h
  rw [← hN] at hb hsz ⊢
  clear h
  go_enter Try.func112, Try.ntmps112
  go_wp2
  go_loopw [6] (fun vi wr => ∃ (i : Nat) (x : Array Int), vi = .int .i64 i ∧ a < i ∧ i ≤ b + 1 ∧ Hid (Rw w blk off N x wr ∧ insOuter ltInt a b i x = Sort.insertionSort ltInt d a b)) (fun vi _ => b + 1 - (intOf vi).toNat)
  case atStart => exact ⟨a + 1, d, by go_num, by omega, by omega, r0, rfl⟩
  case round =>
    obtain ⟨i, x, rfl, hai, hib, hx⟩ := hrel
    go_wp2
    · go_loopw [7] (fun vj wr2 => ∃ (j : Nat) (y : Array Int), vj = .int .i64 j ∧ a ≤ j ∧ j ≤ i ∧ Hid (Rw w blk off N y wr2 ∧ insInner ltInt a j y = insInner ltInt a i x)) (fun vj _ => (intOf vj).toNat)
      case atStart => exact ⟨i, x, rfl, by omega, Nat.le_refl _, hx.out.1, rfl⟩
      case round =>
        obtain ⟨j, y, rfl, haj, hji, hy⟩ := hrel
        have hib2 : i < b := by assumption
        obtain ⟨G, hG⟩ : ∃ G : Nat → Int, Hid (∀ t, G t = y[t]!) := ⟨fun t => y[t]!, fun _ => rfl⟩
        have hc : ∀ t, t < N → wr.cell? ⟨blk, off + t, none⟩ = some (.int .u64 (G t)) := fun t ht => by rw [hG.out]; exact hy.out.1.cell h0.out hN.symm t ht
        have hf : ∀ t, t < N → wr.frozen? ⟨blk, off + t, none⟩ = false := hy.out.1.froz h0.out hN.symm
        have ho : Hid ((j ≤ a ∨ ltInt (G j) (G (j - 1)) = false) → ∀ q, ∃ (i' : Nat) (x' : Array Int), Value.int .i64 ((i : Int) + 1) = .int .i64 i' ∧ a < i' ∧ i' ≤ b + 1 ∧ Hid (Rw w blk off N x' (wr.drewN q) ∧ insOuter ltInt a b i' x' = Sort.insertionSort ltInt d a b)) := fun hs q => by
          rw [hG.out, hG.out] at hs
          refine ⟨i + 1, y, by go_num, by omega, by omega, hy.out.1.drawn q, ?_⟩
          rw [← hx.out.2, insOuter_go _ _ _ _ _ hib2, ← hy.out.2, insInner_stop _ _ _ _ hs]
        go_wp2
        by_cases hja : a < j
        · go_quiet (first | (go_at_call 118; refine Calls.quiet_of_same (less_any _ _ _)))
          go_wp2
          · have hl : ltInt (G j) (G (j - 1)) = true := by assumption
            go_region
            all_goals go_wp2
            go_roundw
            case rel =>
              refine ⟨j - 1, swp y j (j - 1), by congr 1; omega, by omega, by omega, ?_, ?_⟩
              · have := hy.out.1.swap (nq + 1) (j := j) (k := j - 1) (by omega) (by omega)
                rw [← hG.out, ← hG.out] at this
                exact this
              · rw [← hy.out.2, insInner_go ltInt a j y hja (by rw [← hG.out, ← hG.out]; exact hl)]
            case measure => simp [intOf]; omega
          · have hl : ltInt (G j) (G (j - 1)) = false := by assumption
            go_roundw
            case rel => exact ho.out (Or.inr hl) nq
            case measure => simp [intOf]; omega
        · go_quiet (first | (go_at_call 118; refine Calls.quiet_of_same (less_any _ _ _)))
          go_wp2
          go_roundw
          case rel => exact ho.out (Or.inl (by omega)) nq
          case measure => simp [intOf]; omega
    · have hge : ¬ i < b := by assumption
      go_end0
      have e := hx.out.2
      rw [insOuter_stop _ _ _ _ _ hge] at e
      exact ⟨rfl, e ▸ hx.out.1⟩
end Go.Proofs.Ytkmpcheamdadcaa.Srt
namespace Go.Proofs.Ytkmpcheamdadcaa.Srt
open Go.RowKit Go.Sort
set_option linter.unusedVariables false
set_option linter.unusedSimpArgs false
/-- One step down the heap, to the child c. -/
theorem sift_end {hi first i : Nat} (y : Array Int) (h : hi ≤ 2 * i + 1) : siftDown ltInt hi first i y = y := by rw [siftDown, dif_pos h]
theorem sift_two {hi first i : Nat} (y : Array Int) (h : 2 * i + 2 < hi) (hl : ltInt y[first + 2 * i + 1]! y[first + 2 * i + 2]! = true) :
    siftDown ltInt hi first i y = if ltInt y[first + i]! y[first + 2 * i + 2]! then siftDown ltInt hi first (2 * i + 2) (swp y (first + i) (first + 2 * i + 2)) else y := by
  have e1 : first + (2 * i + 1) = first + 2 * i + 1 := by omega
  have e2 : first + (2 * i + 2) = first + 2 * i + 2 := by omega
  rw [siftDown, dif_neg (by omega), e1, e2, if_pos (by simp [hl]; omega)]
  cases ltInt y[first + i]! y[first + 2 * i + 2]! <;> simp [h]
theorem sift_one {hi first i : Nat} (y : Array Int) (h : 2 * i + 1 < hi) (hl : 2 * i + 2 < hi → ltInt y[first + 2 * i + 1]! y[first + 2 * i + 2]! = false) :
    siftDown ltInt hi first i y = if ltInt y[first + i]! y[first + 2 * i + 1]! then siftDown ltInt hi first (2 * i + 1) (swp y (first + i) (first + 2 * i + 1)) else y := by
  have e1 : first + (2 * i + 1) = first + 2 * i + 1 := by omega
  have e2 : first + (2 * i + 2) = first + 2 * i + 2 := by omega
  rw [siftDown, dif_neg (by omega), e1, e2, if_neg (by
    simp only [Bool.and_eq_true, decide_eq_true_eq]
    rintro ⟨ha, hb⟩
    rw [hl (by omega)] at hb; cases hb)]
  cases ltInt y[first + i]! y[first + 2 * i + 1]! <;> simp
set_option maxRecDepth 100000 in
set_option maxHeartbeats 8000000 in
theorem sift_any (blk off cap lo hi first : Nat) (d : Array Int) (w : World) (h : Holds (Value.int .u64) w blk off d) (hb : first + hi ≤ d.size) (hlo : lo ≤ d.size) (hsz : d.size < 2305843009213693952) :
    Calls Try.prog 128 #[.slice (some ⟨blk, off, none⟩) d.size cap, .int .i64 lo, .int .i64 hi, .int .i64 first] w fun e w' => e = .returned (.tuple #[]) ∧ Rw w blk off d.size (Sort.siftDown ltInt hi first lo d) w' := by
  obtain ⟨N, hN⟩ : ∃ N, Hid (N = d.size) := ⟨_, rfl⟩
  have h0 : Hid (Holds (Value.int .u64) w blk off d) := h
  have r0 : Rw w blk off N d w := hN.out ▸ Rw.start h
  rw [← hN.out] at hb hsz hlo ⊢
  clear h
  go_enter Try.func128, Try.ntmps128
  go_wp2
  go_loopw [8] (fun vi wr => ∃ (i : Nat) (y : Array Int), vi = .int .i64 i ∧ i ≤ N ∧ Hid (Rw w blk off N y wr ∧ siftDown ltInt hi first i y = Sort.siftDown ltInt hi first lo d)) (fun vi _ => N - (intOf vi).toNat)
  case atStart => exact ⟨lo, d, rfl, hlo, r0, rfl⟩
  case round =>
    obtain ⟨i, y, rfl, hiN, hy⟩ := hrel
    obtain ⟨G, hG⟩ : ∃ G : Nat → Int, Hid (∀ t, G t = y[t]!) := ⟨fun t => y[t]!, fun _ => rfl⟩
    have hc : ∀ t, t < N → wr.cell? ⟨blk, off + t, none⟩ = some (.int .u64 (G t)) := fun t ht => by rw [hG.out]; exact hy.out.1.cell h0.out hN.out.symm t ht
    have hf : ∀ t, t < N → wr.frozen? ⟨blk, off + t, none⟩ = false := hy.out.1.froz h0.out hN.out.symm
    by_cases g0 : hi ≤ 2 * i + 1
    · have g0z : (hi : Int) ≤ 2 * (i : Int) + 1 := by omega
      go_wp2
      go_end0
      have e := hy.out.2
      rw [sift_end y g0] at e
      exact ⟨rfl, e ▸ hy.out.1⟩
    · have g0z : ¬ ((hi : Int) ≤ 2 * (i : Int) + 1) := by omega
      by_cases g1 : 2 * i + 2 < hi
      · have g1z : 2 * (i : Int) + 1 + 1 < (hi : Int) := by omega
        go_wp2_with fail
        go_big_quiet (first | (go_at_call 118; refine Calls.quiet_of_same (less_any _ _ _)))
        go_wp2_with fail
        · have hL : ltInt (G (first + 2 * i + 1)) (G (first + 2 * i + 2)) = true := by assumption
          have hS : Hid _ := sift_two (first := first) y g1 (by rw [← hG.out, ← hG.out]; exact hL)
          revert nq; intro nq1
          have r2 : Hid (Rw w blk off N y (wr.drewN nq1)) := hy.out.1.drawn nq1
          have hc2 : ∀ t, t < N → (wr.drewN nq1).cell? ⟨blk, off + t, none⟩ = some (.int .u64 (G t)) := hc
          have hf2 : ∀ t, t < N → (wr.drewN nq1).frozen? ⟨blk, off + t, none⟩ = false := hf
          clear hc hf
          generalize wr.drewN nq1 = wr2 at hc2 hf2 r2 ⊢
          go_big_quiet (first | (go_at_call 118; refine Calls.quiet_of_same (less_any _ _ _)))
          go_wp2_with fail
          · have hT : ltInt (G (first + i)) (G (first + 2 * i + 2)) = false := by
              have : (!ltInt (G (first + i)) (G (first + 2 * i + 2))) = true := by assumption
              simpa using this
            (try simp only [Exit.inBlock, Exit.then]); refine bodyPost_ret (results_none rfl _ _ _) rfl ?_
            rw [hG.out, hG.out] at hT
            have e := hS.out
            rw [hT, hy.out.2] at e
            simp at e
            exact ⟨rfl, e ▸ r2.out.drawn nq⟩
          · have hT : ltInt (G (first + i)) (G (first + 2 * i + 2)) = true := by
              have : (!ltInt (G (first + i)) (G (first + 2 * i + 2))) = false := by assumption
              simpa using this
            have r3 : Hid (Rw w blk off N y (wr2.drewN nq)) := r2.out.drawn nq
            have hc3 : ∀ t, t < N → (wr2.drewN nq).cell? ⟨blk, off + t, none⟩ = some (.int .u64 (G t)) := hc2
            have hf3 : ∀ t, t < N → (wr2.drewN nq).frozen? ⟨blk, off + t, none⟩ = false := hf2
            clear hc2 hf2
            generalize wr2.drewN nq = wr3 at hc3 hf3 r3 ⊢
            go_region
            all_goals go_wp2
            go_roundw
            case rel =>
              refine ⟨2 * i + 2, swp y (first + i) (first + 2 * i + 2), by go_num, by omega, ?_, ?_⟩
              · have := r3.out.swap 1 (j := first + i) (k := first + 2 * i + 2) (by omega) (by omega)
                rw [← hG.out, ← hG.out] at this
                exact this
              · rw [hG.out, hG.out] at hT
                have e := hS.out
                rw [hT, hy.out.2] at e
                simp at e
                exact e.symm
            case measure => simp [intOf]; omega
        · have hL : ltInt (G (first + 2 * i + 1)) (G (first + 2 * i + 2)) = false := by assumption
          have hS : Hid _ := sift_one (hi := hi) (first := first) (i := i) y (by omega) (fun _ => by rw [← hG.out, ← hG.out]; exact hL)
          revert nq; intro nq1
          have r2 : Hid (Rw w blk off N y (wr.drewN nq1)) := hy.out.1.drawn nq1
          have hc2 : ∀ t, t < N → (wr.drewN nq1).cell? ⟨blk, off + t, none⟩ = some (.int .u64 (G t)) := hc
          have hf2 : ∀ t, t < N → (wr.drewN nq1).frozen? ⟨blk, off + t, none⟩ = false := hf
          clear hc hf
          generalize wr.drewN nq1 = wr2 at hc2 hf2 r2 ⊢
          go_big_quiet (first | (go_at_call 118; refine Calls.quiet_of_same (less_any _ _ _)))
          go_wp2_with fail
          · have hT : ltInt (G (first + i)) (G (first + 2 * i + 1)) = false := by
              have : (!ltInt (G (first + i)) (G (first + 2 * i + 1))) = true := by assumption
              simpa using this
            (try simp only [Exit.inBlock, Exit.then]); refine bodyPost_ret (results_none rfl _ _ _) rfl ?_
            rw [hG.out, hG.out] at hT
            have e := hS.out
            rw [hT, hy.out.2] at e
            simp at e
            exact ⟨rfl, e ▸ r2.out.drawn nq⟩
          · have hT : ltInt (G (first + i)) (G (first + 2 * i + 1)) = true := by
              have : (!ltInt (G (first + i)) (G (first + 2 * i + 1))) = false := by assumption
              simpa using this
            have r3 : Hid (Rw w blk off N y (wr2.drewN nq)) := r2.out.drawn nq
            have hc3 : ∀ t, t < N → (wr2.drewN nq).cell? ⟨blk, off + t, none⟩ = some (.int .u64 (G t)) := hc2
            have hf3 : ∀ t, t < N → (wr2.drewN nq).frozen? ⟨blk, off + t, none⟩ = false := hf2
            clear hc2 hf2
            generalize wr2.drewN nq = wr3 at hc3 hf3 r3 ⊢
            go_region
            all_goals go_wp2
            go_roundw
            case rel =>
              refine ⟨2 * i + 1, swp y (first + i) (first + 2 * i + 1), by go_num, by omega, ?_, ?_⟩
              · have := r3.out.swap 1 (j := first + i) (k := first + 2 * i + 1) (by omega) (by omega)
                rw [← hG.out, ← hG.out] at this
                exact this
              · rw [hG.out, hG.out] at hT
                have e := hS.out
                rw [hT, hy.out.2] at e
                simp at e
                exact e.symm
            case measure => simp [intOf]; omega
      · have g1z : decide (2 * (i : Int) + 1 + 1 < (hi : Int)) = false := decide_eq_false (by omega)
        go_wp2_with fail
        go_big_quiet (first | (go_at_call 118; refine Calls.quiet_of_same (less_any _ _ _)))
        go_wp2_with fail
        · have hS : Hid _ := sift_one (hi := hi) (first := first) (i := i) y (by omega) (fun hh => absurd hh g1)
          revert nq; intro nq1
          have r2 : Hid (Rw w blk off N y (wr.drewN nq1)) := hy.out.1.drawn nq1
          have hc2 : ∀ t, t < N → (wr.drewN nq1).cell? ⟨blk, off + t, none⟩ = some (.int .u64 (G t)) := hc
          have hf2 : ∀ t, t < N → (wr.drewN nq1).frozen? ⟨blk, off + t, none⟩ = false := hf
          clear hc hf
          generalize wr.drewN nq1 = wr2 at hc2 hf2 r2 ⊢
          go_big_quiet (first | (go_at_call 118; refine Calls.quiet_of_same (less_any _ _ _)))
          go_wp2_with fail
          · have hT : ltInt (G (first + i)) (G (first + 2 * i + 1)) = false := by
              have : (!ltInt (G (first + i)) (G (first + 2 * i + 1))) = true := by assumption
              simpa using this
            (try simp only [Exit.inBlock, Exit.then]); refine bodyPost_ret (results_none rfl _ _ _) rfl ?_
            rw [hG.out, hG.out] at hT
            have e := hS.out
            rw [hT, hy.out.2] at e
            simp at e
            exact ⟨rfl, e ▸ r2.out.drawn nq⟩
          · have hT : ltInt (G (first + i)) (G (first + 2 * i + 1)) = true := by
              have : (!ltInt (G (first + i)) (G (first + 2 * i + 1))) = false := by assumption
              simpa using this
            have r3 : Hid (Rw w blk off N y (wr2.drewN nq)) := r2.out.drawn nq
            have hc3 : ∀ t, t < N → (wr2.drewN nq).cell? ⟨blk, off + t, none⟩ = some (.int .u64 (G t)) := hc2
            have hf3 : ∀ t, t < N → (wr2.drewN nq).frozen? ⟨blk, off + t, none⟩ = false := hf2
            clear hc2 hf2
            generalize wr2.drewN nq = wr3 at hc3 hf3 r3 ⊢
            go_region
            all_goals go_wp2
            go_roundw
            case rel =>
              refine ⟨2 * i + 1, swp y (first + i) (first + 2 * i + 1), by go_num, by omega, ?_, ?_⟩
              · have := r3.out.swap 1 (j := first + i) (k := first + 2 * i + 1) (by omega) (by omega)
                rw [← hG.out, ← hG.out] at this
                exact this
              · rw [hG.out, hG.out] at hT
                have e := hS.out
                rw [hT, hy.out.2] at e
                simp at e
                exact e.symm
            case measure => simp [intOf]; omega
end Go.Proofs.Ytkmpcheamdadcaa.Srt
namespace Go.Proofs.Ytkmpcheamdadcaa.Srt
open Go.RowKit Go.Sort
set_option linter.unusedVariables false
set_option linter.unusedSimpArgs false
section
variable {w wr : World} {blk off N : Nat} {d : Array Int}
theorem Rw.holds (r : Rw w blk off N d wr) {d0 : Array Int} (h : Holds (Value.int .u64) w blk off d0) (hN : d0.size = N) : Holds (Value.int .u64) wr blk off d :=
  fun t ht => ⟨r.cell h hN t (by rw [← r.size]; exact ht), r.froz h hN t (by rw [← r.size]; exact ht)⟩
theorem Rw.trans (r : Rw w blk off N d wr) {d' : Array Int} {w' : World} (r' : Rw wr blk off N d' w') : Rw w blk off N d' w' := by
  obtain ⟨hs, n, rfl⟩ := r
  obtain ⟨hs', m, rfl⟩ := r'
  refine ⟨hs', n + m, ?_⟩
  rw [putRow_ahead (Value.int .u64) w n, ahead_ahead, ← putRow_ahead, putRow_putRow _ _ _ _ _ _ (by omega)]
end
set_option maxRecDepth 100000 in
set_option maxHeartbeats 8000000 in
theorem heap_any (blk off cap a b : Nat) (d : Array Int) (w : World) (h : Holds (Value.int .u64) w blk off d) (hab : a ≤ b) (hb : b ≤ d.size) (hsz : d.size < 2305843009213693952) :
    Calls Try.prog 113 #[.slice (some ⟨blk, off, none⟩) d.size cap, .int .i64 a, .int .i64 b] w fun e w' => e = .returned (.tuple #[]) ∧ Rw w blk off d.size (Sort.heapSort ltInt d a b) w' := by
  obtain ⟨N, hN⟩ : ∃ N, Hid (N = d.size) := ⟨_, rfl⟩
  have h0 : Hid (Holds (Value.int .u64) w blk off d) := h
  have r0 : Rw w blk off N d w := hN.out ▸ Rw.start h
  rw [← hN.out] at hb hsz ⊢
  clear h
  obtain ⟨n, hn⟩ : ∃ n : Nat, (b : Int) - (a : Int) = (n : Int) := ⟨b - a, by omega⟩
  have hm : ((n : Int) - 1).tdiv 2 = (((n - 1) / 2 : Nat) : Int) := by
    cases n with
    | zero => rfl
    | succ m => rw [show ((m + 1 : Nat) : Int) - 1 = (m : Int) by omega]; rfl
  obtain ⟨m, hm2⟩ : ∃ m, m = (n - 1) / 2 := ⟨_, rfl⟩
  rw [← hm2] at hm
  have hE : Hid (Sort.heapSort ltInt d a b = heapPop ltInt a n (heapBuild ltInt n a (m + 1) d)) := by
    have e : b - a = n := by omega
    show Sort.heapSort ltInt d a b = _
    unfold Sort.heapSort; rw [e, hm2]
  go_enter Try.func113, Try.ntmps113
  go_wp2
  (try simp only [hn, hm])
  go_loopw [9] (fun vi wr => ∃ (k : Nat) (y : Array Int), vi = .int .i64 ((k : Int) - 1) ∧ k ≤ m + 1 ∧ Hid (Rw w blk off N y wr ∧ heapBuild ltInt n a k y = heapBuild ltInt n a (m + 1) d)) (fun vi _ => (intOf vi + 1).toNat)
  case atStart => exact ⟨m + 1, d, by go_num, by omega, r0, rfl⟩
  case round =>
    obtain ⟨k, y, rfl, hk, hy⟩ := hrel
    rcases k with _ | k
    · go_wp2
      (try simp only [hn, hm])
      obtain ⟨W0, rfl⟩ : ∃ W0, W0 = wr := ⟨_, rfl⟩
      go_loopw [10] (fun vi wr => ∃ (k : Nat) (z : Array Int), vi = .int .i64 ((k : Int) - 1) ∧ k ≤ n ∧ Hid (Rw w blk off N z wr ∧ heapPop ltInt a k z = Sort.heapSort ltInt d a b)) (fun vi _ => (intOf vi + 1).toNat)
      case atStart => exact ⟨n, y, by go_num, by omega, hy.out.1, by rw [hE.out, ← hy.out.2]; rfl⟩
      case round =>
        obtain ⟨k, z, rfl, hk, hz⟩ := hrel
        rcases k with _ | k
        · go_wp2
          go_end0
          exact ⟨rfl, hz.out.2 ▸ hz.out.1⟩
        · obtain ⟨G, hG⟩ : ∃ G : Nat → Int, Hid (∀ t, G t = z[t]!) := ⟨fun t => z[t]!, fun _ => rfl⟩
          have hc : ∀ t, t < N → wr.cell? ⟨blk, off + t, none⟩ = some (.int .u64 (G t)) := fun t ht => by rw [hG.out]; exact hz.out.1.cell h0.out hN.out.symm t ht
          have hf : ∀ t, t < N → wr.frozen? ⟨blk, off + t, none⟩ = false := hz.out.1.froz h0.out hN.out.symm
          have r2 : Rw w blk off N (swp z a (a + k)) ((wr.setCell ⟨blk, off + a, none⟩ (.int .u64 (G (a + k)))).setCell ⟨blk, off + (a + k), none⟩ (.int .u64 (G a))).drew := by
            rw [hG.out, hG.out]
            exact hz.out.1.swap 1 (by omega) (by omega)
          have R2 : Hid _ := r2
          clear r2
          have hS := sift_any blk off cap 0 k a (swp z a (a + k)) _ (R2.out.holds h0.out hN.out.symm) (by rw [R2.out.size]; omega) (by rw [R2.out.size]; omega) (by rw [R2.out.size]; omega)
          have z0 : ((0 : Nat) : Int) = 0 := rfl
          rw [R2.out.size, z0] at hS
          have HS : Hid _ := hS
          clear hS
          rcases Nat.eq_zero_or_pos k with hk0 | hk0
          · subst hk0
            have HS2 := HS.out
            have R3 := R2.out
            simp only [Nat.add_zero, z0] at HS2 R3
            have H3 : Hid _ := HS2
            have R4 : Hid _ := R3
            clear HS2 R3 HS R2
            go_wp2
            go_region
            all_goals go_wp2_with (go_at_call 128; refine Calls.mono H3.out ?_; rintro e w' ⟨rfl, r'⟩)
            refine ⟨?_, ?measure⟩
            (repeat apply Exists.intro)
            refine ⟨?rel, ?fr⟩
            case fr => rfl
            case rel => exact ⟨0, _, by go_num, by omega, R4.out.trans r', hz.out.2⟩
            case measure => simp [intOf] <;> omega
          · have hne : off + (a + k) ≠ off + a := by omega
            have hne2 : ¬ (a + k = a) := by omega
            have hne3 : a ≠ a + k := by omega
            go_wp2
            go_region
            all_goals go_wp2_with (go_at_call 128; refine Calls.mono HS.out ?_; rintro e w' ⟨rfl, r'⟩)
            refine ⟨?_, ?measure⟩
            (repeat apply Exists.intro)
            refine ⟨?rel, ?fr⟩
            case fr => rfl
            case rel => exact ⟨k, _, by go_num, by omega, R2.out.trans r', hz.out.2⟩
            case measure => simp [intOf] <;> omega
    · have hS := sift_any blk off cap k n a y wr (hy.out.1.holds h0.out hN.out.symm) (by rw [hy.out.1.size]; omega) (by rw [hy.out.1.size]; omega) (by rw [hy.out.1.size]; omega)
      rw [hy.out.1.size] at hS
      go_wp2_with (go_at_call 128; refine hS.mono ?_; rintro e w' ⟨rfl, r'⟩)
      go_roundw
      case rel => exact ⟨k, _, by go_num, by omega, hy.out.1.trans r', hy.out.2⟩
      case measure => simp [intOf] <;> omega
end Go.Proofs.Ytkmpcheamdadcaa.Srt
namespace Go.Proofs.Ytkmpcheamdadcaa.Srt
open Go.RowKit Go.Sort
set_option linter.unusedVariables false
set_option linter.unusedSimpArgs false
set_option maxRecDepth 100000 in
set_option maxHeartbeats 8000000 in
theorem parteq_any (blk off cap a b p : Nat) (d : Array Int) (w : World) (h : Holds (Value.int .u64) w blk off d) (hab : a < b) (hb : b ≤ d.size) (hp : p < d.size) (hsz : d.size < 2305843009213693952) :
    Calls Try.prog 119 #[.slice (some ⟨blk, off, none⟩) d.size cap, .int .i64 a, .int .i64 b, .int .i64 p] w fun e w' => e = .returned (.int .i64 (Sort.partitionEqual ltInt d a b p).1) ∧ Rw w blk off d.size (Sort.partitionEqual ltInt d a b p).2 w' := by
  obtain ⟨N, hN⟩ : ∃ N, Hid (N = d.size) := ⟨_, rfl⟩
  have h0 : Hid (Holds (Value.int .u64) w blk off d) := h
  have r0 : Rw w blk off N d w := hN.out ▸ Rw.start h
  rw [← hN.out] at hb hsz hp ⊢
  clear h
  obtain ⟨G0, hG0⟩ : ∃ G : Nat → Int, Hid (∀ t, G t = d[t]!) := ⟨fun t => d[t]!, fun _ => rfl⟩
  have hc0 : ∀ t, t < N → w.cell? ⟨blk, off + t, none⟩ = some (.int .u64 (G0 t)) := fun t ht => by rw [hG0.out]; exact r0.cell h0.out hN.out.symm t ht
  have hf0 : ∀ t, t < N → w.frozen? ⟨blk, off + t, none⟩ = false := r0.froz h0.out hN.out.symm
  have HR0 : Hid (Rw w blk off N (swp d a p) ((w.setCell ⟨blk, off + a, none⟩ (.int .u64 (G0 p))).setCell ⟨blk, off + p, none⟩ (.int .u64 (G0 a))).drew) := by
    show Rw _ _ _ _ _ _
    rw [hG0.out, hG0.out]
    exact r0.swap 1 (by omega) (by omega)
  obtain ⟨R, hR⟩ : ∃ R, Sort.partitionEqual ltInt d a b p = R := ⟨_, rfl⟩
  have HRR : Hid (partEqLoop ltInt a (a + 1) (b - 1) (swp d a p) = R) := hR
  rw [hR]
  clear hR r0
  obtain ⟨v2, hv2⟩ : ∃ v, (w.setCell ⟨blk, off + a, none⟩ (.int .u64 (G0 p))).cell? ⟨blk, off + p, none⟩ = some v := by
    by_cases e : a = p
    · subst e; exact ⟨_, World.cell?_setCell_same' _ _ _ (by rw [hc0 a (by omega)]; rfl)⟩
    · exact ⟨_, (World.cell?_setCell_other _ _ _ _ (by simp <;> omega)).trans (hc0 p (by omega))⟩
  have haN : a < N := by omega
  go_enter Try.func119, Try.ntmps119
  go_wp2
  go_region
  go_wp2
  clear hc0 hf0
  go_loopw [9, 10] (fun vi vj wr => ∃ (i j : Nat) (z : Array Int), vi = .int .i64 i ∧ vj = .int .i64 j ∧ a < i ∧ i ≤ j + 2 ∧ j < b ∧ a ≤ j ∧ Hid (Rw w blk off N z wr ∧ partEqLoop ltInt a i j z = R)) (fun vi vj _ => (intOf vj + 2 - intOf vi).toNat)
  case atStart => exact ⟨a + 1, b - 1, swp d a p, by go_num, by congr 1; omega, by omega, by omega, by omega, by omega, HR0.out, HRR.out⟩
  case round =>
    obtain ⟨i, j, z, rfl, rfl, hai, hij, hjb, haj, hz⟩ := hrel
    obtain ⟨G, hG⟩ : ∃ G : Nat → Int, Hid (∀ t, G t = z[t]!) := ⟨fun t => z[t]!, fun _ => rfl⟩
    obtain ⟨i2, hi2⟩ : ∃ i2, scanUp (fun x => !ltInt z[a]! x) z j i = i2 := ⟨_, rfl⟩
    obtain ⟨j2, hj2⟩ : ∃ j2, scanDown (fun x => ltInt z[a]! x) z i2 j = j2 := ⟨_, rfl⟩
    have hge := scanUp_ge (fun x => !ltInt z[a]! x) z j i
    rw [hi2] at hge
    have HI2 : Hid (scanUp (fun x => !ltInt z[a]! x) z j i = i2) := hi2
    have HJ2 : Hid (scanDown (fun x => ltInt z[a]! x) z i2 j = j2) := hj2
    have HEQ : Hid (R = if i2 > j2 then (i2, z) else partEqLoop ltInt a (i2 + 1) (j2 - 1) (swp z i2 j2)) := by
      show _ = _
      rw [← hz.out.2, partEqLoop_eq, hi2, hj2]
    clear hi2 hj2
    go_upto_block 2 with fail
    go_cut [9] from 29 to 82 (fun vi wd => vi = .int .i64 (i2 : Int) ∧ (i2 ≤ i ∨ i2 ≤ j + 1) ∧ Rw w blk off N z wd)
    case first =>
      go_wp2
      go_loopw [9] (fun vi wr => ∃ i' : Nat, vi = .int .i64 i' ∧ i ≤ i' ∧ (i' ≤ i ∨ i' ≤ j + 1) ∧ Hid (Rw w blk off N z wr ∧ scanUp (fun x => !ltInt z[a]! x) z j i' = i2)) (fun vi _ => (j + 2 - (intOf vi).toNat))
      case atStart => exact ⟨i, rfl, Nat.le_refl _, .inl (Nat.le_refl _), hz.out.1, HI2.out⟩
      case round =>
        obtain ⟨i', rfl, hii, hib, hy⟩ := hrel
        have hc : ∀ t, t < N → wr.cell? ⟨blk, off + t, none⟩ = some (.int .u64 (G t)) := fun t ht => by rw [hG.out]; exact hy.out.1.cell h0.out hN.out.symm t ht
        go_wp2
        by_cases hle : i' ≤ j
        · have hlei : (i' : Int) ≤ (j : Int) := by omega
          by_cases hl' : ltInt (G a) (G i') = false
          · have hl := hl'
            clear hl'
            go_quiet (first | (go_at_call 118; refine Calls.quiet_of_same (less_any _ _ _)))
            go_wp2
            refine ⟨⟨i' + 1, by go_num, by omega, .inr (by omega), hy.out.1.drawn nq, ?_⟩, ?_⟩
            · rw [← hy.out.2, scanUp_go _ z j i' hle (by rw [← hG.out, ← hG.out, hl]; rfl)]
            · simp [intOf]; omega
          · have hl : ltInt (G a) (G i') = true := by simpa using hl'
            clear hl'
            go_quiet (first | (go_at_call 118; refine Calls.quiet_of_same (less_any _ _ _)))
            go_wp2
            go_meet
            case rel =>
              have e : i' = i2 := by rw [← hy.out.2, scanUp_end _ z j i' (.inr (by rw [← hG.out, ← hG.out, hl]; rfl))]
              exact ⟨by rw [e], by rw [← e]; exact hib, hy.out.1.drawn nq⟩
        · have hlei : ¬ (i' : Int) ≤ (j : Int) := by omega
          have hled : decide ((i' : Int) ≤ (j : Int)) = false := by simp; omega
          go_quiet (first | (go_at_call 118; refine Calls.quiet_of_same (less_any _ _ _)))
          go_wp2
          go_meet
          case rel =>
            have e : i' = i2 := by rw [← hy.out.2, scanUp_end _ z j i' (.inl hle)]
            exact ⟨by rw [e], by rw [← e]; exact hib, hy.out.1.drawn nq⟩
    case rest =>
      obtain ⟨rfl, hib, hr2⟩ := hcut
      have HR2 : Hid (Rw w blk off N z wc) := hr2
      clear hr2
      have hle2 := scanDown_le (fun x => ltInt z[a]! x) z i2 j
      rw [HJ2.out] at hle2
      go_upto_block 4 with fail
      go_cut [10] from 29 to 82 (fun vj wd => vj = .int .i64 (j2 : Int) ∧ i2 ≤ j2 + 2 ∧ a ≤ j2 ∧ Rw w blk off N z wd)
      case first =>
        go_wp2
        go_loopw [10] (fun vj wr => ∃ j' : Nat, vj = .int .i64 j' ∧ j' ≤ j ∧ i2 ≤ j' + 2 ∧ a ≤ j' ∧ Hid (Rw w blk off N z wr ∧ scanDown (fun x => ltInt z[a]! x) z i2 j' = j2)) (fun vj _ => (intOf vj).toNat)
        case atStart => exact ⟨j, rfl, Nat.le_refl _, by omega, haj, HR2.out, HJ2.out⟩
        case round =>
          obtain ⟨j', rfl, hjj, hij', haj', hy⟩ := hrel
          have hc : ∀ t, t < N → wr.cell? ⟨blk, off + t, none⟩ = some (.int .u64 (G t)) := fun t ht => by rw [hG.out]; exact hy.out.1.cell h0.out hN.out.symm t ht
          go_wp2
          by_cases hle : i2 ≤ j'
          · have hlei : (i2 : Int) ≤ (j' : Int) := by omega
            by_cases hl' : ltInt (G a) (G j') = true
            · have hl := hl'
              clear hl'
              go_quiet (first | (go_at_call 118; refine Calls.quiet_of_same (less_any _ _ _)))
              go_wp2
              refine ⟨⟨j' - 1, by congr 1; omega, by omega, by omega, by omega, hy.out.1.drawn nq, ?_⟩, ?_⟩
              · rw [← hy.out.2, scanDown_go _ z i2 j' hle (by omega) (by rw [← hG.out, ← hG.out, hl])]
              · simp [intOf]; omega
            · have hl : ltInt (G a) (G j') = false := by simpa using hl'
              clear hl'
              go_quiet (first | (go_at_call 118; refine Calls.quiet_of_same (less_any _ _ _)))
              go_wp2
              go_meet
              case rel =>
                have e : j' = j2 := by rw [← hy.out.2, scanDown_end _ z i2 j' (.inr (by rw [← hG.out, ← hG.out, hl]))]
                exact ⟨by rw [e], by omega, by omega, hy.out.1.drawn nq⟩
          · have hlei : ¬ (i2 : Int) ≤ (j' : Int) := by omega
            have hled : decide ((i2 : Int) ≤ (j' : Int)) = false := by simp; omega
            go_quiet (first | (go_at_call 118; refine Calls.quiet_of_same (less_any _ _ _)))
            go_wp2
            go_meet
            case rel =>
              have e : j' = j2 := by rw [← hy.out.2, scanDown_end _ z i2 j' (.inl hle)]
              exact ⟨by rw [e], by omega, by omega, hy.out.1.drawn nq⟩
      case rest =>
        obtain ⟨rfl, hij2, haj2, hr3⟩ := hcut
        have HR3 : Hid (Rw w blk off N z wc) := hr3
        clear hr3
        have hc : ∀ t, t < N → wc.cell? ⟨blk, off + t, none⟩ = some (.int .u64 (G t)) := fun t ht => by rw [hG.out]; exact HR3.out.cell h0.out hN.out.symm t ht
        have hf : ∀ t, t < N → wc.frozen? ⟨blk, off + t, none⟩ = false := HR3.out.froz h0.out hN.out.symm
        by_cases hgt : j2 < i2
        · have hgti : (j2 : Int) < (i2 : Int) := by omega
          have HE : Hid (R = (i2, z)) := by show _ = _; rw [HEQ.out, if_pos hgt]
          go_wp2
          go_ret
          exact ⟨by rw [HE.out]; rfl, by rw [HE.out]; exact HR3.out⟩
        · have hgti : ¬ (j2 : Int) < (i2 : Int) := by omega
          obtain ⟨v3, hv3⟩ : ∃ v, (wc.setCell ⟨blk, off + i2, none⟩ (.int .u64 (G j2))).cell? ⟨blk, off + j2, none⟩ = some v := by
            by_cases e : i2 = j2
            · subst e; exact ⟨_, World.cell?_setCell_same' _ _ _ (by rw [hc i2 (by omega)]; rfl)⟩
            · exact ⟨_, (World.cell?_setCell_other _ _ _ _ (by simp <;> omega)).trans (hc j2 (by omega))⟩
          have hiN : i2 < N := by omega
          have hjN : j2 < N := by omega
          go_wp2
          go_region
          go_wp2
          refine ⟨⟨i2 + 1, j2 - 1, swp z i2 j2, by go_num, by congr 1; omega, by omega, by omega, by omega, by omega, ?_, ?_⟩, ?_⟩
          · have := HR3.out.swap 1 (j := i2) (k := j2) (by omega) (by omega)
            rw [← hG.out, ← hG.out] at this
            exact this
          · rw [HEQ.out, if_neg (by omega)]
          · simp [intOf]; omega
end Go.Proofs.Ytkmpcheamdadcaa.Srt
namespace Go.Proofs.Ytkmpcheamdadcaa.Srt
open Go.RowKit Go.Sort
set_option linter.unusedVariables false
set_option linter.unusedSimpArgs false
/-- The second store of a swap finds its cell. -/
theorem swap_cell {W : World} {blk off N x y : Nat} {G : Nat → Int} (hc : ∀ t, t < N → W.cell? ⟨blk, off + t, none⟩ = some (.int .u64 (G t))) (hx : x < N) (hy : y < N) (v : Value) : ∃ u, (W.setCell ⟨blk, off + x, none⟩ v).cell? ⟨blk, off + y, none⟩ = some u := by
  by_cases e : x = y
  · subst e; exact ⟨_, World.cell?_setCell_same' _ _ _ (by rw [hc x hx]; rfl)⟩
  · exact ⟨_, (World.cell?_setCell_other _ _ _ _ (by simp <;> omega)).trans (hc y hy)⟩
theorem Rw.swapG {w wr : World} {blk off N : Nat} {z : Array Int} (r : Rw w blk off N z wr) {G : Nat → Int} (hG : ∀ t, G t = z[t]!) {x y : Nat} (hx : x < N) (hy : y < N) : Rw w blk off N (swp z x y) ((wr.setCell ⟨blk, off + x, none⟩ (.int .u64 (G y))).setCell ⟨blk, off + y, none⟩ (.int .u64 (G x))).drew := by
  have := r.swap 1 (j := x) (k := y) hx hy
  rw [← hG, ← hG] at this
  exact this
set_option maxRecDepth 100000 in
set_option maxHeartbeats 16000000 in
theorem part_any (blk off cap a b p : Nat) (d : Array Int) (w : World) (h : Holds (Value.int .u64) w blk off d) (hab : a < b) (hb : b ≤ d.size) (hp : p < d.size) (hsz : d.size < 2305843009213693952) :
    Calls Try.prog 120 #[.slice (some ⟨blk, off, none⟩) d.size cap, .int .i64 a, .int .i64 b, .int .i64 p] w fun e w' => e = .returned (.tuple #[.int .i64 (Sort.partition ltInt d a b p).1, .bool (Sort.partition ltInt d a b p).2.1]) ∧ Rw w blk off d.size (Sort.partition ltInt d a b p).2.2 w' := by
  obtain ⟨N, hN⟩ : ∃ N, Hid (N = d.size) := ⟨_, rfl⟩
  have h0 : Hid (Holds (Value.int .u64) w blk off d) := h
  have r0 : Rw w blk off N d w := hN.out ▸ Rw.start h
  rw [← hN.out] at hb hsz hp ⊢
  clear h
  obtain ⟨G0, hG0⟩ : ∃ G : Nat → Int, Hid (∀ t, G t = d[t]!) := ⟨fun t => d[t]!, fun _ => rfl⟩
  have hc0 : ∀ t, t < N → w.cell? ⟨blk, off + t, none⟩ = some (.int .u64 (G0 t)) := fun t ht => by rw [hG0.out]; exact r0.cell h0.out hN.out.symm t ht
  have hf0 : ∀ t, t < N → w.frozen? ⟨blk, off + t, none⟩ = false := r0.froz h0.out hN.out.symm
  have haN : a < N := by omega
  have HR0 : Hid (Rw w blk off N (swp d a p) ((w.setCell ⟨blk, off + a, none⟩ (.int .u64 (G0 p))).setCell ⟨blk, off + p, none⟩ (.int .u64 (G0 a))).drew) := r0.swapG hG0.out haN hp
  obtain ⟨v2, hv2⟩ := swap_cell hc0 haN hp (.int .u64 (G0 p))
  obtain ⟨y, hy0⟩ : ∃ y, swp d a p = y := ⟨_, rfl⟩
  rw [hy0] at HR0
  obtain ⟨i1, hi1⟩ : ∃ i, scanUp (fun x => ltInt x y[a]!) y (b - 1) (a + 1) = i := ⟨_, rfl⟩
  obtain ⟨j1, hj1⟩ : ∃ j, scanDown (fun x => !ltInt x y[a]!) y i1 (b - 1) = j := ⟨_, rfl⟩
  have HI1 : Hid (scanUp (fun x => ltInt x y[a]!) y (b - 1) (a + 1) = i1) := hi1
  have HJ1 : Hid (scanDown (fun x => !ltInt x y[a]!) y i1 (b - 1) = j1) := hj1
  have hge1 := scanUp_ge (fun x => ltInt x y[a]!) y (b - 1) (a + 1)
  rw [hi1] at hge1
  have hle1 := scanDown_le (fun x => !ltInt x y[a]!) y i1 (b - 1)
  rw [hj1] at hle1
  obtain ⟨R, hR⟩ : ∃ R, Sort.partition ltInt d a b p = R := ⟨_, rfl⟩
  have HRR : Hid (R = if i1 > j1 then (j1, true, swp y j1 a) else ((partLoop ltInt a (i1 + 1) (j1 - 1) (swp y i1 j1)).1, false, swp (partLoop ltInt a (i1 + 1) (j1 - 1) (swp y i1 j1)).2 (partLoop ltInt a (i1 + 1) (j1 - 1) (swp y i1 j1)).1 a)) := by
    show _ = _
    rw [← hR]
    unfold Sort.partition
    simp only [hy0, hi1, hj1]
  rw [hR]
  clear hR r0 hy0 hi1 hj1
  obtain ⟨Gy, hGy⟩ : ∃ G : Nat → Int, Hid (∀ t, G t = y[t]!) := ⟨fun t => y[t]!, fun _ => rfl⟩
  go_enter Try.func120, Try.ntmps120
  go_wp2
  go_region
  clear hc0 hf0
  go_upto_block 0 with fail
  go_cut [10] from 30 to 167 (fun vi wd => vi = .int .i64 (i1 : Int) ∧ (i1 ≤ (a + 1) ∨ i1 ≤ (b - 1) + 1) ∧ Rw w blk off N y wd)
  case first =>
    go_wp2
    go_loopw [10] (fun vi wr => ∃ i' : Nat, vi = .int .i64 i' ∧ (a + 1) ≤ i' ∧ (i' ≤ (a + 1) ∨ i' ≤ (b - 1) + 1) ∧ Hid (Rw w blk off N y wr ∧ scanUp (fun x => ltInt x y[a]!) y ((b - 1)) i' = i1)) (fun vi _ => ((b - 1) + 2 - (intOf vi).toNat))
    case atStart => exact ⟨(a + 1), by go_num, Nat.le_refl _, .inl (Nat.le_refl _), HR0.out, HI1.out⟩
    case round =>
      obtain ⟨i', rfl, hii, hib, hy⟩ := hrel
      have hc : ∀ t, t < N → wr.cell? ⟨blk, off + t, none⟩ = some (.int .u64 (Gy t)) := fun t ht => by rw [hGy.out]; exact hy.out.1.cell h0.out hN.out.symm t ht
      go_wp2
      by_cases hle : i' ≤ (b - 1)
      · have hlei : (i' : Int) ≤ ((b : Int) - 1) := by omega
        by_cases hl' : ltInt (Gy i') (Gy a) = true
        · have hl := hl'
          clear hl'
          go_quiet (first | (go_at_call 118; refine Calls.quiet_of_same (less_any _ _ _)))
          go_wp2
          refine ⟨⟨i' + 1, by go_num, by omega, .inr (by omega), hy.out.1.drawn nq, ?_⟩, ?_⟩
          · rw [← hy.out.2, scanUp_go _ y ((b - 1)) i' hle (by rw [← hGy.out, ← hGy.out, hl])]
          · simp [intOf]; omega
        · have hl : ltInt (Gy i') (Gy a) = false := by simpa using hl'
          clear hl'
          go_quiet (first | (go_at_call 118; refine Calls.quiet_of_same (less_any _ _ _)))
          go_wp2
          go_meet
          case rel =>
            have e : i' = i1 := by rw [← hy.out.2, scanUp_end _ y ((b - 1)) i' (.inr (by rw [← hGy.out, ← hGy.out, hl]))]
            exact ⟨by rw [e], by rw [← e]; exact hib, hy.out.1.drawn nq⟩
      · have hlei : ¬ (i' : Int) ≤ ((b : Int) - 1) := by omega
        have hled : decide ((i' : Int) ≤ ((b : Int) - 1)) = false := by simp; omega
        go_quiet (first | (go_at_call 118; refine Calls.quiet_of_same (less_any _ _ _)))
        go_wp2
        go_meet
        case rel =>
          have e : i' = i1 := by rw [← hy.out.2, scanUp_end _ y ((b - 1)) i' (.inl hle)]
          exact ⟨by rw [e], by rw [← e]; exact hib, hy.out.1.drawn nq⟩
  case rest =>
    obtain ⟨rfl, hib_i1, hr2⟩ := hcut
    have HR_i1 : Hid (Rw w blk off N y wc) := hr2
    clear hr2
    go_upto_block 2 with fail
    go_cut [11] from 30 to 167 (fun vj wd => vj = .int .i64 (j1 : Int) ∧ i1 ≤ j1 + 2 ∧ a ≤ j1 ∧ Rw w blk off N y wd)
    case first =>
      go_wp2
      go_loopw [11] (fun vj wr => ∃ j' : Nat, vj = .int .i64 j' ∧ j' ≤ (b - 1) ∧ i1 ≤ j' + 2 ∧ a ≤ j' ∧ Hid (Rw w blk off N y wr ∧ scanDown (fun x => !ltInt x y[a]!) y i1 j' = j1)) (fun vj _ => (intOf vj).toNat)
      case atStart => exact ⟨(b - 1), by congr 1; omega, Nat.le_refl _, by omega, by omega, HR_i1.out, HJ1.out⟩
      case round =>
        obtain ⟨j', rfl, hjj, hij', haj', hy⟩ := hrel
        have hc : ∀ t, t < N → wr.cell? ⟨blk, off + t, none⟩ = some (.int .u64 (Gy t)) := fun t ht => by rw [hGy.out]; exact hy.out.1.cell h0.out hN.out.symm t ht
        go_wp2
        by_cases hle : i1 ≤ j'
        · have hlei : (i1 : Int) ≤ (j' : Int) := by omega
          by_cases hl' : ltInt (Gy j') (Gy a) = false
          · have hl := hl'
            clear hl'
            go_quiet (first | (go_at_call 118; refine Calls.quiet_of_same (less_any _ _ _)))
            go_wp2
            refine ⟨⟨j' - 1, by congr 1; omega, by omega, by omega, by omega, hy.out.1.drawn nq, ?_⟩, ?_⟩
            · rw [← hy.out.2, scanDown_go _ y i1 j' hle (by omega) (by rw [← hGy.out, ← hGy.out, hl]; rfl)]
            · simp [intOf]; omega
          · have hl : ltInt (Gy j') (Gy a) = true := by simpa using hl'
            clear hl'
            go_quiet (first | (go_at_call 118; refine Calls.quiet_of_same (less_any _ _ _)))
            go_wp2
            go_meet
            case rel =>
              have e : j' = j1 := by rw [← hy.out.2, scanDown_end _ y i1 j' (.inr (by rw [← hGy.out, ← hGy.out, hl]; rfl))]
              exact ⟨by rw [e], by omega, by omega, hy.out.1.drawn nq⟩
        · have hlei : ¬ (i1 : Int) ≤ (j' : Int) := by omega
          have hled : decide ((i1 : Int) ≤ (j' : Int)) = false := by simp; omega
          go_quiet (first | (go_at_call 118; refine Calls.quiet_of_same (less_any _ _ _)))
          go_wp2
          go_meet
          case rel =>
            have e : j' = j1 := by rw [← hy.out.2, scanDown_end _ y i1 j' (.inl hle)]
            exact ⟨by rw [e], by omega, by omega, hy.out.1.drawn nq⟩
    case rest =>
      obtain ⟨rfl, hij_j1, haj_j1, hr3⟩ := hcut
      have HR_j1 : Hid (Rw w blk off N y wc) := hr3
      clear hr3
      have hc : ∀ t, t < N → wc.cell? ⟨blk, off + t, none⟩ = some (.int .u64 (Gy t)) := fun t ht => by rw [hGy.out]; exact HR_j1.out.cell h0.out hN.out.symm t ht
      have hf : ∀ t, t < N → wc.frozen? ⟨blk, off + t, none⟩ = false := HR_j1.out.froz h0.out hN.out.symm
      have hi1N : i1 ≤ b := by omega
      by_cases hgt : j1 < i1
      · have hgti : (j1 : Int) < (i1 : Int) := by omega
        have HE : Hid (R = (j1, true, swp y j1 a)) := by show _ = _; rw [HRR.out, if_pos hgt]
        have hjN : j1 < N := by omega
        obtain ⟨v3, hv3⟩ := swap_cell hc hjN haN (.int .u64 (Gy a))
        have HSW := HR_j1.out.swapG hGy.out hjN haN
        have HSW2 : Hid (Rw w blk off N (swp y j1 a) ((wc.setCell ⟨blk, off + j1, none⟩ (.int .u64 (Gy a))).setCell ⟨blk, off + a, none⟩ (.int .u64 (Gy j1))).drew) := HSW
        clear HSW
        go_wp2
        go_region
        go_wp2
        go_ret2
        exact ⟨by rw [HE.out]; rfl, by rw [HE.out]; exact HSW2.out⟩
      · have hgti : ¬ (j1 : Int) < (i1 : Int) := by omega
        have hiN : i1 < N := by omega
        have hjN : j1 < N := by omega
        obtain ⟨v3, hv3⟩ := swap_cell hc hiN hjN (.int .u64 (Gy j1))
        have HSW := HR_j1.out.swapG hGy.out hiN hjN
        have HSW2 : Hid (Rw w blk off N (swp y i1 j1) ((wc.setCell ⟨blk, off + i1, none⟩ (.int .u64 (Gy j1))).setCell ⟨blk, off + j1, none⟩ (.int .u64 (Gy i1))).drew) := HSW
        clear HSW
        have HRE : Hid (R = ((partLoop ltInt a (i1 + 1) (j1 - 1) (swp y i1 j1)).1, false, swp (partLoop ltInt a (i1 + 1) (j1 - 1) (swp y i1 j1)).2 (partLoop ltInt a (i1 + 1) (j1 - 1) (swp y i1 j1)).1 a)) := by show _ = _; rw [HRR.out, if_neg (by omega)]
        obtain ⟨R2, hR2⟩ : ∃ R2, partLoop ltInt a (i1 + 1) (j1 - 1) (swp y i1 j1) = R2 := ⟨_, rfl⟩
        rw [hR2] at HRE
        have HR2 : Hid (partLoop ltInt a (i1 + 1) (j1 - 1) (swp y i1 j1) = R2) := hR2
        clear hR2
        go_wp2
        go_region
        go_wp2
        clear hc hf hv3
        go_loopw [10, 11] (fun vi vj wr => ∃ (i j : Nat) (z : Array Int), vi = .int .i64 i ∧ vj = .int .i64 j ∧ a < i ∧ i ≤ j + 2 ∧ j < b ∧ a ≤ j ∧ Hid (Rw w blk off N z wr ∧ partLoop ltInt a i j z = R2)) (fun vi vj _ => (intOf vj + 2 - intOf vi).toNat)
        case atStart => exact ⟨i1 + 1, j1 - 1, swp y i1 j1, by go_num, by congr 1; omega, by omega, by omega, by omega, by omega, HSW2.out, HR2.out⟩
        case round =>
          obtain ⟨i, j, z, rfl, rfl, hai, hij, hjb, haj, hz⟩ := hrel
          obtain ⟨G, hG⟩ : ∃ G : Nat → Int, Hid (∀ t, G t = z[t]!) := ⟨fun t => z[t]!, fun _ => rfl⟩
          obtain ⟨i2, hi2⟩ : ∃ i2, scanUp (fun x => ltInt x z[a]!) z j i = i2 := ⟨_, rfl⟩
          obtain ⟨j2, hj2⟩ : ∃ j2, scanDown (fun x => !ltInt x z[a]!) z i2 j = j2 := ⟨_, rfl⟩
          have hge := scanUp_ge (fun x => ltInt x z[a]!) z j i
          rw [hi2] at hge
          have hle2 := scanDown_le (fun x => !ltInt x z[a]!) z i2 j
          rw [hj2] at hle2
          have HI2 : Hid (scanUp (fun x => ltInt x z[a]!) z j i = i2) := hi2
          have HJ2 : Hid (scanDown (fun x => !ltInt x z[a]!) z i2 j = j2) := hj2
          have HEQ : Hid (R2 = if i2 > j2 then (j2, z) else partLoop ltInt a (i2 + 1) (j2 - 1) (swp z i2 j2)) := by
            show _ = _
            rw [← hz.out.2, partLoop_eq, hi2, hj2]
          have HRZ : Hid (Rw w blk off N z wr) := hz.out.1
          clear hi2 hj2
          go_upto_block 6 with fail
          go_cut [10] from 99 to 152 (fun vi wd => vi = .int .i64 (i2 : Int) ∧ (i2 ≤ i ∨ i2 ≤ j + 1) ∧ Rw w blk off N z wd)
          case first =>
            go_wp2
            go_loopw [10] (fun vi wr => ∃ i' : Nat, vi = .int .i64 i' ∧ i ≤ i' ∧ (i' ≤ i ∨ i' ≤ j + 1) ∧ Hid (Rw w blk off N z wr ∧ scanUp (fun x => ltInt x z[a]!) z (j) i' = i2)) (fun vi _ => (j + 2 - (intOf vi).toNat))
            case atStart => exact ⟨i, rfl, Nat.le_refl _, .inl (Nat.le_refl _), HRZ.out, HI2.out⟩
            case round =>
              obtain ⟨i', rfl, hii, hib, hy⟩ := hrel
              have hc : ∀ t, t < N → wr.cell? ⟨blk, off + t, none⟩ = some (.int .u64 (G t)) := fun t ht => by rw [hG.out]; exact hy.out.1.cell h0.out hN.out.symm t ht
              go_wp2
              by_cases hle : i' ≤ j
              · have hlei : (i' : Int) ≤ (j : Int) := by omega
                by_cases hl' : ltInt (G i') (G a) = true
                · have hl := hl'
                  clear hl'
                  go_quiet (first | (go_at_call 118; refine Calls.quiet_of_same (less_any _ _ _)))
                  go_wp2
                  refine ⟨⟨i' + 1, by go_num, by omega, .inr (by omega), hy.out.1.drawn nq, ?_⟩, ?_⟩
                  · rw [← hy.out.2, scanUp_go _ z (j) i' hle (by rw [← hG.out, ← hG.out, hl])]
                  · simp [intOf]; omega
                · have hl : ltInt (G i') (G a) = false := by simpa using hl'
                  clear hl'
                  go_quiet (first | (go_at_call 118; refine Calls.quiet_of_same (less_any _ _ _)))
                  go_wp2
                  go_meet
                  case rel =>
                    have e : i' = i2 := by rw [← hy.out.2, scanUp_end _ z (j) i' (.inr (by rw [← hG.out, ← hG.out, hl]))]
                    exact ⟨by rw [e], by rw [← e]; exact hib, hy.out.1.drawn nq⟩
              · have hlei : ¬ (i' : Int) ≤ (j : Int) := by omega
                have hled : decide ((i' : Int) ≤ (j : Int)) = false := by simp; omega
                go_quiet (first | (go_at_call 118; refine Calls.quiet_of_same (less_any _ _ _)))
                go_wp2
                go_meet
                case rel =>
                  have e : i' = i2 := by rw [← hy.out.2, scanUp_end _ z (j) i' (.inl hle)]
                  exact ⟨by rw [e], by rw [← e]; exact hib, hy.out.1.drawn nq⟩
          case rest =>
            obtain ⟨rfl, hib_i2, hr2⟩ := hcut
            have HR_i2 : Hid (Rw w blk off N z wc) := hr2
            clear hr2
            go_upto_block 8 with fail
            go_cut [11] from 99 to 152 (fun vj wd => vj = .int .i64 (j2 : Int) ∧ i2 ≤ j2 + 2 ∧ a ≤ j2 ∧ Rw w blk off N z wd)
            case first =>
              go_wp2
              go_loopw [11] (fun vj wr => ∃ j' : Nat, vj = .int .i64 j' ∧ j' ≤ j ∧ i2 ≤ j' + 2 ∧ a ≤ j' ∧ Hid (Rw w blk off N z wr ∧ scanDown (fun x => !ltInt x z[a]!) z i2 j' = j2)) (fun vj _ => (intOf vj).toNat)
              case atStart => exact ⟨j, rfl, Nat.le_refl _, by omega, haj, HR_i2.out, HJ2.out⟩
              case round =>
                obtain ⟨j', rfl, hjj, hij', haj', hy⟩ := hrel
                have hc : ∀ t, t < N → wr.cell? ⟨blk, off + t, none⟩ = some (.int .u64 (G t)) := fun t ht => by rw [hG.out]; exact hy.out.1.cell h0.out hN.out.symm t ht
                go_wp2
                by_cases hle : i2 ≤ j'
                · have hlei : (i2 : Int) ≤ (j' : Int) := by omega
                  by_cases hl' : ltInt (G j') (G a) = false
                  · have hl := hl'
                    clear hl'
                    go_quiet (first | (go_at_call 118; refine Calls.quiet_of_same (less_any _ _ _)))
                    go_wp2
                    refine ⟨⟨j' - 1, by congr 1; omega, by omega, by omega, by omega, hy.out.1.drawn nq, ?_⟩, ?_⟩
                    · rw [← hy.out.2, scanDown_go _ z i2 j' hle (by omega) (by rw [← hG.out, ← hG.out, hl]; rfl)]
                    · simp [intOf]; omega
                  · have hl : ltInt (G j') (G a) = true := by simpa using hl'
                    clear hl'
                    go_quiet (first | (go_at_call 118; refine Calls.quiet_of_same (less_any _ _ _)))
                    go_wp2
                    go_meet
                    case rel =>
                      have e : j' = j2 := by rw [← hy.out.2, scanDown_end _ z i2 j' (.inr (by rw [← hG.out, ← hG.out, hl]; rfl))]
                      exact ⟨by rw [e], by omega, by omega, hy.out.1.drawn nq⟩
                · have hlei : ¬ (i2 : Int) ≤ (j' : Int) := by omega
                  have hled : decide ((i2 : Int) ≤ (j' : Int)) = false := by simp; omega
                  go_quiet (first | (go_at_call 118; refine Calls.quiet_of_same (less_any _ _ _)))
                  go_wp2
                  go_meet
                  case rel =>
                    have e : j' = j2 := by rw [← hy.out.2, scanDown_end _ z i2 j' (.inl hle)]
                    exact ⟨by rw [e], by omega, by omega, hy.out.1.drawn nq⟩
            case rest =>
              obtain ⟨rfl, hij_j2, haj_j2, hr3⟩ := hcut
              have HR_j2 : Hid (Rw w blk off N z wc) := hr3
              clear hr3
              have hc : ∀ t, t < N → wc.cell? ⟨blk, off + t, none⟩ = some (.int .u64 (G t)) := fun t ht => by rw [hG.out]; exact HR_j2.out.cell h0.out hN.out.symm t ht
              have hf : ∀ t, t < N → wc.frozen? ⟨blk, off + t, none⟩ = false := HR_j2.out.froz h0.out hN.out.symm
              by_cases hgt2 : j2 < i2
              · have hgti2 : (j2 : Int) < (i2 : Int) := by omega
                have HE : Hid (R2 = (j2, z)) := by show _ = _; rw [HEQ.out, if_pos hgt2]
                have HE2 : Hid (R = (j2, false, swp z j2 a)) := by show _ = _; rw [HRE.out, HE.out]
                have hjN2 : j2 < N := by omega
                obtain ⟨v3, hv3⟩ := swap_cell hc hjN2 haN (.int .u64 (G a))
                have HSW := HR_j2.out.swapG hG.out hjN2 haN
                have HSW3 : Hid (Rw w blk off N (swp z j2 a) ((wc.setCell ⟨blk, off + j2, none⟩ (.int .u64 (G a))).setCell ⟨blk, off + a, none⟩ (.int .u64 (G j2))).drew) := HSW
                clear HSW
                go_wp2
                go_region
                go_wp2
                go_ret2
                exact ⟨by rw [HE2.out]; rfl, by rw [HE2.out]; exact HSW3.out⟩
              · have hgti2 : ¬ (j2 : Int) < (i2 : Int) := by omega
                have hiN2 : i2 < N := by omega
                have hjN2 : j2 < N := by omega
                obtain ⟨v3, hv3⟩ := swap_cell hc hiN2 hjN2 (.int .u64 (G j2))
                have HSW := HR_j2.out.swapG hG.out hiN2 hjN2
                have HSW3 : Hid (Rw w blk off N (swp z i2 j2) ((wc.setCell ⟨blk, off + i2, none⟩ (.int .u64 (G j2))).setCell ⟨blk, off + j2, none⟩ (.int .u64 (G i2))).drew) := HSW
                clear HSW
                go_wp2
                go_region
                go_wp2
                refine ⟨⟨i2 + 1, j2 - 1, swp z i2 j2, by go_num, by congr 1; omega, by omega, by omega, by omega, by omega, HSW3.out, ?_⟩, ?_⟩
                · rw [HEQ.out, if_neg (by omega)]
                · simp [intOf]; omega
end Go.Proofs.Ytkmpcheamdadcaa.Srt
