import Derived.Test.YtkpijoogaicodaaHb
namespace Go.Proofs.Ytkpijoogaicodaa
open Go.RowKit Go.Sort
set_option linter.unusedVariables false
set_option linter.unusedSimpArgs false
/-- One step down the heap, to the child c. -/
theorem sift_end {hi first i : Nat} (y : Array Int) (h : hi ≤ 2 * i + 1) : siftDown ltInt hi first i y = y := by rw [siftDown, dif_pos h]
theorem sift_two {hi first i : Nat} (y : Array Int) (h : 2 * i + 2 < hi) (hl : ltInt y[first + 2 * i + 1]! y[first + 2 * i + 2]! = true) :
    siftDown ltInt hi first i y = if ltInt y[first + i]! y[first + 2 * i + 2]! then siftDown ltInt hi first (2 * i + 2) (swp y (first + i) (first + 2 * i + 2)) else y := by
  have e1 : first + (2 * i + 1) = first + 2 * i + 1 := by omega
  have e2 : first + (2 * i + 2) = first + 2 * i + 2 := by omega
  rw [siftDown, dif_neg (by omega), e1, e2, if_pos (by simp [hl]; omega)]
  cases ltInt y[first + i]! y[first + 2 * i + 2]! <;> simp [h]
theorem sift_one {hi first i : Nat} (y : Array Int) (h : 2 * i + 1 < hi) (hl : 2 * i + 2 < hi → ltInt y[first + 2 * i + 1]! y[first + 2 * i + 2]! = false) :
    siftDown ltInt hi first i y = if ltInt y[first + i]! y[first + 2 * i + 1]! then siftDown ltInt hi first (2 * i + 1) (swp y (first + i) (first + 2 * i + 1)) else y := by
  have e1 : first + (2 * i + 1) = first + 2 * i + 1 := by omega
  have e2 : first + (2 * i + 2) = first + 2 * i + 2 := by omega
  rw [siftDown, dif_neg (by omega), e1, e2, if_neg (by
    simp only [Bool.and_eq_true, decide_eq_true_eq]
    rintro ⟨ha, hb⟩
    rw [hl (by omega)] at hb; cases hb)]
  cases ltInt y[first + i]! y[first + 2 * i + 1]! <;> simp
set_option maxRecDepth 100000 in
set_option maxHeartbeats 8000000 in
theorem sift_any (blk off cap lo hi first : Nat) (d : Array Int) (w : World) (h : Holds (Value.int .u32) w blk off d) (hb : first + hi ≤ d.size) (hlo : lo ≤ d.size) (hsz : d.size < 2305843009213693952) :
    Calls Try.prog 94 #[.slice (some ⟨blk, off, none⟩) d.size cap, .int .i64 lo, .int .i64 hi, .int .i64 first] w fun e w' => e = .returned (.tuple #[]) ∧ Rw w blk off d.size (Sort.siftDown ltInt hi first lo d) w' := by
  obtain ⟨N, hN⟩ : ∃ N, Hid (N = d.size) := ⟨_, rfl⟩
  have h0 : Hid (Holds (Value.int .u32) w blk off d) := h
  have r0 : Rw w blk off N d w := hN.out ▸ Rw.start h
  rw [← hN.out] at hb hsz hlo ⊢
  clear h
  go_enter Try.func94, Try.ntmps94
  go_wp2
  go_loopw [8] (fun vi wr => ∃ (i : Nat) (y : Array Int), vi = .int .i64 i ∧ i ≤ N ∧ Hid (Rw w blk off N y wr ∧ siftDown ltInt hi first i y = Sort.siftDown ltInt hi first lo d)) (fun vi _ => N - (intOf vi).toNat)
  case atStart => exact ⟨lo, d, rfl, hlo, r0, rfl⟩
  case round =>
    obtain ⟨i, y, rfl, hiN, hy⟩ := hrel
    obtain ⟨G, hG⟩ : ∃ G : Nat → Int, Hid (∀ t, G t = y[t]!) := ⟨fun t => y[t]!, fun _ => rfl⟩
    have hc : ∀ t, t < N → wr.cell? ⟨blk, off + t, none⟩ = some (.int .u32 (G t)) := fun t ht => by rw [hG.out]; exact hy.out.1.cell h0.out hN.out.symm t ht
    have hf : ∀ t, t < N → wr.frozen? ⟨blk, off + t, none⟩ = false := hy.out.1.froz h0.out hN.out.symm
    by_cases g0 : hi ≤ 2 * i + 1
    · have g0z : (hi : Int) ≤ 2 * (i : Int) + 1 := by omega
      go_wp2
      go_end0
      have e := hy.out.2
      rw [sift_end y g0] at e
      exact ⟨rfl, e ▸ hy.out.1⟩
    · have g0z : ¬ ((hi : Int) ≤ 2 * (i : Int) + 1) := by omega
      by_cases g1 : 2 * i + 2 < hi
      · have g1z : 2 * (i : Int) + 1 + 1 < (hi : Int) := by omega
        go_wp2_with fail
        go_big_quiet (first | (go_at_call 88; refine Calls.quiet_of_same (less_any _ _ _)))
        go_wp2_with fail
        · have hL : ltInt (G (first + 2 * i + 1)) (G (first + 2 * i + 2)) = true := by assumption
          have hS : Hid _ := sift_two (first := first) y g1 (by rw [← hG.out, ← hG.out]; exact hL)
          revert nq; intro nq1
          have r2 : Hid (Rw w blk off N y (wr.drewN nq1)) := hy.out.1.drawn nq1
          have hc2 : ∀ t, t < N → (wr.drewN nq1).cell? ⟨blk, off + t, none⟩ = some (.int .u32 (G t)) := hc
          have hf2 : ∀ t, t < N → (wr.drewN nq1).frozen? ⟨blk, off + t, none⟩ = false := hf
          clear hc hf
          generalize wr.drewN nq1 = wr2 at hc2 hf2 r2 ⊢
          go_big_quiet (first | (go_at_call 88; refine Calls.quiet_of_same (less_any _ _ _)))
          go_wp2_with fail
          · have hT : ltInt (G (first + i)) (G (first + 2 * i + 2)) = false := by
              have : (!ltInt (G (first + i)) (G (first + 2 * i + 2))) = true := by assumption
              simpa using this
            (try simp only [Exit.inBlock, Exit.then]); refine bodyPost_ret (results_none rfl _ _ _) rfl ?_
            rw [hG.out, hG.out] at hT
            have e := hS.out
            rw [hT, hy.out.2] at e
            simp at e
            exact ⟨rfl, e ▸ r2.out.drawn nq⟩
          · have hT : ltInt (G (first + i)) (G (first + 2 * i + 2)) = true := by
              have : (!ltInt (G (first + i)) (G (first + 2 * i + 2))) = false := by assumption
              simpa using this
            have r3 : Hid (Rw w blk off N y (wr2.drewN nq)) := r2.out.drawn nq
            have hc3 : ∀ t, t < N → (wr2.drewN nq).cell? ⟨blk, off + t, none⟩ = some (.int .u32 (G t)) := hc2
            have hf3 : ∀ t, t < N → (wr2.drewN nq).frozen? ⟨blk, off + t, none⟩ = false := hf2
            clear hc2 hf2
            generalize wr2.drewN nq = wr3 at hc3 hf3 r3 ⊢
            go_region
            all_goals go_wp2
            go_roundw
            case rel =>
              refine ⟨2 * i + 2, swp y (first + i) (first + 2 * i + 2), by go_num, by omega, ?_, ?_⟩
              · have := r3.out.swap 1 (j := first + i) (k := first + 2 * i + 2) (by omega) (by omega)
                rw [← hG.out, ← hG.out] at this
                exact this
              · rw [hG.out, hG.out] at hT
                have e := hS.out
                rw [hT, hy.out.2] at e
                simp at e
                exact e.symm
            case measure => simp [intOf]; omega
        · have hL : ltInt (G (first + 2 * i + 1)) (G (first + 2 * i + 2)) = false := by assumption
          have hS : Hid _ := sift_one (hi := hi) (first := first) (i := i) y (by omega) (fun _ => by rw [← hG.out, ← hG.out]; exact hL)
          revert nq; intro nq1
          have r2 : Hid (Rw w blk off N y (wr.drewN nq1)) := hy.out.1.drawn nq1
          have hc2 : ∀ t, t < N → (wr.drewN nq1).cell? ⟨blk, off + t, none⟩ = some (.int .u32 (G t)) := hc
          have hf2 : ∀ t, t < N → (wr.drewN nq1).frozen? ⟨blk, off + t, none⟩ = false := hf
          clear hc hf
          generalize wr.drewN nq1 = wr2 at hc2 hf2 r2 ⊢
          go_big_quiet (first | (go_at_call 88; refine Calls.quiet_of_same (less_any _ _ _)))
          go_wp2_with fail
          · have hT : ltInt (G (first + i)) (G (first + 2 * i + 1)) = false := by
              have : (!ltInt (G (first + i)) (G (first + 2 * i + 1))) = true := by assumption
              simpa using this
            (try simp only [Exit.inBlock, Exit.then]); refine bodyPost_ret (results_none rfl _ _ _) rfl ?_
            rw [hG.out, hG.out] at hT
            have e := hS.out
            rw [hT, hy.out.2] at e
            simp at e
            exact ⟨rfl, e ▸ r2.out.drawn nq⟩
          · have hT : ltInt (G (first + i)) (G (first + 2 * i + 1)) = true := by
              have : (!ltInt (G (first + i)) (G (first + 2 * i + 1))) = false := by assumption
              simpa using this
            have r3 : Hid (Rw w blk off N y (wr2.drewN nq)) := r2.out.drawn nq
            have hc3 : ∀ t, t < N → (wr2.drewN nq).cell? ⟨blk, off + t, none⟩ = some (.int .u32 (G t)) := hc2
            have hf3 : ∀ t, t < N → (wr2.drewN nq).frozen? ⟨blk, off + t, none⟩ = false := hf2
            clear hc2 hf2
            generalize wr2.drewN nq = wr3 at hc3 hf3 r3 ⊢
            go_region
            all_goals go_wp2
            go_roundw
            case rel =>
              refine ⟨2 * i + 1, swp y (first + i) (first + 2 * i + 1), by go_num, by omega, ?_, ?_⟩
              · have := r3.out.swap 1 (j := first + i) (k := first + 2 * i + 1) (by omega) (by omega)
                rw [← hG.out, ← hG.out] at this
                exact this
              · rw [hG.out, hG.out] at hT
                have e := hS.out
                rw [hT, hy.out.2] at e
                simp at e
                exact e.symm
            case measure => simp [intOf]; omega
      · have g1z : decide (2 * (i : Int) + 1 + 1 < (hi : Int)) = false := decide_eq_false (by omega)
        go_wp2_with fail
        go_big_quiet (first | (go_at_call 88; refine Calls.quiet_of_same (less_any _ _ _)))
        go_wp2_with fail
        · have hS : Hid _ := sift_one (hi := hi) (first := first) (i := i) y (by omega) (fun hh => absurd hh g1)
          revert nq; intro nq1
          have r2 : Hid (Rw w blk off N y (wr.drewN nq1)) := hy.out.1.drawn nq1
          have hc2 : ∀ t, t < N → (wr.drewN nq1).cell? ⟨blk, off + t, none⟩ = some (.int .u32 (G t)) := hc
          have hf2 : ∀ t, t < N → (wr.drewN nq1).frozen? ⟨blk, off + t, none⟩ = false := hf
          clear hc hf
          generalize wr.drewN nq1 = wr2 at hc2 hf2 r2 ⊢
          go_big_quiet (first | (go_at_call 88; refine Calls.quiet_of_same (less_any _ _ _)))
          go_wp2_with fail
          · have hT : ltInt (G (first + i)) (G (first + 2 * i + 1)) = false := by
              have : (!ltInt (G (first + i)) (G (first + 2 * i + 1))) = true := by assumption
              simpa using this
            (try simp only [Exit.inBlock, Exit.then]); refine bodyPost_ret (results_none rfl _ _ _) rfl ?_
            rw [hG.out, hG.out] at hT
            have e := hS.out
            rw [hT, hy.out.2] at e
            simp at e
            exact ⟨rfl, e ▸ r2.out.drawn nq⟩
          · have hT : ltInt (G (first + i)) (G (first + 2 * i + 1)) = true := by
              have : (!ltInt (G (first + i)) (G (first + 2 * i + 1))) = false := by assumption
              simpa using this
            have r3 : Hid (Rw w blk off N y (wr2.drewN nq)) := r2.out.drawn nq
            have hc3 : ∀ t, t < N → (wr2.drewN nq).cell? ⟨blk, off + t, none⟩ = some (.int .u32 (G t)) := hc2
            have hf3 : ∀ t, t < N → (wr2.drewN nq).frozen? ⟨blk, off + t, none⟩ = false := hf2
            clear hc2 hf2
            generalize wr2.drewN nq = wr3 at hc3 hf3 r3 ⊢
            go_region
            all_goals go_wp2
            go_roundw
            case rel =>
              refine ⟨2 * i + 1, swp y (first + i) (first + 2 * i + 1), by go_num, by omega, ?_, ?_⟩
              · have := r3.out.swap 1 (j := first + i) (k := first + 2 * i + 1) (by omega) (by omega)
                rw [← hG.out, ← hG.out] at this
                exact this
              · rw [hG.out, hG.out] at hT
                have e := hS.out
                rw [hT, hy.out.2] at e
                simp at e
                exact e.symm
            case measure => simp [intOf]; omega
end Go.Proofs.Ytkpijoogaicodaa
