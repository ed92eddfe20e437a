import Derived.Test.YtkpijoogaicodaaHa
namespace Go.Proofs.Ytkpijoogaicodaa
open Go.RowKit Go.Sort
set_option linter.unusedVariables false
set_option linter.unusedSimpArgs false
set_option maxRecDepth 100000 in
set_option maxHeartbeats 4000000 in
theorem ins_any (blk off cap a b : Nat) (d : Array Int) (w : World) (h : Holds (Value.int .u32) w blk off d) (hab : a ≤ b) (hb : b ≤ d.size) (hsz : d.size < 4611686018427387904) :
    Calls Try.prog 82 #[.slice (some ⟨blk, off, none⟩) d.size cap, .int .i64 a, .int .i64 b] w fun e w' => e = .returned (.tuple #[]) ∧ Rw w blk off d.size (Sort.insertionSort ltInt d a b) w' := by
  obtain ⟨N, hN⟩ : ∃ N, N = d.size := ⟨_, rfl⟩
  have h0 : Hid (Holds (Value.int .u32) w blk off d) := h
  have r0 : Rw w blk off N d w := hN ▸ Rw.start h
  rw [← hN] at hb hsz ⊢
  clear h
  go_enter Try.func82, Try.ntmps82
  go_wp2
  go_loopw [6] (fun vi wr => ∃ (i : Nat) (x : Array Int), vi = .int .i64 i ∧ a < i ∧ i ≤ b + 1 ∧ Hid (Rw w blk off N x wr ∧ insOuter ltInt a b i x = Sort.insertionSort ltInt d a b)) (fun vi _ => b + 1 - (intOf vi).toNat)
  case atStart => exact ⟨a + 1, d, by go_num, by omega, by omega, r0, rfl⟩
  case round =>
    obtain ⟨i, x, rfl, hai, hib, hx⟩ := hrel
    go_wp2
    · go_loopw [7] (fun vj wr2 => ∃ (j : Nat) (y : Array Int), vj = .int .i64 j ∧ a ≤ j ∧ j ≤ i ∧ Hid (Rw w blk off N y wr2 ∧ insInner ltInt a j y = insInner ltInt a i x)) (fun vj _ => (intOf vj).toNat)
      case atStart => exact ⟨i, x, rfl, by omega, Nat.le_refl _, hx.out.1, rfl⟩
      case round =>
        obtain ⟨j, y, rfl, haj, hji, hy⟩ := hrel
        have hib2 : i < b := by assumption
        obtain ⟨G, hG⟩ : ∃ G : Nat → Int, Hid (∀ t, G t = y[t]!) := ⟨fun t => y[t]!, fun _ => rfl⟩
        have hc : ∀ t, t < N → wr.cell? ⟨blk, off + t, none⟩ = some (.int .u32 (G t)) := fun t ht => by rw [hG.out]; exact hy.out.1.cell h0.out hN.symm t ht
        have hf : ∀ t, t < N → wr.frozen? ⟨blk, off + t, none⟩ = false := hy.out.1.froz h0.out hN.symm
        have ho : Hid ((j ≤ a ∨ ltInt (G j) (G (j - 1)) = false) → ∀ q, ∃ (i' : Nat) (x' : Array Int), Value.int .i64 ((i : Int) + 1) = .int .i64 i' ∧ a < i' ∧ i' ≤ b + 1 ∧ Hid (Rw w blk off N x' (wr.drewN q) ∧ insOuter ltInt a b i' x' = Sort.insertionSort ltInt d a b)) := fun hs q => by
          rw [hG.out, hG.out] at hs
          refine ⟨i + 1, y, by go_num, by omega, by omega, hy.out.1.drawn q, ?_⟩
          rw [← hx.out.2, insOuter_go _ _ _ _ _ hib2, ← hy.out.2, insInner_stop _ _ _ _ hs]
        go_wp2
        by_cases hja : a < j
        · go_quiet (first | (go_at_call 88; refine Calls.quiet_of_same (less_any _ _ _)))
          go_wp2
          · have hl : ltInt (G j) (G (j - 1)) = true := by assumption
            go_region
            all_goals go_wp2
            go_roundw
            case rel =>
              refine ⟨j - 1, swp y j (j - 1), by congr 1; omega, by omega, by omega, ?_, ?_⟩
              · have := hy.out.1.swap (nq + 1) (j := j) (k := j - 1) (by omega) (by omega)
                rw [← hG.out, ← hG.out] at this
                exact this
              · rw [← hy.out.2, insInner_go ltInt a j y hja (by rw [← hG.out, ← hG.out]; exact hl)]
            case measure => simp [intOf]; omega
          · have hl : ltInt (G j) (G (j - 1)) = false := by assumption
            go_roundw
            case rel => exact ho.out (Or.inr hl) nq
            case measure => simp [intOf]; omega
        · go_quiet (first | (go_at_call 88; refine Calls.quiet_of_same (less_any _ _ _)))
          go_wp2
          go_roundw
          case rel => exact ho.out (Or.inl (by omega)) nq
          case measure => simp [intOf]; omega
    · have hge : ¬ i < b := by assumption
      go_end0
      have e := hx.out.2
      rw [insOuter_stop _ _ _ _ _ hge] at e
      exact ⟨rfl, e ▸ hx.out.1⟩
end Go.Proofs.Ytkpijoogaicodaa
