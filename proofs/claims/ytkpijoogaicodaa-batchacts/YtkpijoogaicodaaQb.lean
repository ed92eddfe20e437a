import Derived.Test.YtkpijoogaicodaaQa
namespace Go.Proofs.Ytkpijoogaicodaa
open Go.RowKit
set_option linter.unusedVariables false
set_option linter.unusedSimpArgs false

set_option maxRecDepth 100000 in
set_option maxHeartbeats 1000000 in
theorem qtext_ok {w : World} {qb : Nat} {l t l' : List Int} {most : Int} (h : RdQ w qb 0 l) (m0 : 0 ≤ most) (m1 : most ≤ 100000) (hp : pText most l = .ok (t, l')) :
    Calls Try.prog 64 #[ptr qb, .int .i64 most] w fun e w' => e = .returned (.string (bstr t)) ∧ RdQ w' qb 0 l' ∧ Upd (At qb) w w' := by
  unfold pText at hp
  rcases pVar_cases most l with ⟨v, s, hR, s1, s2, v0, v1, v2, hp'⟩ | ⟨v, s, hR, v2, v0, v1, hp'⟩ | ⟨c', hc', hR, hp'⟩
  · rw [hp'] at hp
    dsimp only at hp
    by_cases hlen : ((l.drop s).length : Int) < v
    · rw [if_pos hlen] at hp; cases hp
    · rw [if_neg hlen] at hp
      cases hp
      obtain ⟨N, rfl⟩ := Int.eq_ofNat_of_zero_le v0
      rw [Int.toNat_natCast]
      have hN : N ≤ (l.drop s).length := by omega
      have HV := qvar_any h (N : Int) s 0 hR s2
      have hll := (show (l.drop s).length ≤ 140737488351232 from by
        obtain ⟨_, _, _, hA, _⟩ := h
        have := hA.2.2.1
        rw [List.length_drop]; omega)
      clear hR hp' hlen s1 s2 v0 v1 h
      generalize l.drop s = l1 at *
      have hN' : (N : Int) ≤ (l1.length : Int) := by omega
      go_enter Try.func64, Try.ntmps64
      go_wp2_with (go_at_call 63; refine HV.mono ?_; rintro e w1 ⟨rfl, hq1, hu1⟩; obtain ⟨a1, cap1, hB1, hA1, hc1, hl1⟩ := hq1; have c0 := hB1.cell1 0 _ rfl; have c1 := hB1.cell1 1 _ rfl; have f0 := hB1.frozen 0; have f1 := hB1.frozen 1; have k1 := ucut_lo a1 l1.length cap1 N hN; have k2 := ucut_hi a1 l1.length cap1 N (by omega); have hstr := (hA1.take N hN).str)
      go_ret
      have hz := rdq_cut hB1 hA1 hc1 hl1 N hN
      exact ⟨rfl, hz.1, hu1.trans hz.2⟩
  · rw [hp'] at hp; cases hp
  · rw [hp'] at hp; cases hp
set_option maxRecDepth 100000 in
set_option maxHeartbeats 1000000 in
theorem qtext_err {w : World} {qb : Nat} {l : List Int} {most c : Int} (h : RdQ w qb 0 l) (m0 : 0 ≤ most) (m1 : most ≤ 100000) (hp : pText most l = .error c) :
    Calls Try.prog 64 #[ptr qb, .int .i64 most] w fun e w' => e = .returned (.string ⟨#[]⟩) ∧ (c != 0) = true ∧ (∃ l', RdQ w' qb c l') ∧ Upd (At qb) w w' := by
  unfold pText at hp
  rcases pVar_cases most l with ⟨v, s, hR, s1, s2, v0, v1, v2, hp'⟩ | ⟨v, s, hR, v2, v0, v1, hp'⟩ | ⟨c', hc', hR, hp'⟩
  · rw [hp'] at hp
    dsimp only at hp
    by_cases hlen : ((l.drop s).length : Int) < v
    · rw [if_pos hlen] at hp
      cases hp
      have HV := qvar_any h v s 0 hR s2
      have hll := (show (l.drop s).length ≤ 140737488351232 from by
        obtain ⟨_, _, _, hA, _⟩ := h
        have := hA.2.2.1
        rw [List.length_drop]; omega)
      clear hR hp'
      generalize l.drop s = l1 at *
      go_enter Try.func64, Try.ntmps64
      go_wp2_with (go_at_call 63; refine HV.mono ?_; rintro e w1 ⟨rfl, hq1, hu1⟩; obtain ⟨a1, cap1, hB1, hA1, hc1, hl1⟩ := hq1; have c0 := hB1.cell1 0 _ rfl; have c1 := hB1.cell1 1 _ rfl; have f0 := hB1.frozen 0; have f1 := hB1.frozen 1)
      go_ret
      have hz := rdq_why (why' := 4) hB1 hA1 hc1 hl1
      exact ⟨rfl, rfl, ⟨_, hz.1⟩, hu1.trans hz.2⟩
    · rw [if_neg hlen] at hp; cases hp
  · rw [hp'] at hp
    cases hp
    obtain ⟨s2⟩ : s ≤ l.length ∧ True := by
      rcases rvG_cases l 0 0 with ⟨v', s', h', _, h2, _⟩ | h' | h'
      · rw [hR] at h'; simp only [Prod.mk.injEq] at h'; exact ⟨by omega, trivial⟩
      · rw [hR] at h'; simp at h'
      · rw [hR] at h'; simp at h'
    have HV := qvar_any h v s 0 hR s2
    clear hR hp'
    generalize l.drop s = l1 at *
    go_enter Try.func64, Try.ntmps64
    go_wp2_with (go_at_call 63; refine HV.mono ?_; rintro e w1 ⟨rfl, hq1, hu1⟩; obtain ⟨a1, cap1, hB1, hA1, hc1, hl1⟩ := hq1; have c0 := hB1.cell1 0 _ rfl; have c1 := hB1.cell1 1 _ rfl; have f0 := hB1.frozen 0; have f1 := hB1.frozen 1)
    go_ret
    have hz := rdq_why (why' := 3) hB1 hA1 hc1 hl1
    exact ⟨rfl, rfl, ⟨_, hz.1⟩, hu1.trans hz.2⟩
  · rw [hp'] at hp
    cases hp
    have tc := bne0 hc'
    have tc' : (c == 0) = false := by simpa using tc
    have HV := qvar_any h 0 0 c hR (Nat.zero_le _)
    clear hR hp' hc'
    rw [List.drop_zero] at HV
    go_enter Try.func64, Try.ntmps64
    go_wp2_with (go_at_call 63; refine HV.mono ?_; rintro e w1 ⟨rfl, hq1, hu1⟩; obtain ⟨a1, cap1, hB1, hA1, hc1, hl1⟩ := hq1; have c1 := hB1.cell1 1 _ rfl)
    go_ret
    exact ⟨rfl, tc, ⟨l, a1, cap1, hB1, hA1, hc1, hl1⟩, hu1⟩
set_option maxRecDepth 100000 in
set_option maxHeartbeats 1000000 in
theorem most_any (k : Int) (w : World) (h1 : 1 ≤ k) (h2 : k ≤ 2) : Calls Try.prog 38 #[.int .i64 k] w fun e w' => e = .returned (.int .i64 (mostV k)) ∧ w' = w := by
  have : k = 1 ∨ k = 2 := by omega
  rcases this with rfl | rfl
  all_goals
    go_enter Try.func38, Try.ntmps38
    go_wp2
    go_ret
    exact ⟨rfl, rfl⟩
end Go.Proofs.Ytkpijoogaicodaa
