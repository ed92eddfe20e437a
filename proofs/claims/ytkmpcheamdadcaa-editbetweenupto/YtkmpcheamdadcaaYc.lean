/-
  slices.Equal over tables; Equal, both sides'.
-/
import Derived.Test.YtkmpcheamdadcaaYb
import Derived.BigQuiet
namespace Go.Proofs.Ytkmpcheamdadcaa
open Go.RowKit
set_option linter.unusedVariables false
set_option linter.unusedSimpArgs false
set_option maxRecDepth 100000 in
set_option maxHeartbeats 1000000 in
theorem seq_any {w : World} {a b : Option Addr} {ca cb : Nat} {l m : List Fi} (h : RdF w a l) (k : RdF w b m) (hl : l.length * 96 ≤ 140737488355328) (hm : m.length * 96 ≤ 140737488355328) :
    Calls Try.prog 63 #[.slice a l.length ca, .slice b m.length cb] w fun e w' => e = .returned (.bool (leq l m)) ∧ Below w.heap.size w w' := by
  obtain ⟨R, hR⟩ : ∃ R, Hid (leq l m = R) := ⟨_, rfl⟩
  rw [hR.out]
  obtain ⟨N, hN⟩ : ∃ N, Hid (l.length = N) := ⟨_, rfl⟩
  obtain ⟨M, hM⟩ : ∃ M, Hid (m.length = M) := ⟨_, rfl⟩
  have HR : Hid (RdF w a l ∧ RdF w b m) := ⟨h, k⟩
  rw [hN.out] at hl ⊢
  rw [hM.out] at hm ⊢
  clear h k
  by_cases hnm : N = M
  · subst hnm
    have hz : ((N : Int) != (N : Int)) = false := by simp
    go_enter Try.func63, Try.ntmps63
    go_wp2
    go_loopw [13] (fun i wr => ∃ k : Nat, k ≤ N ∧ i = .int .i64 k ∧ Hid (leq (l.drop k) (m.drop k) = R) ∧ Hid (Below w.heap.size w wr)) (fun i _ => ((N : Int) - intOf i).toNat)
    case atStart => exact ⟨0, Nat.zero_le _, rfl, hR.out, Below.refl _ _⟩
    case round =>
      clear hR
      obtain ⟨k, hk, rfl, HC, HB⟩ := hrel
      rcases Nat.lt_or_ge k N with hkN | hkN
      · have hkz : (k : Int) < (N : Int) := by omega
        obtain ⟨f, hf⟩ : ∃ f, l[k]? = some f := ⟨_, List.getElem?_eq_getElem (by rw [hN.out]; exact hkN)⟩
        obtain ⟨g, hg⟩ : ∃ g, m[k]? = some g := ⟨_, List.getElem?_eq_getElem (by rw [hM.out]; exact hkN)⟩
        obtain ⟨ga, oa, e1, hat1⟩ := (HR.out.1.below HB.out).at_ hf
        obtain ⟨gb, ob, e2, hat2⟩ := (HR.out.2.below HB.out).at_ hg
        obtain ⟨y0, y1, y2, y3, y4, y5, y6, y7, y8, y9⟩ := hat1.f
        obtain ⟨z0, z1, z2, z3, z4, z5, z6, z7, z8, z9⟩ := hat2.f
        have HC' : Hid (leq (f :: l.drop (k + 1)) (g :: m.drop (k + 1)) = R) := by
          show _ = _
          rw [← drop_get hf, ← drop_get hg]; exact HC.out
        have hq : ∀ W, (binOp .neq 50 f.v g.v).run Try.prog W = .ok (.bool (!feq f g)) W := fun W => neqf_any f g W
        subst e1 e2
        clear hf hg hat1 hat2 HC
        cases hfg : feq f g
        · have hres : Hid (R = false) := by
            have := HC'.out
            simp only [leq, hfg, Bool.false_and] at this
            exact this.symm
          rw [hfg] at hq
          have hq' : ∀ W, (binOp .neq 50 (.agg #[.int .u64 f.num, .int .u64 f.size, .string f.sm.u, .int .u64 f.sm.s, .int .i64 f.sm.k, .string f.la.u, .int .u64 f.la.s, .int .i64 f.la.k, .int .u64 f.ents, .int .u64 f.rngs]) (.agg #[.int .u64 g.num, .int .u64 g.size, .string g.sm.u, .int .u64 g.sm.s, .int .i64 g.sm.k, .string g.la.u, .int .u64 g.la.s, .int .i64 g.la.k, .int .u64 g.ents, .int .u64 g.rngs])).run Try.prog W = .ok (.bool true) W := hq
          clear hq HC' hfg
          go_wp2_with (go_quiet (fail))
          go_ret
          exact ⟨by rw [hres.out]; rfl, belN HB.out _⟩
        · have HN : Hid (leq (l.drop (k + 1)) (m.drop (k + 1)) = R) := by
            have := HC'.out
            simp only [leq, hfg, Bool.true_and] at this
            exact this
          rw [hfg] at hq
          have hq' : ∀ W, (binOp .neq 50 (.agg #[.int .u64 f.num, .int .u64 f.size, .string f.sm.u, .int .u64 f.sm.s, .int .i64 f.sm.k, .string f.la.u, .int .u64 f.la.s, .int .i64 f.la.k, .int .u64 f.ents, .int .u64 f.rngs]) (.agg #[.int .u64 g.num, .int .u64 g.size, .string g.sm.u, .int .u64 g.sm.s, .int .i64 g.sm.k, .string g.la.u, .int .u64 g.la.s, .int .i64 g.la.k, .int .u64 g.ents, .int .u64 g.rngs])).run Try.prog W = .ok (.bool false) W := hq
          clear hq HC' hfg
          go_wp2_with (go_quiet (fail))
          go_roundw
          case rel => exact ⟨k + 1, by omega, by go_num, HN.out, belN HB.out _⟩
          case measure => simp [intOf]; omega
      · obtain rfl : k = N := by omega
        have hz : ¬ ((k : Int) < k) := by omega
        have hres : Hid (R = true) := by
          have := HC.out
          rw [List.drop_of_length_le (by rw [hN.out]; exact Nat.le_refl _), List.drop_of_length_le (by rw [hM.out]; exact Nat.le_refl _)] at this
          exact this.symm
        go_wp2
        go_ret
        exact ⟨by rw [hres.out]; rfl, HB.out⟩
  · have hres : Hid (R = false) := by
      show _ = _
      rw [← hR.out]
      exact leq_len (by rw [hN.out, hM.out]; exact hnm)
    have hz : ((N : Int) != (M : Int)) = true := by simp; omega
    go_enter Try.func63, Try.ntmps63
    go_wp2
    go_ret
    exact ⟨by rw [hres.out]; rfl, Below.refl _ _⟩
end Go.Proofs.Ytkmpcheamdadcaa
