import Derived.Test.YtbnllobofndckaaRv
namespace Go.Proofs.Ytbnllobofndckaa
set_option linter.unusedVariables false
set_option linter.unusedSimpArgs false

theorem p7 (i : Nat) : (2 : Int) ^ (7 * (i + 1)) = 128 * 2 ^ (7 * i) := by
  rw [Nat.mul_add, Int.pow_add, Int.mul_comm]; rfl
theorem p7_pos (i : Nat) : (1 : Int) ≤ 2 ^ (7 * i) := by
  have : (0 : Int) < 2 ^ (7 * i) := Int.pow_pos (by decide)
  omega
theorem p7_9 : (2 : Int) ^ (7 * 9) = 9223372036854775808 := by decide
theorem p7_mono (i : Nat) (h : i ≤ 9) : (2 : Int) ^ (7 * i) ≤ 9223372036854775808 := by
  have : i = 0 ∨ i = 1 ∨ i = 2 ∨ i = 3 ∨ i = 4 ∨ i = 5 ∨ i = 6 ∨ i = 7 ∨ i = 8 ∨ i = 9 := by omega
  rcases this with h | h | h | h | h | h | h | h | h | h <;> subst h <;> decide
theorem p7_le8 (i : Nat) (h : i ≤ 8) : (2 : Int) ^ (7 * i) ≤ 72057594037927936 := by
  have : i = 0 ∨ i = 1 ∨ i = 2 ∨ i = 3 ∨ i = 4 ∨ i = 5 ∨ i = 6 ∨ i = 7 ∨ i = 8 := by omega
  rcases this with h | h | h | h | h | h | h | h | h <;> subst h <;> decide
theorem grp_bd (n c : Int) (i : Nat) : 0 ≤ grp n c i ∧ grp n c i < 18446744073709551616 := by
  simp only [grp, bits, IntKind.wrap_u64]; omega
/-- A group is joined on. -/
theorem grp_add (n c : Int) (i : Nat) (n0 : 0 ≤ n) (n1 : n < 2 ^ (7 * i)) (c0 : 0 ≤ c) (h : c % 128 * 2 ^ (7 * i) < 18446744073709551616) (hi : i ≤ 9) : grp n c i = n + c % 128 * 2 ^ (7 * i) := by
  have hp := p7_pos i
  have hp9 := p7_mono i hi
  have hx0 : 0 ≤ c % 128 * 2 ^ (7 * i) := Int.mul_nonneg (by omega) (by omega)
  unfold grp
  rw [show IntKind.u64.wrap (c % 128 * 2 ^ (7 * i)) = c % 128 * 2 ^ (7 * i) by rw [IntKind.wrap_u64]; omega]
  exact bits_join_low .u64 64 (by decide) wraps_u64 (7 * i) n _ n0 n1 (by omega) hx0 (Int.mul_emod_left _ _) (by omega)
/-- What is written is read. -/
theorem rvG_vL (rest : List Int) : ∀ (f : Nat) (m : Int) (i : Nat) (n : Int), i + f = 10 → 0 ≤ m → m < 128 ^ (f + 1) → 0 ≤ n → n < 2 ^ (7 * i) → n + m * 2 ^ (7 * i) < 18446744073709551616 → (i = 0 ∨ 0 < m) → i ≤ 9 →
    rvG (vL f m ++ rest) i n = (n + m * 2 ^ (7 * i), (i : Int) + (vL f m).length, 0)
  | 0, m, i, n, hf, _, _, _, _, _, _, h9 => by omega
  | f + 1, m, i, n, hf, m0, m1, n0, n1, hs, hz, h9 => by
    have hp := p7_pos i
    have hmp : 0 ≤ m * 2 ^ (7 * i) := Int.mul_nonneg m0 (by omega)
    by_cases hm : m < 128
    · rw [vL_last _ m hm]
      have hmm : m % 128 = m := by omega
      have h9c : ¬ (i = 9 ∧ 1 < m) := by
        rintro ⟨rfl, hm1⟩
        rw [p7_9] at hs
        omega
      have hgrp := grp_add n m i n0 n1 m0 (by rw [hmm]; omega) h9
      rw [hmm] at hgrp
      show rvG (m :: rest) i n = _
      unfold rvG
      rw [if_neg h9c, if_neg (by omega), if_pos hm, hgrp]
      simp
    · rw [vL_more f m (by omega)]
      have hi8 : i ≤ 8 := by
        rcases Nat.lt_or_ge i 9 with h | h
        · omega
        · have : i = 9 := by omega
          subst this
          rw [p7_9] at hs
          omega
      have h8 := p7_le8 i hi8
      have hc : (m % 128 + 128) % 128 = m % 128 := by omega
      have hlow0 : 0 ≤ m % 128 * 2 ^ (7 * i) := Int.mul_nonneg (by omega) (by omega)
      have hlow : m % 128 * 2 ^ (7 * i) ≤ 127 * 2 ^ (7 * i) := Int.mul_le_mul_of_nonneg_right (by omega) (by omega)
      have hgrp := grp_add n (m % 128 + 128) i n0 n1 (by omega) (by rw [hc]; omega) h9
      rw [hc] at hgrp
      have hsplit : m * 2 ^ (7 * i) = m % 128 * 2 ^ (7 * i) + m / 128 * 2 ^ (7 * (i + 1)) := by
        rw [p7, ← Int.mul_assoc, ← Int.add_mul]
        congr 1
        omega
      have ih := rvG_vL rest f (m / 128) (i + 1) (n + m % 128 * 2 ^ (7 * i)) (by omega) (by omega) (by rw [Int.pow_succ] at m1; omega) (by omega) (by rw [p7]; omega) (by omega) (.inr (by omega)) (by omega)
      show rvG ((m % 128 + 128) :: (vL f (m / 128) ++ rest)) i n = _
      unfold rvG
      rw [if_neg (by omega), if_neg (by omega), if_neg (by omega), hgrp, ih, hsplit]
      simp only [List.length_cons, Prod.mk.injEq, and_true]
      constructor <;> omega
theorem rvG_enc (m : Int) (rest : List Int) (m0 : 0 ≤ m) (m1 : m < 18446744073709551616) : rvG (vL 10 m ++ rest) 0 0 = (m, ((vL 10 m).length : Int), 0) := by
  have h := rvG_vL rest 10 m 0 0 rfl m0 (by show m < 128 ^ 11; omega) (by decide) (by decide) (by simpa using m1) (.inl rfl) (by decide)
  rw [h]; simp
end Go.Proofs.Ytbnllobofndckaa
