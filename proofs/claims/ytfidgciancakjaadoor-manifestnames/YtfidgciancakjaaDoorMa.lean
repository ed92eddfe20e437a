/-
  Names and numbers of manifests: mathematics.
-/
import Derived.Lib.ItoaNum
import Derived.Lib.ParseIntBCases
import Derived.Lib.Strings
namespace Go.Proofs.YtfidgciancakjaaDoor
open Go.Lib
set_option linter.unusedVariables false
set_option linter.unusedSimpArgs false
/-- So many digits of a number. -/
def dgs : Nat → Nat → List UInt8
  | 0, _ => []
  | k + 1, u => dgs k (u / 10) ++ [UInt8.ofNat (48 + u % 10)]
theorem dgs_len : ∀ k u, (dgs k u).length = k
  | 0, _ => rfl
  | k + 1, u => by simp [dgs, dgs_len k]
theorem dgs_cons : ∀ k u, dgs (k + 1) u = UInt8.ofNat (48 + u / 10 ^ k % 10) :: dgs k u
  | 0, u => by simp [dgs]
  | k + 1, u => by
    show dgs (k + 1) (u / 10) ++ [UInt8.ofNat (48 + u % 10)] = _
    rw [dgs_cons k (u / 10), Nat.div_div_eq_div_mul, show 10 * 10 ^ k = 10 ^ (k + 1) by rw [Nat.pow_succ, Nat.mul_comm]]
    rfl
theorem dec_dgs (u : Nat) : decDigits u = dgs (nDigits u) u := by
  induction u using Nat.strongRecOn with
  | _ u ih =>
    by_cases h : u < 10
    · rw [decDigits, dif_pos h, nDigits_small h]
      simp [dgs, Nat.mod_eq_of_lt h]
    · rw [decDigits, dif_neg h, nDigits_big h, ih (u / 10) (by omega)]
      rfl
theorem dgs_pad (u : Nat) : ∀ j, List.replicate j (48 : UInt8) ++ dgs (nDigits u) u = dgs (j + nDigits u) u
  | 0 => by simp
  | j + 1 => by
    have h1 : u < 10 ^ (j + nDigits u) := Nat.lt_of_lt_of_le (lt_pow_nDigits u) (Nat.pow_le_pow_right (by decide) (by omega))
    rw [show j + 1 + nDigits u = (j + nDigits u) + 1 by omega, dgs_cons, Nat.div_eq_of_lt h1, ← dgs_pad u j]
    rfl
theorem le_nDigits {u k : Nat} (h : 10 ^ k ≤ u) : k < nDigits u := by
  by_cases c : k < nDigits u
  · exact c
  · have := lt_pow_nDigits u
    have := Nat.pow_le_pow_right (n := 10) (by decide) (show nDigits u ≤ k by omega)
    omega
theorem nDigits_le {u k : Nat} (hk : 1 ≤ k) (h : u < 10 ^ k) : nDigits u ≤ k := by
  induction k generalizing u with
  | zero => omega
  | succ k ih =>
    by_cases c : u < 10
    · rw [nDigits_small c]; omega
    · rw [nDigits_big c]
      rw [Nat.pow_succ] at h
      have hk0 : 1 ≤ k := by
        rcases Nat.eq_zero_or_pos k with e | e
        · subst e; simp at h; omega
        · exact e
      have := ih hk0 (u := u / 10) (by omega)
      omega
/-- The beginning. -/
def pfx : List UInt8 := [77, 65, 78, 73, 70, 69, 83, 84, 45]
/-- How many digits a name has. -/
def nmK (u : Nat) : Nat := max 6 (nDigits u)
def nmL (u : Nat) : List UInt8 := pfx ++ dgs (nmK u) u
theorem nm_drop (u : Nat) : (nmL u).drop 9 = dgs (nmK u) u := rfl
theorem nm_pad (u : Nat) : List.replicate (6 - (decDigits u).length) (48 : UInt8) ++ decDigits u = dgs (nmK u) u := by
  rw [decDigits_length, dec_dgs, dgs_pad]
  congr 1
  unfold nmK
  omega
theorem lt_nmK (u : Nat) : u < 10 ^ nmK u := Nat.lt_of_lt_of_le (lt_pow_nDigits u) (Nat.pow_le_pow_right (by decide) (by unfold nmK; omega))
theorem step_num (acc u k : Nat) : (acc * 10 + u / 10 ^ k % 10) * 10 ^ k + u % 10 ^ k = acc * 10 ^ (k + 1) + u % 10 ^ (k + 1) := by
  have h1 : u % 10 ^ (k + 1) = u / 10 ^ k % 10 * 10 ^ k + u % 10 ^ k := by
    rw [Nat.pow_succ, Nat.mod_mul]
    rw [Nat.mul_comm (10 ^ k)]; omega
  rw [h1, Nat.add_mul, Nat.pow_succ, Nat.mul_assoc, Nat.mul_comm 10 (10 ^ k)]
  omega
theorem dg_nat (x : Nat) : (UInt8.ofNat (48 + x % 10)).toNat = 48 + x % 10 := by
  have : x % 10 < 10 := Nat.mod_lt _ (by decide)
  simp only [UInt8.toNat_ofNat']
  omega
theorem parse_dgs : ∀ (k acc u : Nat), acc * 10 ^ k + u % 10 ^ k < 18446744073709551616 → parseUintM 18446744073709551615 acc (dgs k u) = .ok (acc * 10 ^ k + u % 10 ^ k)
  | 0, acc, u, h => by simp [dgs, parseUintM, Nat.mod_one]
  | k + 1, acc, u, h => by
    rw [dgs_cons]
    have hd := dg_nat (u / 10 ^ k)
    have hlt : u / 10 ^ k % 10 < 10 := Nat.mod_lt _ (by decide)
    have hs := step_num acc u k
    have hp : 1 ≤ 10 ^ k := Nat.one_le_pow _ _ (by decide)
    have hb : acc * 10 + u / 10 ^ k % 10 < 18446744073709551616 := by
      have h1 : (acc * 10 + u / 10 ^ k % 10) * 1 ≤ (acc * 10 + u / 10 ^ k % 10) * 10 ^ k := Nat.mul_le_mul_left _ hp
      omega
    unfold parseUintM
    rw [hd, if_pos (by omega), if_neg (by omega), if_neg (by omega), show 48 + u / 10 ^ k % 10 - 48 = u / 10 ^ k % 10 by omega]
    rw [parse_dgs k _ u (by rw [hs]; exact h), hs]
/-- What the reference reads. -/
def rdN (acc : Nat) : List UInt8 → Nat
  | [] => acc
  | c :: r => if 48 ≤ c.toNat ∧ c.toNat ≤ 57 then rdN ((10 * acc + (c.toNat - 48)) % 18446744073709551616) r else acc
theorem rd_dgs : ∀ (k acc u : Nat), acc * 10 ^ k + u % 10 ^ k < 18446744073709551616 → rdN acc (dgs k u) = acc * 10 ^ k + u % 10 ^ k
  | 0, acc, u, h => by simp [dgs, rdN, Nat.mod_one]
  | k + 1, acc, u, h => by
    rw [dgs_cons]
    have hd := dg_nat (u / 10 ^ k)
    have hlt : u / 10 ^ k % 10 < 10 := Nat.mod_lt _ (by decide)
    have hs := step_num acc u k
    have hp : 1 ≤ 10 ^ k := Nat.one_le_pow _ _ (by decide)
    have hb : acc * 10 + u / 10 ^ k % 10 < 18446744073709551616 := by
      have h1 : (acc * 10 + u / 10 ^ k % 10) * 1 ≤ (acc * 10 + u / 10 ^ k % 10) * 10 ^ k := Nat.mul_le_mul_left _ hp
      omega
    unfold rdN
    rw [hd, if_pos (by omega), show 48 + u / 10 ^ k % 10 - 48 = u / 10 ^ k % 10 by omega, Nat.mod_eq_of_lt (by omega), Nat.mul_comm 10 acc]
    rw [rd_dgs k _ u (by rw [hs]; exact h), hs]
theorem parse_nm {u : Nat} (h : u < 18446744073709551616) : parseUintB 64 (dgs (nmK u) u) = .ok u := by
  have h0 := parse_dgs (nmK u) 0 u (by rw [Nat.zero_mul, Nat.zero_add, Nat.mod_eq_of_lt (lt_nmK u)]; exact h)
  rw [Nat.zero_mul, Nat.zero_add, Nat.mod_eq_of_lt (lt_nmK u)] at h0
  unfold parseUintB
  rw [if_neg (fun e => by have := dgs_len (nmK u) u; rw [e] at this; simp at this; unfold nmK at this; omega)]
  exact h0
theorem rd_nm {u : Nat} (h : u < 18446744073709551616) : rdN 0 ((nmL u).drop 9) = u := by
  rw [nm_drop]
  have h0 := rd_dgs (nmK u) 0 u (by rw [Nat.zero_mul, Nat.zero_add, Nat.mod_eq_of_lt (lt_nmK u)]; exact h)
  rw [Nat.zero_mul, Nat.zero_add, Nat.mod_eq_of_lt (lt_nmK u)] at h0
  exact h0
theorem trim_nm (u : Nat) : trimPrefix (nmL u) pfx = dgs (nmK u) u := by
  unfold trimPrefix hasPrefix nmL
  rw [if_pos (by rw [List.isPrefixOf_iff_prefix]; exact List.prefix_append _ _)]
  simp
theorem rd_lt : ∀ (l : List UInt8) (acc : Nat), acc < 18446744073709551616 → rdN acc l < 18446744073709551616
  | [], acc, h => h
  | c :: r, acc, h => by
    unfold rdN
    split
    · exact rd_lt r _ (Nat.mod_lt _ (by decide))
    · exact h
/-- What both tell. -/
def prN (s : List UInt8) : Nat × Bool := match parseUintB 64 (trimPrefix s pfx) with
  | .ok u => if nmL u = s then (u, true) else (0, false)
  | _ => (0, false)
def rfN (s : List UInt8) : Nat × Bool := if nmL (rdN 0 (s.drop 9)) = s then (rdN 0 (s.drop 9), true) else (0, false)
theorem prN_nm {u : Nat} (h : u < 18446744073709551616) : prN (nmL u) = (u, true) := by
  unfold prN
  rw [trim_nm, parse_nm h]
  simp
theorem parse_lt {l : List UInt8} {u : Nat} (h : parseUintB 64 l = .ok u) : u < 18446744073709551616 := by
  unfold parseUintB at h
  split at h
  · cases h
  · have := parseUintM_le _ l 0 u (Nat.zero_le _) h
    have e : (2 : Nat) ^ 64 - 1 = 18446744073709551615 := by decide
    rw [e] at this
    omega
theorem prN_rfN (s : List UInt8) : prN s = rfN s := by
  by_cases c : nmL (rdN 0 (s.drop 9)) = s
  · have hl := rd_lt (s.drop 9) 0 (by decide)
    have h1 : rfN s = (rdN 0 (s.drop 9), true) := by unfold rfN; rw [if_pos c]
    rw [h1]
    obtain ⟨m, hm⟩ : ∃ m, rdN 0 (s.drop 9) = m := ⟨_, rfl⟩
    rw [hm] at c hl ⊢
    rw [← c]
    exact prN_nm hl
  · have h1 : rfN s = (0, false) := by unfold rfN; rw [if_neg c]
    rw [h1]
    unfold prN
    split
    · rename_i u hu
      rw [if_neg (fun e => c (by rw [← e, rd_nm (parse_lt hu)]))]
    · rfl
end Go.Proofs.YtfidgciancakjaaDoor
