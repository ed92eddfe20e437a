import Derived.Test.YtedmfabonnpblaaMb
namespace Go.Proofs.Ytedmfabonnpblaa
set_option linter.unusedVariables false
set_option linter.unusedSimpArgs false

/-- One step of the register, of numbers of any width. -/
def tN (x : Nat) : Nat := (x >>> 1) ^^^ (if x % 2 = 1 then 2197175160 else 0)
def tI : Nat → Nat → Nat
  | 0, x => x
  | k + 1, x => tN (tI k x)
theorem xor_par (x y : Nat) : (x ^^^ y) % 2 = (x % 2 + y % 2) % 2 := by
  have h := Nat.testBit_xor x y 0
  simp only [Nat.testBit_zero] at h
  have a := Nat.mod_two_eq_zero_or_one x
  have b := Nat.mod_two_eq_zero_or_one y
  have c := Nat.mod_two_eq_zero_or_one (x ^^^ y)
  rcases a with a | a <;> rcases b with b | b <;> rcases c with c | c <;> simp [a, b, c] at h ⊢
theorem xor_lc (a b c : Nat) : a ^^^ (b ^^^ c) = b ^^^ (a ^^^ c) := by rw [← Nat.xor_assoc, Nat.xor_comm a b, Nat.xor_assoc]
theorem tN_xor (x y : Nat) : tN (x ^^^ y) = tN x ^^^ tN y := by
  unfold tN
  rw [Nat.shiftRight_xor_distrib, xor_par]
  have a := Nat.mod_two_eq_zero_or_one x
  have b := Nat.mod_two_eq_zero_or_one y
  rcases a with a | a <;> rcases b with b | b <;> simp only [a, b]
  · simp
  · simp [Nat.xor_assoc]
  · simp only [if_true, Nat.reduceAdd, Nat.reduceMod, Nat.zero_ne_one, if_false, Nat.xor_zero]
    rw [Nat.xor_assoc, Nat.xor_assoc, Nat.xor_comm (y >>> 1)]
  · simp only [if_true, Nat.reduceAdd, Nat.reduceMod, Nat.zero_ne_one, if_false, Nat.xor_zero]
    rw [Nat.xor_assoc, xor_lc 2197175160 (y >>> 1), Nat.xor_self, Nat.xor_zero]
theorem tI_xor (k x y : Nat) : tI k (x ^^^ y) = tI k x ^^^ tI k y := by
  induction k with
  | zero => rfl
  | succ k ih => simp only [tI, ih, tN_xor]
theorem tI_add (j k x : Nat) : tI (j + k) x = tI j (tI k x) := by
  induction j with
  | zero => simp [tI]
  | succ j ih => rw [Nat.add_right_comm]; simp only [tI, ih]
theorem tN_double (y : Nat) : tN (2 * y) = y := by
  unfold tN
  rw [if_neg (by omega), Nat.shiftRight_eq_div_pow]
  simp
theorem tI_shift (k y : Nat) : tI k (y * 2 ^ k) = y := by
  induction k generalizing y with
  | zero => simp [tI]
  | succ k ih =>
    have e : tI (k + 1) (y * 2 ^ (k + 1)) = tI (1 + k) (y * 2 ^ (k + 1)) := by rw [Nat.add_comm]
    rw [e, tI_add]
    have e2 : y * 2 ^ (k + 1) = (2 * y) * 2 ^ k := by rw [Nat.pow_succ]; rw [Nat.mul_comm 2 y, Nat.mul_assoc, Nat.mul_comm 2]
    rw [e2, ih]
    exact tN_double y
theorem tN_lt (x : Nat) (h : x < 4294967296) : tN x < 4294967296 := by
  unfold tN
  refine Nat.xor_lt_two_pow (n := 32) ?_ ?_
  · rw [Nat.shiftRight_eq_div_pow]; omega
  · split <;> decide
theorem tI_lt (k x : Nat) (h : x < 4294967296) : tI k x < 4294967296 := by
  induction k with
  | zero => exact h
  | succ k ih => exact tN_lt _ ih
theorem tN_zero (x : Nat) (h : x < 4294967296) (hz : tN x = 0) : x = 0 := by
  unfold tN at hz
  by_cases hx : x % 2 = 1
  · rw [if_pos hx] at hz
    have e : x >>> 1 = 2197175160 := by
      have := congrArg (· ^^^ 2197175160) hz
      simpa [Nat.xor_assoc] using this
    rw [Nat.shiftRight_eq_div_pow] at e
    omega
  · rw [if_neg hx, Nat.shiftRight_eq_div_pow] at hz
    simp at hz
    omega
theorem tI_zero (k x : Nat) (h : x < 4294967296) (hz : tI k x = 0) : x = 0 := by
  induction k with
  | zero => exact hz
  | succ k ih => exact ih (tN_zero _ (tI_lt k x h) hz)

/-- The register over bytes. -/
def regN (r : Nat) (l : List Nat) : Nat := l.foldl (fun r c => tI 8 (r ^^^ c)) r
/-- The bytes of a number taken in. -/
def xorM : List Nat → Nat → List Nat
  | [], _ => []
  | c :: l, m => (c ^^^ m % 256) :: xorM l (m / 256)
theorem split256 (m : Nat) : m = (m % 256) ^^^ (m / 256 * 2 ^ 8) := by
  apply Nat.eq_of_testBit_eq
  intro i
  rw [Nat.testBit_xor, show (256 : Nat) = 2 ^ 8 from rfl, Nat.testBit_mod_two_pow, Nat.testBit_mul_two_pow, Nat.testBit_div_two_pow]
  by_cases h : i < 8
  · simp [h, Nat.not_le.2 h]
  · have h' : 8 ≤ i := by omega
    have e : i - 8 + 8 = i := by omega
    simp [h, h', e]
theorem reg_xor (l : List Nat) : ∀ (r d m : Nat), m < 2 ^ (8 * l.length) → regN (r ^^^ d) (xorM l m) = regN r l ^^^ tI (8 * l.length) (d ^^^ m) := by
  induction l with
  | nil =>
    intro r d m hm
    have : m = 0 := by simpa using hm
    subst this
    simp [regN, xorM, tI]
  | cons c l ih =>
    intro r d m hm
    have hm' : m / 256 < 2 ^ (8 * l.length) := by
      rw [List.length_cons, Nat.mul_add, Nat.pow_add] at hm
      exact Nat.div_lt_of_lt_mul (by rw [Nat.mul_comm]; exact hm)
    have e1 : regN (r ^^^ d) (xorM (c :: l) m) = regN (tI 8 (r ^^^ c) ^^^ tI 8 (d ^^^ m % 256)) (xorM l (m / 256)) := by
      rw [← tI_xor]
      show regN (tI 8 ((r ^^^ d) ^^^ (c ^^^ m % 256))) (xorM l (m / 256)) = _
      rw [show (r ^^^ d) ^^^ (c ^^^ m % 256) = (r ^^^ c) ^^^ (d ^^^ m % 256) from by rw [Nat.xor_assoc, Nat.xor_assoc, xor_lc d c]]
    rw [e1, ih _ _ _ hm']
    have e2 : tI 8 (d ^^^ m % 256) ^^^ m / 256 = tI 8 (d ^^^ m) := by
      have e3 : tI 8 (d ^^^ m) = tI 8 (d ^^^ (m % 256 ^^^ m / 256 * 2 ^ 8)) := by rw [← split256]
      rw [e3, ← Nat.xor_assoc, tI_xor 8 (d ^^^ m % 256), tI_shift]
    rw [e2, ← tI_add, List.length_cons, Nat.mul_add, Nat.mul_one]
    rfl
theorem xorM_zero (l : List Nat) : xorM l 0 = l := by
  induction l with
  | nil => rfl
  | cons c l ih => simp [xorM, ih]
theorem xorM_len (l : List Nat) (m : Nat) : (xorM l m).length = l.length := by
  induction l generalizing m with
  | nil => rfl
  | cons c l ih => simp [xorM, ih]
theorem xorM_lt (l : List Nat) (m : Nat) (h : ∀ c ∈ l, c < 256) : ∀ c ∈ xorM l m, c < 256 := by
  induction l generalizing m with
  | nil => intro c hc; simp [xorM] at hc
  | cons x l ih =>
    intro c hc
    simp only [xorM, List.mem_cons] at hc
    rcases hc with rfl | hc
    · exact Nat.xor_lt_two_pow (n := 8) (h x (by simp)) (by omega)
    · exact ih _ (fun c hc => h c (by simp [hc])) c hc
/-- A burst of at most 32 bits that turns anything turns the register. -/
theorem burst (l : List Nat) (from' e r : Nat) (he : e < 4294967296) (hm : e * 2 ^ from' < 2 ^ (8 * l.length)) (hf : from' ≤ 8 * l.length) (hne : xorM l (e * 2 ^ from') ≠ l) : regN r (xorM l (e * 2 ^ from')) ≠ regN r l := by
  intro h
  have h1 := reg_xor l r 0 (e * 2 ^ from') hm
  rw [Nat.xor_zero, Nat.zero_xor, h] at h1
  have h2 : tI (8 * l.length) (e * 2 ^ from') = 0 := by
    have := congrArg (regN r l ^^^ ·) h1
    simp only [← Nat.xor_assoc, Nat.xor_self, Nat.zero_xor] at this
    exact this.symm
  have h3 : tI (8 * l.length - from') e = 0 := by
    have e3 : 8 * l.length = (8 * l.length - from') + from' := by omega
    rw [e3, tI_add, tI_shift] at h2
    exact h2
  have h4 := tI_zero _ _ he h3
  rw [h4, Nat.zero_mul, xorM_zero] at hne
  exact hne rfl
/-- One bit more. -/
theorem xorM_set (l : List Nat) : ∀ (m k t : Nat) (hk : k < l.length), t < 256 → (xorM l m).set k ((xorM l m)[k]'(by rw [xorM_len]; exact hk) ^^^ t) = xorM l (m ^^^ t * 2 ^ (8 * k)) := by
  induction l with
  | nil => intro m k t hk; simp at hk
  | cons c l ih =>
    intro m k t hk ht
    match k, hk with
    | 0, hk =>
      have a1 : (m ^^^ t) % 256 = m % 256 ^^^ t := by
        rw [show (256 : Nat) = 2 ^ 8 from rfl, Nat.xor_mod_two_pow, Nat.mod_eq_of_lt (show t < 2 ^ 8 from ht)]
      have a2 : (m ^^^ t) / 256 = m / 256 := by
        rw [show (256 : Nat) = 2 ^ 8 from rfl, Nat.xor_div_two_pow, Nat.div_eq_of_lt (show t < 2 ^ 8 from ht), Nat.xor_zero]
      simp [xorM, a1, a2, Nat.xor_assoc]
    | k + 1, hk =>
      have hk' : k < l.length := by simpa using hk
      have a0 : t * 2 ^ (8 * (k + 1)) = (t * 2 ^ (8 * k)) * 2 ^ 8 := by rw [Nat.mul_add, Nat.pow_add, ← Nat.mul_assoc]
      have a1 : (m ^^^ t * 2 ^ (8 * (k + 1))) % 256 = m % 256 := by
        rw [a0, show (256 : Nat) = 2 ^ 8 from rfl, Nat.xor_mod_two_pow, Nat.mul_mod_left, Nat.xor_zero]
      have a2 : (m ^^^ t * 2 ^ (8 * (k + 1))) / 256 = m / 256 ^^^ t * 2 ^ (8 * k) := by
        rw [a0, show (256 : Nat) = 2 ^ 8 from rfl, Nat.xor_div_two_pow, Nat.mul_div_cancel _ (by decide)]
      simp only [xorM, List.set_cons_succ, List.getElem_cons_succ]
      rw [ih (m / 256) k t hk' ht, a1, a2]
end Go.Proofs.Ytedmfabonnpblaa
