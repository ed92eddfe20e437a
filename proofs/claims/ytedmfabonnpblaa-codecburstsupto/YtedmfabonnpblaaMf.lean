import Derived.Test.YtedmfabonnpblaaMe
import Derived.WalkKit
import Derived.WalkSpells
import Derived.WalkLawsBesides
namespace Go.Proofs.Ytedmfabonnpblaa
open Go.RowKit
set_option linter.unusedVariables false
set_option linter.unusedSimpArgs false

theorem rowA_getD (l : List Int) (rest : List Value) (k : Nat) (h : k < l.length) : (rowA l rest)[k]? = some (.int .u8 (l.getD k 0)) := by
  rw [rowA_get l rest k h, List.getD_eq_getElem?_getD, List.getElem?_eq_getElem h]; rfl

theorem and1 (D : Nat) (h : D < 4294967296) : bits .and .u32 (D : Int) 1 = ((D % 2 : Nat) : Int) := by
  have := u32_and_nat D 1 h (by decide)
  rw [Nat.and_one_is_mod] at this
  exact this
theorem pow_le (t : Nat) (h : t < 8) : 2 ^ t ≤ 128 := by
  have := Nat.pow_le_pow_right (show 0 < 2 by decide) (show t ≤ 7 by omega)
  simpa using this
theorem shifted (D t : Nat) (ht : t < 8) : (((D % 2 : Nat) : Int) % 256 * 2 ^ t % 256) = ((D % 2 * 2 ^ t : Nat) : Int) := by
  have h1 := pow_le t ht
  have h2 : D % 2 * 2 ^ t < 256 := by
    have := Nat.mod_two_eq_zero_or_one D
    rcases this with h | h <;> rw [h] <;> omega
  have h3 : ((D % 2 : Nat) : Int) % 256 = ((D % 2 : Nat) : Int) := by omega
  rw [h3]
  have h4 : ((D % 2 : Nat) : Int) * 2 ^ t = ((D % 2 * 2 ^ t : Nat) : Int) := by rw [Int.natCast_mul, Int.natCast_pow]; rfl
  rw [h4]
  omega
theorem bit_more (B fr j : Nat) : (B % 2 ^ j * 2 ^ fr) ^^^ (B / 2 ^ j % 2 * 2 ^ (fr + j)) = B % 2 ^ (j + 1) * 2 ^ fr := by
  have e1 : B % 2 ^ (j + 1) = B % 2 ^ j ^^^ B / 2 ^ j % 2 * 2 ^ j := by
    apply Nat.eq_of_testBit_eq
    intro i
    rw [Nat.testBit_xor, Nat.testBit_mod_two_pow, Nat.testBit_mod_two_pow, Nat.testBit_mul_two_pow]
    by_cases h1 : i < j
    · have : i < j + 1 := by omega
      simp [h1, this, Nat.not_le.2 h1]
    · by_cases h2 : i = j
      · subst h2
        simp [Nat.testBit_zero, Nat.testBit_eq_decide_div_mod_eq]
      · have h3 : ¬ i < j + 1 := by omega
        have h4 : j ≤ i := by omega
        have h5 : (B / 2 ^ j % 2).testBit (i - j) = false := by
          apply Nat.testBit_lt_two_pow
          have : 2 ^ 1 ≤ 2 ^ (i - j) := Nat.pow_le_pow_right (by decide) (by omega)
          omega
        simp [h1, h3, h4, h5]
  have e2 : B / 2 ^ j % 2 * 2 ^ (fr + j) = (B / 2 ^ j % 2 * 2 ^ j) * 2 ^ fr := by rw [Nat.add_comm, Nat.pow_add, Nat.mul_assoc]
  rw [e1, e2]
  apply Nat.eq_of_testBit_eq
  intro i
  simp only [Nat.testBit_xor, Nat.testBit_mul_two_pow]
  by_cases h : fr ≤ i <;> simp [h]
theorem ups_getD (l : List Nat) (k : Nat) (h : k < l.length) : (ups l).getD k 0 = ((l[k] : Nat) : Int) := by
  rw [List.getD_eq_getElem?_getD]; simp [ups, h]
theorem ups_set (l : List Nat) (k y : Nat) : (ups l).set k (y : Int) = ups (l.set k y) := by simp [ups, List.map_set]
/-- One round of the burst. -/
theorem round_eq {l : List Nat} {B fr j k t D : Nat} {x : Int} {zs : List Value} {X : Array Value} (hl : ∀ c ∈ l, c < 256) (hX : rowA (ups (xorM l (B % 2 ^ j * 2 ^ fr))) zs = X) (hV : (ups (xorM l (B % 2 ^ j * 2 ^ fr))).getD k 0 = x) (hD : B / 2 ^ j = D)
    (hDb : D < 4294967296) (hk : k < l.length) (ht : t < 8) (hkt : 8 * k + t = fr + j) :
    X.setIfInBounds k (.int .u8 (bits .xor .u8 x (bits .and .u32 (D : Int) 1 % 256 * 2 ^ t % 256))) = rowA (ups (xorM l (B % 2 ^ (j + 1) * 2 ^ fr))) zs := by
  subst hX hV
  have hk' : k < (xorM l (B % 2 ^ j * 2 ^ fr)).length := by rw [xorM_len]; exact hk
  have h1 := pow_le t ht
  have h2 : D % 2 * 2 ^ t < 256 := by
    have := Nat.mod_two_eq_zero_or_one D
    rcases this with h | h <;> rw [h] <;> omega
  rw [and1 D hDb, shifted D t ht, ups_getD _ k hk', u8_xor_nat _ _ (xorM_lt l _ hl _ (List.getElem_mem hk')) h2,
    rowA_set _ _ _ _ (by rw [ups_len]; exact hk'), ups_set, xorM_set l _ k _ hk h2]
  have e : D % 2 * 2 ^ t * 2 ^ (8 * k) = B / 2 ^ j % 2 * 2 ^ (fr + j) := by
    rw [hD, Nat.mul_assoc, ← Nat.pow_add, show t + 8 * k = fr + j by omega]
  rw [e, bit_more]
theorem bstr_list (l : List Nat) : (bstr (ups l)).toList = l.map fun n => UInt8.ofNat n := by
  have H : ∀ (l : List Nat) (r : ByteArray), (((ups l).foldl (fun r n => r.push (UInt8.ofNat n.toNat)) r : ByteArray)).data.toList = r.data.toList ++ l.map fun n => UInt8.ofNat n := by
    intro l
    induction l with
    | nil => intro r; simp [ups]
    | cons c l ih =>
      intro r
      have e : ups (c :: l) = (c : Int) :: ups l := rfl
      rw [e, List.foldl_cons, ih]
      simp [ByteArray.push]
  rw [ByteArray.toList_eq]
  unfold bstr
  rw [H]; rfl
theorem bstr_inj (l m : List Nat) (hl : ∀ c ∈ l, c < 256) (hm : ∀ c ∈ m, c < 256) (h : (bstr (ups l)).toList = (bstr (ups m)).toList) : l = m := by
  rw [bstr_list, bstr_list] at h
  have H : ∀ (l m : List Nat), (∀ c ∈ l, c < 256) → (∀ c ∈ m, c < 256) → (l.map fun n => UInt8.ofNat n) = (m.map fun n => UInt8.ofNat n) → l = m := by
    intro l
    induction l with
    | nil => intro m _ _ h; cases m with | nil => rfl | cons => simp at h
    | cons x l ih =>
      intro m hl hm h
      cases m with
      | nil => simp at h
      | cons y m =>
        simp only [List.map_cons, List.cons.injEq] at h
        have hx := hl x (by simp)
        have hy := hm y (by simp)
        have e := congrArg UInt8.toNat h.1
        simp only [UInt8.toNat_ofNat'] at e
        rw [ih m (fun c hc => hl c (by simp [hc])) (fun c hc => hm c (by simp [hc])) h.2]
        congr 1
        omega
  exact H l m hl hm h

end Go.Proofs.Ytedmfabonnpblaa
