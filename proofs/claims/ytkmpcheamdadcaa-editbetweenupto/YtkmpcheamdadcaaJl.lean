/-
  The sort at uint64: bits.Len, nextPowerOfTwo, the xorshift, breakPatterns (at most 16777215 elements).
-/
import Derived.Test.YtkmpcheamdadcaaJi
import Derived.Laws.BitsAllLaws
namespace Go.Proofs.Ytkmpcheamdadcaa.Srt
open Go.RowKit Go.Sort
set_option linter.unusedVariables false
set_option linter.unusedSimpArgs false
theorem bitsLen_small : ∀ t : Fin 256, Sort.bitsLen t.1 ≤ 8 := by decide +kernel
theorem wrap64_small (x : Nat) (h : x < 1000000) : wrap64 (x : Int) = x := by unfold wrap64; omega
theorem tab_val (T : ByteArray) (hT : T.data.toList = (List.range 256).map fun t => UInt8.ofNat (Sort.bitsLen t)) (x : Nat) (h : x < T.size) (hx : x < 256) : T[x].toNat = Sort.bitsLen x := by
  have e : T[x] = T.data.toList[x]'(by simpa using h) := rfl
  have b := bitsLen_small ⟨x, hx⟩
  rw [e]
  simp only [hT, List.getElem_map, List.getElem_range]
  simp
  simp at b
  omega
theorem tab_w (T : ByteArray) (hT : T.data.toList = (List.range 256).map fun t => UInt8.ofNat (Sort.bitsLen t)) (x : Nat) (h : x < T.size) (hx : x < 256) : wrap64 (wrap64 (T[x].toNat : Int)) = (Sort.bitsLen x : Int) := by
  have b := bitsLen_small ⟨x, hx⟩
  simp only at b
  rw [tab_val T hT x h hx, wrap64_small _ (by omega), wrap64_small _ (by omega)]
theorem tab_w8 (T : ByteArray) (hT : T.data.toList = (List.range 256).map fun t => UInt8.ofNat (Sort.bitsLen t)) (x : Nat) (h : x < T.size) (hx : x < 256) : wrap64 (8 + wrap64 (T[x].toNat : Int)) = (Sort.bitsLen x : Int) + 8 := by
  have b := bitsLen_small ⟨x, hx⟩
  simp only at b
  rw [tab_val T hT x h hx, wrap64_small _ (by omega)]
  unfold wrap64; omega
theorem tab_w16 (T : ByteArray) (hT : T.data.toList = (List.range 256).map fun t => UInt8.ofNat (Sort.bitsLen t)) (x : Nat) (h : x < T.size) (hx : x < 256) : wrap64 (16 + wrap64 (T[x].toNat : Int)) = (Sort.bitsLen x : Int) + 16 := by
  have b := bitsLen_small ⟨x, hx⟩
  simp only at b
  rw [tab_val T hT x h hx, wrap64_small _ (by omega)]
  unfold wrap64; omega
theorem ret_i64 {a b : Int} (h : a = b) : Ending.returned (.int .i64 a) = .returned (.int .i64 b) := by rw [h]
set_option maxRecDepth 100000 in
set_option maxHeartbeats 2000000 in
theorem len64_small (x : Nat) (w : World) (hx : x < 256) : Calls Try.prog 122 #[.int .u64 x] w fun e w' => e = .returned (.int .i64 (Sort.bitsLen x)) ∧ w' = w := by
  have h1 : ¬ (4294967296 : Int) ≤ (x : Int) := by omega
  have h2 : ¬ (65536 : Int) ≤ (x : Int) := by omega
  have h3 : ¬ (256 : Int) ≤ (x : Int) := by omega
  go_enter Try.func122, Try.ntmps122
  go_wp2
  go_ret
  exact ⟨ret_i64 (tab_w _ (by kernel_rfl) x _ hx), rfl⟩
theorem bitsLen_256 (x : Nat) (h : 256 ≤ x) : Sort.bitsLen x = Sort.bitsLen (x / 256) + 8 := by
  have hy : x / 256 ≠ 0 := by omega
  obtain ⟨k, hk⟩ : ∃ k, Nat.log2 (x / 256) = k := ⟨_, rfl⟩
  have hb := (Nat.log2_eq_iff hy).1 hk
  have h1 : 2 ^ (k + 8) = 2 ^ k * 256 := by rw [Nat.pow_add]
  have h2 : 2 ^ (k + 1) = 2 ^ k * 2 := by rw [Nat.pow_succ]
  have h3 : 2 ^ (k + 8 + 1) = 2 ^ k * 512 := by rw [Nat.pow_succ, h1, Nat.mul_assoc]
  have hx : Nat.log2 x = k + 8 := (Nat.log2_eq_iff (by omega)).2 (by rw [h1, h3]; rw [h2] at hb; omega)
  unfold Sort.bitsLen
  rw [if_neg (by omega), if_neg hy, hx, hk]
theorem bitsLen_65536 (x : Nat) (h : 65536 ≤ x) : Sort.bitsLen x = Sort.bitsLen (x / 65536) + 16 := by
  rw [bitsLen_256 x (by omega), bitsLen_256 (x / 256) (by omega), show x / 256 / 256 = x / 65536 by omega]
set_option maxRecDepth 100000 in
set_option maxHeartbeats 2000000 in
theorem len64_mid (x : Nat) (w : World) (hx : x < 65536) : Calls Try.prog 122 #[.int .u64 x] w fun e w' => e = .returned (.int .i64 (Sort.bitsLen x)) ∧ w' = w := by
  by_cases h : x < 256
  · exact len64_small x w h
  · obtain ⟨X, hX⟩ : ∃ X : Int, (x : Int) = X := ⟨_, rfl⟩
    rw [hX]
    have h1 : X < 4294967296 := by omega
    have h2 : X < 65536 := by omega
    have h3 : 256 ≤ X := by omega
    obtain ⟨y, hy⟩ : ∃ y : Nat, y = x / 256 := ⟨_, rfl⟩
    have hyi : X / 256 = (y : Int) := by omega
    have hy2 : y < 256 := by omega
    have HB : Hid (Sort.bitsLen x = Sort.bitsLen y + 8) := by show _ = _; rw [hy]; exact bitsLen_256 x (by omega)
    clear hy hx h hX
    go_enter Try.func122, Try.ntmps122
    go_wp2
    go_ret
    exact ⟨ret_i64 (by rw [tab_w8 _ (by kernel_rfl) y _ hy2, HB.out]; omega), rfl⟩
set_option maxRecDepth 100000 in
set_option maxHeartbeats 2000000 in
theorem len64_any (x : Nat) (w : World) (hx : x < 16777216) : Calls Try.prog 122 #[.int .u64 x] w fun e w' => e = .returned (.int .i64 (Sort.bitsLen x)) ∧ w' = w := by
  by_cases h : x < 65536
  · exact len64_mid x w h
  · obtain ⟨X, hX⟩ : ∃ X : Int, (x : Int) = X := ⟨_, rfl⟩
    rw [hX]
    have h1 : X < 4294967296 := by omega
    have h2 : 65536 ≤ X := by omega
    obtain ⟨y, hy⟩ : ∃ y : Nat, y = x / 65536 := ⟨_, rfl⟩
    have hyi : X / 65536 = (y : Int) := by omega
    have hy2 : y < 256 := by omega
    have h3 : ¬ (256 : Int) ≤ (y : Int) := by omega
    have HB : Hid (Sort.bitsLen x = Sort.bitsLen y + 16) := by show _ = _; rw [hy]; exact bitsLen_65536 x (by omega)
    clear hy hx h hX
    go_enter Try.func122, Try.ntmps122
    go_wp2
    go_ret
    exact ⟨ret_i64 (by rw [tab_w16 _ (by kernel_rfl) y _ hy2, HB.out]; omega), rfl⟩
set_option maxRecDepth 100000 in
theorem blen_any (x : Nat) (w : World) (hx : x < 16777216) : Calls Try.prog 96 #[.int .u64 x] w fun e w' => e = .returned (.int .i64 (Sort.bitsLen x)) ∧ w' = w := by
  have H := len64_any x
  have HH : Hid (∀ W, Calls Try.prog 122 #[.int .u64 x] W fun e w' => e = .returned (.int .i64 (Sort.bitsLen x)) ∧ w' = W) := fun W => H W hx
  clear H hx
  go_enter Try.func96, Try.ntmps96
  go_wp2_with (go_at_call 122; refine (HH.out _).mono ?_; rintro e w3 ⟨rfl, hw3⟩; have hw4 := hw3.symm; subst hw4; clear hw3)
  go_ret
  exact ⟨rfl, rfl⟩
theorem bitsLen_le (x : Nat) (hx : x < 16777216) : Sort.bitsLen x ≤ 24 := by
  by_cases h : x < 256
  · have := bitsLen_small ⟨x, h⟩; simp only at this; omega
  · by_cases h2 : x < 65536
    · rw [bitsLen_256 x (by omega)]
      have := bitsLen_small ⟨x / 256, by omega⟩; simp only at this; omega
    · rw [bitsLen_65536 x (by omega)]
      have := bitsLen_small ⟨x / 65536, by omega⟩; simp only at this; omega
set_option maxRecDepth 100000 in
theorem pow2_any (x : Nat) (w : World) (hx : x < 16777216) : Calls Try.prog 129 #[.int .i64 x] w fun e w' => e = .returned (.int .u64 ((2 ^ Sort.bitsLen x : Nat) : Int)) ∧ w' = w := by
  have H := blen_any x
  have HH : Hid (∀ W, Calls Try.prog 96 #[.int .u64 x] W fun e w' => e = .returned (.int .i64 (Sort.bitsLen x)) ∧ w' = W) := fun W => H W hx
  have hl := bitsLen_le x hx
  obtain ⟨L, hL⟩ : ∃ L, Sort.bitsLen x = L := ⟨_, rfl⟩
  rw [hL] at HH hl ⊢
  have h0 : (x : Int) < 18446744073709551616 := by omega
  obtain ⟨X, hX⟩ : ∃ X : Int, (x : Int) = X := ⟨_, rfl⟩
  have hX0 : 0 ≤ X := by omega
  have hX1 : X < 16777216 := by omega
  rw [hX] at HH ⊢
  clear H hx hL hX h0
  go_enter Try.func129, Try.ntmps129
  go_wp2_with (go_at_call 96; refine (HH.out _).mono ?_; rintro e w3 ⟨rfl, hw3⟩; have hw4 := hw3.symm; subst hw4; clear hw3)
  go_ret
  refine ⟨?_, rfl⟩
  have e : IntKind.u64.wrap ((2 : Int) ^ L) = ((2 ^ L : Nat) : Int) := by
    have h1 : (2 ^ L : Nat) ≤ 2 ^ 24 := Nat.pow_le_pow_right (by omega) hl
    have h2 : ((2 : Int) ^ L) = ((2 ^ L : Nat) : Int) := by simp
    rw [h2, IntKind.wrap_u64]
    generalize (2 ^ L : Nat) = z at h1 ⊢
    omega
  show Ending.returned (.int .u64 (IntKind.u64.wrap ((2 : Int) ^ L))) = _
  rw [e]
/-- One step of the xorshift, in the program's own words. -/
def xo (X : Int) : Int :=
  let A := bits .xor .u64 X (IntKind.u64.wrap (X * 8192))
  let B := bits .xor .u64 A (A / 128)
  bits .xor .u64 B (IntKind.u64.wrap (B * 131072))
theorem xo_eq (r : UInt64) : xo (r.toNat : Int) = ((Sort.xorNext r).toNat : Int) := by
  have hb : ∀ s : UInt64, s.toNat < 18446744073709551616 := fun s => s.toNat_lt
  have e1 : ∀ s : UInt64, bits .xor .u64 (s.toNat : Int) (IntKind.u64.wrap ((s.toNat : Int) * 8192)) = ((s ^^^ (s <<< 13)).toNat : Int) := fun s => by
    rw [IntKind.wrap_u64, show ((s.toNat : Int) * 8192 % 18446744073709551616) = ((s.toNat * 8192 % 18446744073709551616 : Nat) : Int) by omega, bits_xor_u64_nat _ _ (hb s) (by omega)]
    rw [UInt64.toNat_xor, UInt64.toNat_shiftLeft, Nat.shiftLeft_eq]; rfl
  have e2 : ∀ s : UInt64, bits .xor .u64 (s.toNat : Int) ((s.toNat : Int) / 128) = ((s ^^^ (s >>> 7)).toNat : Int) := fun s => by
    have := hb s
    rw [show ((s.toNat : Int) / 128) = ((s.toNat / 128 : Nat) : Int) by omega, bits_xor_u64_nat _ _ (hb s) (by omega)]
    rw [UInt64.toNat_xor, UInt64.toNat_shiftRight, Nat.shiftRight_eq_div_pow]; rfl
  have e3 : ∀ s : UInt64, bits .xor .u64 (s.toNat : Int) (IntKind.u64.wrap ((s.toNat : Int) * 131072)) = ((s ^^^ (s <<< 17)).toNat : Int) := fun s => by
    rw [IntKind.wrap_u64, show ((s.toNat : Int) * 131072 % 18446744073709551616) = ((s.toNat * 131072 % 18446744073709551616 : Nat) : Int) by omega, bits_xor_u64_nat _ _ (hb s) (by omega)]
    rw [UInt64.toNat_xor, UInt64.toNat_shiftLeft, Nat.shiftLeft_eq]; rfl
  unfold xo Sort.xorNext
  simp only [e1, e2, e3]
end Go.Proofs.Ytkmpcheamdadcaa.Srt
