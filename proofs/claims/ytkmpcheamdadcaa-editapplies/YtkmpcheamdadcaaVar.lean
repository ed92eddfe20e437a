import Derived.Test.YtkmpcheamdadcaaRfx
import Derived.Laws.BitsAllLaws
import Derived.Lib.VarintBits
import Derived.WalkKit
import Derived.WalkSpells
import Derived.WalkLawsBesides
namespace Go.Proofs.Ytkmpcheamdadcaa
open Go.RowKit
set_option linter.unusedVariables false
set_option linter.unusedSimpArgs false

/-- A number in groups of seven bits. -/
def vL : Nat → Int → List Int
  | 0, m => [m]
  | f + 1, m => if m < 128 then [m] else (m % 128 + 128) :: vL f (m / 128)
theorem vL_last (f : Nat) (m : Int) (h : m < 128) : vL f m = [m] := by
  cases f with
  | zero => rfl
  | succ f => unfold vL; rw [if_pos h]
theorem vL_more (f : Nat) (m : Int) (h : 128 ≤ m) : vL (f + 1) m = (m % 128 + 128) :: vL f (m / 128) := by
  conv => lhs; unfold vL
  rw [if_neg (by omega)]
theorem or128 (x : Int) (h0 : 0 ≤ x) (h1 : x < 256) : bits .or .u8 x 128 = x % 128 + 128 := by
  obtain ⟨n, rfl⟩ := Int.eq_ofNat_of_zero_le h0
  have h := u8_or_nat n 128 (by omega) (by decide)
  have e : n ||| 128 = n % 128 + 128 := by
    have h2 : n < 256 := by omega
    have : ∀ n : Fin 256, n.val ||| 128 = n.val % 128 + 128 := by decide +kernel
    exact this ⟨n, h2⟩
  rw [e] at h
  have h' : bits .or .u8 (n : Int) 128 = ((n % 128 + 128 : Nat) : Int) := h
  rw [h']; omega
theorem byte_c (m : Int) (h0 : 0 ≤ m) : bits .or .u8 (m % 256) 128 = m % 128 + 128 := by
  rw [or128 _ (by omega) (by omega)]; omega
theorem and127 (m : Int) (h0 : 0 ≤ m) (h1 : m < 18446744073709551616) : bits .and .u64 m 127 = m % 128 :=
  bits_mask .u64 64 (by decide) wraps_u64 7 (by decide) m h0 (by omega)
theorem byte_r (m : Int) (h0 : 0 ≤ m) (h1 : m < 18446744073709551616) : bits .or .u8 (bits .and .u64 m 127 % 256) 128 = m % 128 + 128 := by
  rw [and127 m h0 h1, or128 _ (by omega) (by omega)]; omega

set_option maxRecDepth 100000 in
set_option maxHeartbeats 1000000 in
theorem cvarint_any (n : Int) (w : World) (h0 : 0 ≤ n) (h1 : n < 18446744073709551616) :
    Calls Try.prog 71 #[.int .u64 n] w fun e w' => ∃ v, e = .returned v ∧ OwnB w' w.heap.size v (vL 10 n) ∧ Below w.heap.size w w' := by
  obtain ⟨i0, hi, hz0, hz1, hz2⟩ := info_parts info5
  go_enter Try.func71, Try.ntmps71
  go_wp2
  go_loopw [0, 3] (fun nn v wr => ∃ (acc : List Int) (f : Nat) (m : Int), nn = .int .u64 m ∧ 0 ≤ m ∧ m < 18446744073709551616 ∧ Hid (m < 128 ^ (f + 1)) ∧ Hid (acc ++ vL f m = vL 10 n) ∧ Hid (acc.length + f = 10) ∧ OwnB wr w.heap.size v acc ∧ Below w.heap.size w wr) (fun nn _ _ => (intOf nn).toNat)
  case atStart => exact ⟨[], 10, n, rfl, h0, h1, by show n < 128 ^ 11; omega, rfl, rfl, OwnB.nil _ _, Below.refl _ _⟩
  case round =>
    obtain ⟨acc, f, m, rfl, m0, m1, HM, HA, HF, hown, hbel⟩ := hrel
    have hb2 : w.heap.size ≤ wr.heap.size + 1 := by have := hbel.size; omega
    by_cases hlt : m < 128
    · have HB : Hid (acc.length + [m].length ≤ 140737488355328) := by show _ ≤ _; have := HF.out; simp; omega
      have HV : Hid (acc ++ [m] = vL 10 n) := by show _ = _; rw [← HA.out, vL_last f m hlt]
      go_wp2_with (at_builtin; refine OwnB.wpList_append rfl _ _ 28 28 rfl rfl (base := w.heap.size) (l := acc) (hown.alloc _) i0 Try.underlying28 hi hz0 hz1 hz2 _ rfl [m] (src_one _ _) (by simpa using hb2) HB.out ?_; intro v' w1 hown' hgrow hat)
      go_ret
      rw [HV.out] at hown'
      exact ⟨_, rfl, hown', below_push hown hbel hgrow⟩
    · obtain ⟨g, rfl⟩ : ∃ g, f = g + 1 := by
        cases f with
        | zero => exact absurd HM.out (by simpa using hlt)
        | succ g => exact ⟨g, rfl⟩
      have HB : Hid (acc.length + [bits .or .u8 (m % 256) 128].length ≤ 140737488355328) := by show _ ≤ _; have := HF.out; simp; omega
      go_wp2_with (at_builtin; refine OwnB.wpList_append rfl _ _ 28 28 rfl rfl (base := w.heap.size) (l := acc) (hown.alloc _) i0 Try.underlying28 hi hz0 hz1 hz2 _ rfl [bits .or .u8 (m % 256) 128] (src_one _ _) (by simpa using hb2) HB.out ?_; intro v' w1 hown' hgrow hat)
      go_roundw
      case rel =>
        refine ⟨acc ++ [bits .or .u8 (m % 256) 128], g, m / 128, rfl, by omega, by omega, ?_, ?_, ?_, hown', below_push hown hbel hgrow⟩
        · show m / 128 < 128 ^ (g + 1)
          have := HM.out
          rw [Int.pow_succ] at this
          omega
        · show _ = _
          rw [← HA.out, vL_more g m (by omega), byte_c m m0]; simp
        · show _ = _
          have := HF.out
          simp; omega
      case measure => simp [intOf]; omega
set_option maxRecDepth 100000 in
set_option maxHeartbeats 1000000 in
theorem rvarint_any (n : Int) (w : World) (h0 : 0 ≤ n) (h1 : n < 18446744073709551616) :
    Calls Try.prog 73 #[.int .u64 n] w fun e w' => ∃ v, e = .returned v ∧ OwnB w' w.heap.size v (vL 10 n) ∧ Below w.heap.size w w' := by
  obtain ⟨i0, hi, hz0, hz1, hz2⟩ := info_parts info5
  go_enter Try.func73, Try.ntmps73
  go_wp2
  go_loopw [0, 3] (fun nn v wr => ∃ (acc : List Int) (f : Nat) (m : Int), nn = .int .u64 m ∧ 0 ≤ m ∧ m < 18446744073709551616 ∧ Hid (m < 128 ^ (f + 1)) ∧ Hid (acc ++ vL f m = vL 10 n) ∧ Hid (acc.length + f = 10) ∧ OwnB wr w.heap.size v acc ∧ Below w.heap.size w wr) (fun nn _ _ => (intOf nn).toNat)
  case atStart => exact ⟨[], 10, n, rfl, h0, h1, by show n < 128 ^ 11; omega, rfl, rfl, own_empty w, (Below.refl _ _).alloc (Nat.le_refl _) _⟩
  case round =>
    obtain ⟨acc, f, m, rfl, m0, m1, HM, HA, HF, hown, hbel⟩ := hrel
    have hb2 : w.heap.size ≤ wr.heap.size + 1 := by have := hbel.size; omega
    by_cases hlt : m < 128
    · have HB : Hid (acc.length + [m].length ≤ 140737488355328) := by show _ ≤ _; have := HF.out; simp; omega
      have HV : Hid (acc ++ [m] = vL 10 n) := by show _ = _; rw [← HA.out, vL_last f m hlt]
      go_wp2_with (at_builtin; refine OwnB.wpList_append rfl _ _ 28 28 rfl rfl (base := w.heap.size) (l := acc) (hown.alloc _) i0 Try.underlying28 hi hz0 hz1 hz2 _ rfl [m] (src_one _ _) (by simpa using hb2) HB.out ?_; intro v' w1 hown' hgrow hat)
      go_ret
      rw [HV.out] at hown'
      exact ⟨_, rfl, hown', below_push hown hbel hgrow⟩
    · obtain ⟨g, rfl⟩ : ∃ g, f = g + 1 := by
        cases f with
        | zero => exact absurd HM.out (by simpa using hlt)
        | succ g => exact ⟨g, rfl⟩
      have HB : Hid (acc.length + [bits .or .u8 (bits .and .u64 m 127 % 256) 128].length ≤ 140737488355328) := by show _ ≤ _; have := HF.out; simp; omega
      go_wp2_with (at_builtin; refine OwnB.wpList_append rfl _ _ 28 28 rfl rfl (base := w.heap.size) (l := acc) (hown.alloc _) i0 Try.underlying28 hi hz0 hz1 hz2 _ rfl [bits .or .u8 (bits .and .u64 m 127 % 256) 128] (src_one _ _) (by simpa using hb2) HB.out ?_; intro v' w1 hown' hgrow hat)
      go_roundw
      case rel =>
        refine ⟨acc ++ [bits .or .u8 (bits .and .u64 m 127 % 256) 128], g, m / 128, rfl, by omega, by omega, ?_, ?_, ?_, hown', below_push hown hbel hgrow⟩
        · show m / 128 < 128 ^ (g + 1)
          have := HM.out
          rw [Int.pow_succ] at this
          omega
        · show _ = _
          rw [← HA.out, vL_more g m (by omega), byte_r m m0 m1]; simp
        · show _ = _
          have := HF.out
          simp; omega
      case measure => simp [intOf]; omega
end Go.Proofs.Ytkmpcheamdadcaa
