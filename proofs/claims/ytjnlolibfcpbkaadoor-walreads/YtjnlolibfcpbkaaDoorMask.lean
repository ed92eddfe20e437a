import Derived.Test.YtjnlolibfcpbkaaDoorProg
import Derived.WalkKit
import Derived.WalkSpells
import Derived.Lib.EndianBits
namespace Go.Proofs.YtjnlolibfcpbkaaDoor
open Go.RowKit
set_option linter.unusedVariables false

theorem ret_int {k : IntKind} {a b : Int} (h : a = b) : Ending.returned (.int k a) = .returned (.int k b) := by rw [h]

def maskV (x : Int) : Int := (x / 32768 + x * 131072 % 4294967296 + 2726488792) % 4294967296
def unmaskV (m : Int) : Int := (m - 2726488792) % 4294967296 / 131072 + (m - 2726488792) % 4294967296 * 32768 % 4294967296

theorem maskV_lo (x : Int) : 0 ≤ maskV x := by unfold maskV; omega
theorem maskV_hi (x : Int) : maskV x < 4294967296 := by unfold maskV; omega
theorem unmaskV_mask (x : Int) (h0 : 0 ≤ x) (h1 : x < 4294967296) : unmaskV (maskV x) = x := by
  have e1 : x * 131072 % 4294967296 = x % 32768 * 131072 := by omega
  have e2 : (maskV x - 2726488792) % 4294967296 = x / 32768 + x % 32768 * 131072 := by unfold maskV; rw [e1]; omega
  have e3 : (x / 32768 + x % 32768 * 131072) / 131072 = x % 32768 := by omega
  have e4 : (x / 32768 + x % 32768 * 131072) * 32768 % 4294967296 = x / 32768 * 32768 := by omega
  unfold unmaskV
  rw [e2, e3, e4]; omega

theorem or17 (x : Int) (h0 : 0 ≤ x) (h1 : x < 4294967296) : bits .or .u32 (x / 32768) (x * 131072 % 4294967296) = x / 32768 + x * 131072 % 4294967296 :=
  bits_join_low .u32 32 (by decide) wraps_u32 17 _ _ (by omega) (by omega) (by omega) (by omega) (by omega) (by omega)
theorem or17' (x : Int) (h0 : 0 ≤ x) (h1 : x < 4294967296) : bits .or .u32 (x * 131072 % 4294967296) (x / 32768) = x / 32768 + x * 131072 % 4294967296 := by
  rw [bits_join .u32 32 (by decide) wraps_u32 17 _ _ (by omega) (by omega) (by omega) (by omega) (by omega) (by omega)]; omega
theorem or15 (x : Int) (h0 : 0 ≤ x) (h1 : x < 4294967296) : bits .or .u32 (x / 131072) (x * 32768 % 4294967296) = x / 131072 + x * 32768 % 4294967296 :=
  bits_join_low .u32 32 (by decide) wraps_u32 15 _ _ (by omega) (by omega) (by omega) (by omega) (by omega) (by omega)
theorem or15' (x : Int) (h0 : 0 ≤ x) (h1 : x < 4294967296) : bits .or .u32 (x * 32768 % 4294967296) (x / 131072) = x / 131072 + x * 32768 % 4294967296 := by
  rw [bits_join .u32 32 (by decide) wraps_u32 15 _ _ (by omega) (by omega) (by omega) (by omega) (by omega) (by omega)]; omega

set_option maxHeartbeats 400000 in
theorem rot15 (x : Int) (w : World) (hx : 0 ≤ x) (hx2 : x < 4294967296) :
    Calls Tryd.prog 54 #[.int .u32 x, .int .i64 15] w fun e w' => e = .returned (.int .u32 (x / 131072 + x * 32768 % 4294967296)) ∧ w' = w := by
  have e1 : bits .and .u64 15 31 = 15 := by decide +kernel
  go_enter Tryd.func54, Tryd.ntmps54
  go_wp2
  go_ret
  exact ⟨ret_int (or15' x hx hx2), rfl⟩

set_option maxHeartbeats 400000 in
theorem rot17 (x : Int) (w : World) (hx : 0 ≤ x) (hx2 : x < 4294967296) :
    Calls Tryd.prog 54 #[.int .u32 x, .int .i64 (-15)] w fun e w' => e = .returned (.int .u32 (x / 32768 + x * 131072 % 4294967296)) ∧ w' = w := by
  have e1 : bits .and .u64 (IntKind.u64.wrap (-15)) 31 = 17 := by decide +kernel
  go_enter Tryd.func54, Tryd.ntmps54
  go_wp2
  go_ret
  exact ⟨ret_int (or17' x hx hx2), rfl⟩

set_option maxHeartbeats 400000 in
theorem cmask_any (x : Int) (w : World) (hx : 0 ≤ x) (hx2 : x < 4294967296) :
    Calls Tryd.prog 49 #[.int .u32 x] w fun e w' => e = .returned (.int .u32 (maskV x)) ∧ w' = w := by
  go_enter Tryd.func49, Tryd.ntmps49
  go_wp2_with (go_at_call 54; refine (rot17 x _ hx hx2).mono ?_; rintro e w' ⟨rfl, rfl⟩)
  go_ret
  exact ⟨ret_int rfl, rfl⟩

set_option maxHeartbeats 400000 in
theorem rmask_any (x : Int) (w : World) (hx : 0 ≤ x) (hx2 : x < 4294967296) :
    Calls Tryd.prog 34 #[.int .u32 x] w fun e w' => e = .returned (.int .u32 (maskV x)) ∧ w' = w := by
  go_enter Tryd.func34, Tryd.ntmps34
  go_wp2
  go_ret
  exact ⟨ret_int (by rw [or17 x hx hx2]; rfl), rfl⟩

end Go.Proofs.YtjnlolibfcpbkaaDoor
