import Derived.Test.YtlkfabejecgfgaaB
import Derived.Shelf.Spec.BitsCarry
import Derived.StillTactics
namespace Go.Proofs.Ytlkfabejecgfgaa
open Go.RowKit Go.Maps
set_option linter.unusedVariables false
set_option linter.unusedSimpArgs false
theorem add64 (x y : Int) (hx : 0 ≤ x) (hy : 0 ≤ y) (w : World) : (callFunc 66 #[.int .u64 x, .int .u64 y, .int .u64 0]).run Try.prog w =
    .ok (.value (.tuple #[.int .u64 ((x + y) % 18446744073709551616), .int .u64 ((x + y) / 18446744073709551616)])) w := by
  rw [run_callFunc_extern Try.func66 (by kernel_rfl) (by kernel_rfl) (by kernel_rfl) (e := add64Entry) (by kernel_rfl), run_add64 x y 0 hx hy (by decide) (by decide)]
  simp [Result.andThen]
def bor (x y : Int) : Int := if x < y then 1 else 0
theorem sub64 (x y : Int) (hx : 0 ≤ x) (hy : 0 ≤ y) (hy' : y < 18446744073709551616) (w : World) : (callFunc 73 #[.int .u64 x, .int .u64 y, .int .u64 0]).run Try.prog w =
    .ok (.value (.tuple #[.int .u64 ((x - y) % 18446744073709551616), .int .u64 (bor x y)])) w := by
  obtain ⟨x, rfl⟩ := Int.eq_ofNat_of_zero_le hx
  obtain ⟨y, rfl⟩ := Int.eq_ofNat_of_zero_le hy
  have := run_sub64 (P := Try.prog) x y 0 (by decide) w
  have e1 : (((x + 18446744073709551616 - y - 0) % 18446744073709551616 : Nat) : Int) = ((x : Int) - y) % 18446744073709551616 := by omega
  have e2 : ((if x < y + 0 then 1 else 0 : Nat) : Int) = bor x y := by unfold bor; split <;> split <;> omega
  rw [e1, e2] at this
  rw [run_callFunc_extern Try.func73 (by kernel_rfl) (by kernel_rfl) (by kernel_rfl) (e := sub64Entry) (by kernel_rfl)]
  rw [show (Value.int .u64 (0 : Int)) = Value.int .u64 ((0 : Nat) : Int) from rfl, this]
  rfl
theorem plus_any (w : World) (a b : Nat) (ha : a < 18446744073709551616) (hb : b < 18446744073709551616) : Calls Try.prog 43 #[.int .u64 a, .int .u64 b] w fun e w' => e = .returned (.int .u64 (plusT a b)) ∧ w' = w := by
  have h := add64 a b (by omega) (by omega)
  by_cases hc : a + b < 18446744073709551616
  · rw [show ((a : Int) + b) / 18446744073709551616 = 0 by omega, show ((a : Int) + b) % 18446744073709551616 = (a : Int) + b by omega] at h
    have e : ((plusT a b : Nat) : Int) = (a : Int) + b := by unfold plusT tolT; rw [if_neg (by omega)]; omega
    rw [e]; clear e
    go_enter Try.func43, Try.ntmps43
    go_wp2_with (simp only [h])
    go_ret
    exact ⟨rfl, rfl⟩
  · rw [show ((a : Int) + b) / 18446744073709551616 = 1 by omega] at h
    have e : ((plusT a b : Nat) : Int) = 18446744073709551615 := by unfold plusT tolT; rw [if_pos (by omega)]; omega
    rw [e]; clear e
    go_enter Try.func43, Try.ntmps43
    go_wp2_with (simp only [h])
    go_ret
    exact ⟨rfl, rfl⟩
section
variable {w : World} {rb : Nat} {rc : List Value} {t : TypeId} {o u : Nat}
theorem told_any (hB : Blk w rb t rc) (h0 : rc[o]? = some (.int .u64 (hiT u : Nat))) (h1 : rc[o + 1]? = some (.int .u64 (loT u : Nat))) : Calls Try.prog 44 #[.pointer (some ⟨rb, o, none⟩)] w fun e w' => e = .returned (.int .u64 (tolT u : Nat)) ∧ w' = w := by
  have c0 := hB.cell1 o _ h0
  have c1 := hB.cell1 (o + 1) _ h1
  by_cases hc : u < 18446744073709551616
  · have e : tolT u = u := by unfold tolT; rw [if_neg (by omega)]
    have e0 : hiT u = 0 := by unfold hiT; omega
    have e1 : loT u = u := by unfold loT; omega
    rw [e0] at c0; rw [e1] at c1; rw [e]
    clear e e0 e1
    go_enter Try.func44, Try.ntmps44
    go_wp2_with fail
    go_ret
    exact ⟨rfl, rfl⟩
  · have e : ((tolT u : Nat) : Int) = 18446744073709551615 := by unfold tolT; rw [if_pos (by omega)]; omega
    have e0 : 0 < hiT u := by unfold hiT; omega
    have e0' : (0 : Int) < (hiT u : Nat) := by omega
    rw [e]; clear e
    go_enter Try.func44, Try.ntmps44
    go_wp2_with fail
    go_ret
    exact ⟨rfl, rfl⟩
def two64 (u : Nat) (w : World) (rb o : Nat) : World := (w.setCell ⟨rb, o, none⟩ (.int .u64 (hiT u : Nat))).setCell ⟨rb, o + 1, none⟩ (.int .u64 (loT u : Nat))
theorem add_any (hB : Blk w rb t rc) (h0 : rc[o]? = some (.int .u64 (hiT u : Nat))) (h1 : rc[o + 1]? = some (.int .u64 (loT u : Nat))) (hu : u < 340282366920938463463374607431768211456) (c : Nat) (hc : c < 18446744073709551616) :
    Calls Try.prog 65 #[.pointer (some ⟨rb, o, none⟩), .int .u64 c] w fun e w' => e = .returned (.tuple #[]) ∧ w' = two64 (addT u c) w rb o := by
  have c0 := hB.cell1 o _ h0
  have c1 := hB.cell1 (o + 1) _ h1
  have f0 := hB.frozen o
  have f1 := hB.frozen (o + 1)
  have h := add64 (loT u : Nat) c (by omega) (by omega)
  have e1 : ((loT u : Nat) + (c : Int)) % 18446744073709551616 = (loT (addT u c) : Nat) := by unfold loT addT; omega
  have e2 : IntKind.u64.wrap ((hiT u : Nat) + ((loT u : Nat) + (c : Int)) / 18446744073709551616) = (hiT (addT u c) : Nat) := by
    have : IntKind.u64.wrap ((hiT u : Nat) + ((loT u : Nat) + (c : Int)) / 18446744073709551616) = ((hiT u : Nat) + ((loT u : Nat) + (c : Int)) / 18446744073709551616) % 18446744073709551616 := by rfl
    rw [this]; unfold hiT loT addT; omega
  rw [e1] at h
  unfold two64
  generalize ((loT u : Nat) + (c : Int)) / 18446744073709551616 = ca at *
  generalize (hiT (addT u c) : Nat) = H at *
  generalize (loT (addT u c) : Nat) = L at *
  clear e1
  go_enter Try.func65, Try.ntmps65
  go_wp2_with (simp only [h])
  go_end0
  exact ⟨rfl, rfl⟩
theorem take_any (hB : Blk w rb t rc) (h0 : rc[o]? = some (.int .u64 (hiT u : Nat))) (h1 : rc[o + 1]? = some (.int .u64 (loT u : Nat))) (hu : u < 340282366920938463463374607431768211456) (c : Nat) (hc : c < 18446744073709551616) :
    Calls Try.prog 67 #[.pointer (some ⟨rb, o, none⟩), .int .u64 c] w fun e w' => e = .returned (.tuple #[]) ∧ w' = two64 (takeT u c) w rb o := by
  have c0 := hB.cell1 o _ h0
  have c1 := hB.cell1 (o + 1) _ h1
  have f0 := hB.frozen o
  have f1 := hB.frozen (o + 1)
  have h := sub64 (loT u : Nat) c (by omega) (by omega) (by omega)
  have e1 : ((loT u : Nat) - (c : Int)) % 18446744073709551616 = (loT (takeT u c) : Nat) := by unfold loT takeT; omega
  have e2 : IntKind.u64.wrap ((hiT u : Nat) - bor (loT u : Nat) c) = (hiT (takeT u c) : Nat) := by
    have : IntKind.u64.wrap ((hiT u : Nat) - bor (loT u : Nat) c) = ((hiT u : Nat) - bor (loT u : Nat) c) % 18446744073709551616 := by rfl
    rw [this]; unfold hiT loT takeT bor
    split <;> omega
  rw [e1] at h
  unfold two64
  generalize bor (loT u : Nat) c = ca at *
  generalize (hiT (takeT u c) : Nat) = H at *
  generalize (loT (takeT u c) : Nat) = L at *
  clear e1
  go_enter Try.func67, Try.ntmps67
  go_wp2_with (simp only [h])
  go_end0
  exact ⟨rfl, rfl⟩
end
end Go.Proofs.Ytlkfabejecgfgaa
