import Derived.Test.YtbnllobofndckaaRa
namespace Go.Proofs.Ytbnllobofndckaa
open Go.RowKit
set_option linter.unusedVariables false
set_option linter.unusedSimpArgs false
theorem varint_yes {os bs : Nat} {w : World} {rb : Nat} {l ky : List Int} {ra : Option Addr} {rc : Nat} {kv : Value} {u : ByteArray} {s k : Int} {vv : Value} (h : Rst os bs w rb l ky ra rc kv u s k vv) {v n : Nat} (hr : rvG l 0 0 = ((v : Int), (n : Int), 0)) (hn : n ≤ l.length) {most : Nat} (hm : most ≤ 1099511627776) (hv : v ≤ most) :
    Calls Try.prog 80 #[ptr rb, .int .i64 most] w fun e w' => e = .returned (.int .i64 v) ∧ Rst os bs w' rb (l.drop n) ky (cutA ra rc n) (rc - n) kv u s k vv ∧ Upd (fun j => j = rb) w w' := by
  have c0 := h.blk.cell1 0 _ rfl
  have f0 := h.blk.frozen 0
  have HY : Hid (∀ W, Calls Try.prog 83 #[.bool true] W fun e w' => e = .returned (.tuple #[]) ∧ w' = W) := fun W => must_yes W
  obtain ⟨L, hL⟩ : ∃ L, Hid (l.length = L) := ⟨_, rfl⟩
  have hA := h.adv hn
  have HR : Hid (Calls Try.prog 96 #[.slice ra L rc] w fun e w' => e = .returned (.tuple #[.int .u64 v, .int .i64 n, .int .i64 0]) ∧ w' = w) := by
    have := crv_any ra l.length rc l w h.arg
    rw [hr, hL.out] at this; exact this
  rw [hL.out] at c0 hA hn
  have h1 := fun W => bcut_lo2 ra L rc n hn W
  have hw1 : IntKind.u64.wrap (most : Int) = most := by rw [IntKind.wrap_u64]; omega
  have hw2 : IntKind.i64.wrap (v : Int) = v := by rw [IntKind.wrap_i64]; omega
  have hvm : (v : Int) ≤ (most : Int) := by omega
  have hd : decide ((v : Int) ≤ (most : Int)) = true := decide_eq_true hvm
  have HA : Hid _ := hA
  clear hA h hr
  go_enter Try.func80, Try.ntmps80
  go_wp2_with (first
    | (go_at_call 83; refine (HY.out _).mono ?_; rintro e w1 ⟨rfl, hw⟩; have hw1 := hw.symm; subst hw1; clear hw)
    | (go_at_call 96; refine HR.out.mono ?_; rintro e w1 ⟨rfl, hw⟩; have hw1 := hw.symm; subst hw1; clear hw))
  go_ret
  exact ⟨rfl, HA.out.1, HA.out.2⟩
end Go.Proofs.Ytbnllobofndckaa
