import Derived.Test.YtocanjefonlnaaaDoorD
namespace Go.Proofs.YtocanjefonlnaaaDoor
open Go.RowKit
set_option linter.unusedVariables false
set_option linter.unusedSimpArgs false
/-- The table of de Bruijn's numbers, as far as heights want it. -/
def Tz (w : World) : Prop := ∀ j : Nat, j < 64 → ∃ y : Int, 0 ≤ y ∧ y < 64 ∧ w.cell? ⟨2, j, none⟩ = some (.int .u8 y)
set_option maxRecDepth 100000 in
set_option maxHeartbeats 1000000 in
theorem tz64_any (w : World) (hw : Tz w) (x : Int) (h0 : 0 < x) (h1 : x < 100000) :
    Calls Tryd.prog 71 #[.int .u64 x] w fun e w' => (∃ y : Int, e = .returned (.int .i64 y) ∧ 0 ≤ y ∧ y < 64) ∧ w' = w := by
  have hx0 : (x == 0) = false := by simp; omega
  have hZ : (IntKind.u64.wrap (bits .and .u64 x (IntKind.u64.wrap (-x)) * 285870213051353865) / 288230376151711744).toNat < 64 := by
    have e := IntKind.wrap_u64 (bits .and .u64 x (IntKind.u64.wrap (-x)) * 285870213051353865)
    rw [e]; omega
  obtain ⟨y, hy0, hy1, hc⟩ := hw _ hZ
  have hZ1 : (IntKind.u64.wrap (bits .and .u64 x (IntKind.u64.wrap (-x)) * 285870213051353865) / 288230376151711744 < 64) = True := eq_true (by
    have e := IntKind.wrap_u64 (bits .and .u64 x (IntKind.u64.wrap (-x)) * 285870213051353865)
    rw [e]; omega)
  have hZ0 : (0 ≤ IntKind.u64.wrap (bits .and .u64 x (IntKind.u64.wrap (-x)) * 285870213051353865) / 288230376151711744) = True := eq_true (by
    have e := IntKind.wrap_u64 (bits .and .u64 x (IntKind.u64.wrap (-x)) * 285870213051353865)
    rw [e]; omega)
  have HY : Hid (0 ≤ y ∧ y < 64) := ⟨hy0, hy1⟩
  have hwy : IntKind.i64.wrap y = y := by rw [IntKind.wrap_i64]; omega
  clear hw hZ
  go_enter Tryd.func71, Tryd.ntmps71
  go_wp2
  go_ret
  exact ⟨⟨y, rfl, HY.out⟩, rfl⟩
set_option maxRecDepth 100000 in
set_option maxHeartbeats 1000000 in
theorem tz_any (w : World) (hw : Tz w) (x : Int) (h0 : 0 < x) (h1 : x < 100000) :
    Calls Tryd.prog 65 #[.int .u64 x] w fun e w' => (∃ y : Int, e = .returned (.int .i64 y) ∧ 0 ≤ y ∧ y < 64) ∧ w' = w := by
  have H := tz64_any w hw x h0 h1
  clear hw
  go_enter Tryd.func65, Tryd.ntmps65
  go_wp2_with (go_at_call 71; refine H.mono ?_; rintro e w' ⟨⟨y, rfl, hy⟩, rfl⟩)
  go_ret
  exact ⟨⟨y, rfl, hy⟩, rfl⟩
/-- Heights: bytes, wherever they lie. -/
def Hts (w : World) (hv : Value) : Prop := (∃ a c, hv = .slice a 0 c) ∨ ∃ hb off n c, hv = .slice (some ⟨hb, off, none⟩) n c ∧ 0 < n ∧ n ≤ 8192 ∧ ∀ j : Nat, j < n → ∃ y : Int, 0 ≤ y ∧ y < 256 ∧ w.cell? ⟨hb, off + j, none⟩ = some (.int .u8 y)
set_option maxRecDepth 100000 in
set_option maxHeartbeats 1000000 in
theorem height_any {w : World} {T : Nat} {C : Tc} {f : Nat → Value} (h : Blk w T 72 (tbC C f)) (hh : Hts w C.hv) (hz : Tz w) (h0 : 0 ≤ C.cnt) (h1 : C.cnt < 10000) :
    Calls Tryd.prog 59 #[ptr T] w fun e w' => (∃ y : Nat, e = .returned (.int .i64 y) ∧ 1 ≤ y ∧ y ≤ 14) ∧ Below w.heap.size w w' := by
  have t1 := h.cell1 1 _ rfl
  have t16 := h.cell1 16 _ rfl
  generalize C.cnt = N at *
  generalize C.hv = hv at *
  clear h
  rcases hh with ⟨a, c, rfl⟩ | ⟨hb, off, n, c, rfl, hn, hn2, hc⟩
  · have H := tz_any w hz (N + 1) (by omega) (by omega)
    have e1 : IntKind.i64.wrap (N + 1) = N + 1 := by rw [IntKind.wrap_i64]; omega
    have e2 : IntKind.u64.wrap (N + 1) = N + 1 := by rw [IntKind.wrap_u64]; omega
    clear hz
    go_enter Tryd.func59, Tryd.ntmps59
    go_wp2_with (go_at_call 65; refine H.mono ?_; rintro e w' ⟨⟨y, rfl, hy⟩, rfl⟩)
    · go_ret
      exact ⟨⟨14, rfl, by omega, by omega⟩, Below.refl _ _⟩
    · go_ret
      exact ⟨⟨(1 + y).toNat, by rw [show (((1 + y).toNat : Nat) : Int) = 1 + y by omega]; rfl, by omega, by omega⟩, Below.refl _ _⟩
  · obtain ⟨k, hk⟩ : ∃ k : Nat, N = k := ⟨N.toNat, by omega⟩
    subst hk
    obtain ⟨y, hy0, hy1, hy⟩ := hc (k % n) (Nat.mod_lt _ hn)
    have hm : (k : Int) % (n : Int) = ((k % n : Nat) : Int) := by omega
    have hmn : ((k % n : Nat) : Int) < (n : Int) := by have := Nat.mod_lt k hn; omega
    have hnz : ¬ (n = 0) := by omega
    have htm : (k : Int).tmod n = ((k % n : Nat) : Int) := rfl
    generalize k % n = m at *
    have hwy : IntKind.i64.wrap y = y := by rw [IntKind.wrap_i64]; omega
    clear hc hz
    go_enter Tryd.func59, Tryd.ntmps59
    go_wp2
    go_region
    go_wp2
    all_goals
      go_ret
      first
        | exact ⟨⟨14, rfl, by omega, by omega⟩, (Below.refl _ _).drew⟩
        | exact ⟨⟨1, rfl, by omega, by omega⟩, (Below.refl _ _).drew⟩
        | exact ⟨⟨y.toNat, by rw [show ((y.toNat : Nat) : Int) = y by omega]; rfl, by omega, by omega⟩, (Below.refl _ _).drew⟩
end Go.Proofs.YtocanjefonlnaaaDoor
