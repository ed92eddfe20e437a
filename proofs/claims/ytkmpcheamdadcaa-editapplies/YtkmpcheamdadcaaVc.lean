/-
  touch; how many tables a version has.
-/
import Derived.Test.YtkmpcheamdadcaaVb
namespace Go.Proofs.Ytkmpcheamdadcaa
open Go.RowKit
set_option linter.unusedVariables false
set_option linter.unusedSimpArgs false
def touB (how : Int) (a f : Fi) : Bool := decide (cmpH how a.la.u f.sm.u < 0) || (decide (cmpH how a.la.u f.sm.u = 0) && ((a.la.k == 2) && ((a.la.s == 72057594037927935) && decide (ordF how a.sm f.sm < 0))))
set_option maxRecDepth 100000 in
set_option maxHeartbeats 2000000 in
theorem touch_any (how : Int) (a f : Fi) (w : World) : Calls Try.prog 60 #[.int .i64 how, a.v, f.v] w fun e w' => e = .returned (.bool (touB how a f)) ∧ Below w.heap.size w w' := by
  unfold touB
  have HO := fun w => rord_any how a.sm.u a.sm.s a.sm.k f.sm.u f.sm.s f.sm.k w
  have HC := fun w => rcmp_any how a.la.u f.sm.u w
  show Calls _ _ _ _ fun e w' => e = .returned (.bool (_ || (_ && (_ && (_ && decide (ordK how a.sm.u a.sm.s a.sm.k f.sm.u f.sm.s f.sm.k < 0)))))) ∧ _
  generalize ordK how a.sm.u a.sm.s a.sm.k f.sm.u f.sm.s f.sm.k = O at *
  generalize cmpH how a.la.u f.sm.u = C at *
  by_cases hC : C < 0
  · have hd : decide (C < 0) = true := by simp [hC]
    rw [hd, Bool.true_or]
    go_enter Try.func60, Try.ntmps60
    go_wp2_with (go_at_call 69; refine (HC _).mono ?_; rintro e w' ⟨rfl, rfl⟩)
    go_ret
    exact ⟨rfl, ((Below.refl _ _).alloc (Nat.le_refl _) _).alloc (by simp) _⟩
  · have hd : decide (C < 0) = false := by simp [hC]
    rw [hd, Bool.false_or]
    by_cases hC0 : C = 0
    · subst hC0
      rw [show decide ((0 : Int) = 0) = true from rfl, Bool.true_and]
      cases hk : (a.la.k == 2)
      · rw [Bool.false_and]
        go_enter Try.func60, Try.ntmps60
        go_wp2_with (go_at_call 69; refine (HC _).mono ?_; rintro e w' ⟨rfl, rfl⟩)
        go_ret
        exact ⟨rfl, ((Below.refl _ _).alloc (Nat.le_refl _) _).alloc (by simp) _⟩
      · rw [Bool.true_and]
        cases hs : (a.la.s == 72057594037927935)
        · rw [Bool.false_and]
          go_enter Try.func60, Try.ntmps60
          go_wp2_with (go_at_call 69; refine (HC _).mono ?_; rintro e w' ⟨rfl, rfl⟩)
          go_ret
          exact ⟨rfl, ((Below.refl _ _).alloc (Nat.le_refl _) _).alloc (by simp) _⟩
        · rw [Bool.true_and]
          go_enter Try.func60, Try.ntmps60
          go_wp2_with (first
            | (go_at_call 69; refine (HC _).mono ?_; rintro e w' ⟨rfl, rfl⟩)
            | (go_at_call 52; refine (HO _).mono ?_; rintro e w' ⟨rfl, rfl⟩))
          go_ret
          exact ⟨rfl, ((((Below.refl _ _).alloc (Nat.le_refl _) _).alloc (by simp) _).alloc (by simp; omega) _).alloc (by simp; omega) _⟩
    · have hd : decide (C = 0) = false := by simp [hC0]
      have hd2 : (C == 0) = false := by simp [hC0]
      rw [hd, Bool.false_and]
      go_enter Try.func60, Try.ntmps60
      go_wp2_with (go_at_call 69; refine (HC _).mono ?_; rintro e w' ⟨rfl, rfl⟩)
      go_ret
      exact ⟨rfl, ((Below.refl _ _).alloc (Nat.le_refl _) _).alloc (by simp) _⟩
/-- How many tables the first k levels have. -/
def cntV (L : Nat → List Fi) : Nat → Nat
  | 0 => 0
  | k + 1 => cntV L k + (L k).length
theorem cnt_le {w : World} {V : Vn} {L : Nat → List Fi} (h : RdV w V L) : ∀ k, k ≤ 7 → cntV L k ≤ k * 1466015503702
  | 0, _ => by simp [cntV]
  | k + 1, hk => by
    have := cnt_le h k (by omega)
    have := h.len k (by omega)
    simp only [cntV]
    omega
set_option maxRecDepth 100000 in
set_option maxHeartbeats 1000000 in
theorem count_any {w : World} {V : Vn} {L : Nat → List Fi} (h : RdV w V L) : Calls Try.prog 54 #[.agg (verA V L)] w fun e w' => e = .returned (.int .i64 (cntV L 7)) ∧ Below w.heap.size w w' := by
  have HX : Hid (∀ k : Nat, k < 7 → ∀ w, (Instr.index 39 (.agg (verA V L)) (.int .i64 k)).run Try.prog w = .ok (vsl V L k) w) := fun k hk w => ver_index V L k hk w
  have HC : Hid (∀ k, k ≤ 7 → cntV L k ≤ k * 1466015503702) := cnt_le h
  have HN : Hid (∀ k, k < 7 → (L k).length * 96 ≤ 140737488355328) := h.len
  clear h
  go_enter Try.func54, Try.ntmps54
  go_wp2
  go_loopw [3, 8] (fun n i wr => ∃ k : Nat, k ≤ 7 ∧ i = .int .i64 k ∧ n = .int .i64 (cntV L k) ∧ Below w.heap.size w wr) (fun _ i _ => 7 - (intOf i).toNat)
  case atStart => exact ⟨0, by omega, rfl, rfl, al1 _ _⟩
  case round =>
    obtain ⟨k, hk, rfl, rfl, hbel⟩ := hrel
    by_cases hlt : k < 7
    · have hx := HX.out k hlt
      have hS : Hid (cntV L (k + 1) = cntV L k + (L k).length) := rfl
      have h1 := HC.out k hk
      have h2 := HN.out k hlt
      have hkz : (k : Int) < 7 := by omega
      generalize cntV L k = C at *
      go_wp2
      go_roundw
      case rel => exact ⟨k + 1, by omega, by go_num, by rw [hS.out]; go_num, hbel⟩
      case measure => simp [intOf]; omega
    · obtain rfl : k = 7 := by omega
      go_wp2
      go_ret
      exact ⟨rfl, hbel⟩
end Go.Proofs.Ytkmpcheamdadcaa
