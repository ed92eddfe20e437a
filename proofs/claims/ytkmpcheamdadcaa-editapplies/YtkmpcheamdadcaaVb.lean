/-
  The leaves of versions: a table behind another one, a table over a range.
-/
import Derived.Test.YtkmpcheamdadcaaVa
namespace Go.Proofs.Ytkmpcheamdadcaa
open Go.RowKit
set_option linter.unusedVariables false
set_option linter.unusedSimpArgs false
set_option maxRecDepth 100000 in
set_option maxHeartbeats 1000000 in
theorem rfile_any (f : Fi) (w : World) : Calls Try.prog 59 #[f.v] w fun e w' => e = .returned (.int .i64 (fchk f)) ∧ Below w.heap.size w w' := by
  obtain ⟨R, hR⟩ : ∃ R, Hid (fchk f = R) := ⟨_, rfl⟩
  rw [hR.out]
  have HA : Hid (checkV f.sm.u f.sm.s f.sm.k ≠ 0 → R = checkV f.sm.u f.sm.s f.sm.k) := fun h => by rw [← hR.out]; unfold fchk; rw [if_pos h]
  have HB : Hid (checkV f.sm.u f.sm.s f.sm.k = 0 → R = checkV f.la.u f.la.s f.la.k) := fun h => by rw [← hR.out]; unfold fchk; rw [if_neg (by simpa using h)]
  have H1 := fun w => rcheck_any f.sm.u f.sm.s f.sm.k w
  have H2 := fun w => rcheck_any f.la.u f.la.s f.la.k w
  generalize checkV f.sm.u f.sm.s f.sm.k = A at *
  generalize checkV f.la.u f.la.s f.la.k = B at *
  by_cases hA : A = 0
  · have e := HB.out hA
    subst hA
    rw [e]
    clear e HA HB hR
    go_enter Try.func59, Try.ntmps59
    go_wp2_with (first
      | (have hq := H1; clear hq; go_at_call_of 94 (Value.agg #[.string f.sm.u, .int .u64 f.sm.s, .int .i64 f.sm.k]); refine (H1 _).mono ?_; rintro e w1 ⟨rfl, rfl⟩; clear H1)
      | (go_at_call 94; refine (H2 _).mono ?_; rintro e w2 ⟨rfl, rfl⟩))
    go_ret
    exact ⟨rfl, (((Below.refl _ _).alloc (Nat.le_refl _) _).alloc (by simp) _).alloc (by simp; omega) _⟩
  · have e := HA.out hA
    have hA' : (A != 0) = true := by simpa using hA
    rw [e]
    clear e HA HB hR hA
    go_enter Try.func59, Try.ntmps59
    go_wp2_with (go_at_call 94; refine (H1 _).mono ?_; rintro e w1 ⟨rfl, rfl⟩)
    go_ret
    exact ⟨rfl, ((Below.refl _ _).alloc (Nat.le_refl _) _).alloc (by simp) _⟩
def openB (k : Ky) : Bool := (k.k == 2) && (k.s == 72057594037927935)
set_option maxHeartbeats 1000000 in
theorem open_any (k : Ky) (w : World) : Calls Try.prog 93 #[.agg #[.string k.u, .int .u64 k.s, .int .i64 k.k]] w fun e w' => e = .returned (.bool (openB k)) ∧ w' = w.alloc (.cells #[.string k.u, .int .u64 k.s, .int .i64 k.k] 48) := by
  unfold openB
  cases h : (k.k == 2)
  · go_enter Try.func93, Try.ntmps93
    go_wp2
    go_ret
    exact ⟨rfl, rfl⟩
  · rw [Bool.true_and]
    go_enter Try.func93, Try.ntmps93
    go_wp2
    go_ret
    exact ⟨rfl, rfl⟩
/-- Whether a table lies over a range, both ends included. -/
def rchB (how : Int) (f : Fi) (b en : ByteArray) : Bool := decide (0 ≤ cmpH how f.la.u b) && decide (cmpH how f.sm.u en ≤ 0)
set_option maxHeartbeats 1000000 in
theorem reaches_any (how : Int) (f : Fi) (b en : ByteArray) (w : World) : Calls Try.prog 67 #[.int .i64 how, f.v, .string b, .string en] w fun e w' => e = .returned (.bool (rchB how f b en)) ∧ w' = w.alloc f.o := by
  unfold rchB
  generalize hA : cmpH how f.la.u b = A
  have HA := fun w => ccmp_any how f.la.u b w
  rw [hA] at HA
  have HB := fun w => ccmp_any how f.sm.u en w
  generalize cmpH how f.sm.u en = B at *
  clear hA
  by_cases h : 0 ≤ A
  · have hd : decide (0 ≤ A) = true := by simp [h]
    rw [hd, Bool.true_and]
    go_enter Try.func67, Try.ntmps67
    go_wp2_with (first
      | (have hq := HA; clear hq; go_at_call 90; refine (HA _).mono ?_; rintro e w' ⟨rfl, rfl⟩; clear HA)
      | (go_at_call 90; refine (HB _).mono ?_; rintro e w' ⟨rfl, rfl⟩))
    go_ret
    exact ⟨rfl, rfl⟩
  · have hd : decide (0 ≤ A) = false := by simp [h]
    rw [hd, Bool.false_and]
    go_enter Try.func67, Try.ntmps67
    go_wp2_with (go_at_call 90; refine (HA _).mono ?_; rintro e w' ⟨rfl, rfl⟩)
    go_ret
    exact ⟨rfl, rfl⟩
abbrev ordF (how : Int) (a b : Ky) : Int := ordK how a.u a.s a.k b.u b.s b.k
/-- Whether a table may stand just behind another one. -/
def folB (how : Int) (lv : Nat) (a f : Fi) : Bool := if lv = 0 then decide (f.num < a.num) else (decide (ordF how a.sm f.sm < 0) && (decide (cmpH how a.la.u f.sm.u < 0) || (decide (cmpH how a.la.u f.sm.u = 0) && openB a.la)))
theorem al1 (w : World) (o : Obj) : Below w.heap.size w (w.alloc o) := (Below.refl _ _).alloc (Nat.le_refl _) o
theorem bstep {w w' w'' : World} (h : Below w.heap.size w w') (k : Below w'.heap.size w' w'') : Below w.heap.size w w'' := h.trans (k.mono h.size)
set_option maxRecDepth 100000 in
set_option maxHeartbeats 2000000 in
theorem follows_any (how : Int) (lv : Nat) (hlv : lv < 7) (a f : Fi) (w : World) : Calls Try.prog 57 #[.int .i64 how, .int .i64 lv, a.v, f.v] w fun e w' => e = .returned (.bool (folB how lv a f)) ∧ Below w.heap.size w w' := by
  unfold folB
  by_cases h0 : lv = 0
  · subst h0
    rw [if_pos rfl]
    go_enter Try.func57, Try.ntmps57
    go_wp2
    go_ret
    exact ⟨rfl, ((Below.refl _ _).alloc (Nat.le_refl _) _).alloc (by simp) _⟩
  · rw [if_neg h0]
    have hz : ((lv : Int) == 0) = false := by simp; omega
    have HO := fun w => cord_any how a.sm.u a.sm.s a.sm.k f.sm.u f.sm.s f.sm.k w
    have HC := fun w => ccmp_any how a.la.u f.sm.u w
    have HP := fun w => open_any a.la w
    generalize openB a.la = P at *
    show Calls _ _ _ _ fun e w' => e = .returned (.bool (decide (ordK how a.sm.u a.sm.s a.sm.k f.sm.u f.sm.s f.sm.k < 0) && _)) ∧ _
    generalize ordK how a.sm.u a.sm.s a.sm.k f.sm.u f.sm.s f.sm.k = O at *
    generalize cmpH how a.la.u f.sm.u = C at *
    clear h0
    by_cases hO : O < 0
    · have hd : decide (O < 0) = true := by simp [hO]
      rw [hd, Bool.true_and]
      by_cases hC : C < 0
      · have hd : decide (C < 0) = true := by simp [hC]
        rw [hd, Bool.true_or]
        go_enter Try.func57, Try.ntmps57
        go_wp2_with (first
          | (go_at_call 56; refine (HO _).mono ?_; rintro e w' ⟨rfl, rfl⟩)
          | (go_at_call 90; refine (HC _).mono ?_; rintro e w' ⟨rfl, rfl⟩))
        go_ret
        exact ⟨rfl, ((((Below.refl _ _).alloc (Nat.le_refl _) _).alloc (by simp) _).alloc (by simp; omega) _).alloc (by simp; omega) _⟩
      · have hd : decide (C < 0) = false := by simp [hC]
        rw [hd, Bool.false_or]
        by_cases hC0 : C = 0
        · subst hC0
          rw [show decide ((0 : Int) = 0) = true from rfl, Bool.true_and]
          go_enter Try.func57, Try.ntmps57
          go_wp2_with (first
            | (go_at_call 56; refine (HO _).mono ?_; rintro e w' ⟨rfl, rfl⟩)
            | (go_at_call 90; refine (HC _).mono ?_; rintro e w' ⟨rfl, rfl⟩)
            | (go_at_call 93; refine (HP _).mono ?_; rintro e w' ⟨rfl, rfl⟩))
          go_ret
          exact ⟨rfl, (((((Below.refl _ _).alloc (Nat.le_refl _) _).alloc (by simp) _).alloc (by simp; omega) _).alloc (by simp; omega) _).alloc (by simp; omega) _⟩
        · have hd : decide (C = 0) = false := by simp [hC0]
          have hd2 : (C == 0) = false := by simp [hC0]
          rw [hd, Bool.false_and]
          go_enter Try.func57, Try.ntmps57
          go_wp2_with (first
            | (go_at_call 56; refine (HO _).mono ?_; rintro e w' ⟨rfl, rfl⟩)
            | (go_at_call 90; refine (HC _).mono ?_; rintro e w' ⟨rfl, rfl⟩))
          go_ret
          exact ⟨rfl, ((((Below.refl _ _).alloc (Nat.le_refl _) _).alloc (by simp) _).alloc (by simp; omega) _).alloc (by simp; omega) _⟩
    · have hd : decide (O < 0) = false := by simp [hO]
      have hO' : 0 ≤ O := by omega
      rw [hd, Bool.false_and]
      go_enter Try.func57, Try.ntmps57
      go_wp2_with (go_at_call 56; refine (HO _).mono ?_; rintro e w' ⟨rfl, rfl⟩)
      go_ret
      exact ⟨rfl, ((((Below.refl _ _).alloc (Nat.le_refl _) _).alloc (by simp) _).alloc (by simp; omega) _).alloc (by simp; omega) _⟩
end Go.Proofs.Ytkmpcheamdadcaa
