import Derived.Test.YtkpijoogaicodaaCa
import Derived.WalkKit
import Derived.WalkSpells
import Derived.WalkLawsBesides
import Derived.Deep.QuietTactic
import Derived.BigQuiet
namespace Go.Proofs.Ytkpijoogaicodaa
open Go.RowKit
set_option linter.unusedVariables false
set_option linter.unusedSimpArgs false

/-- A record. -/
structure Rec where
  fam : Int
  kind : Int
  key : ByteArray
  val : ByteArray
def Rec.c (r : Rec) : List Value := [.int .u32 r.fam, .int .i64 r.kind, .string r.key, .string r.val]
def mostV (k : Int) : Int := if k = 2 then 1024 else 16384
/-- Check's answer. -/
def chk (k : Int) (key val : ByteArray) : Int := if k < 0 ∨ 2 < k then 1 else if 1024 < (key.size : Int) then 2 else if k ≠ 0 ∧ mostV k < (val.size : Int) then 2 else 0

set_option maxRecDepth 100000 in
set_option maxHeartbeats 400000 in
theorem hasValue_any (k : Int) (w : World) : Calls Try.prog 36 #[.int .i64 k] w fun e w' => e = .returned (.bool (k != 0)) ∧ w' = w := by
  go_enter Try.func36, Try.ntmps36
  go_wp2
  go_ret
  exact ⟨rfl, rfl⟩
theorem ret_b {a b : Bool} (h : a = b) : Ending.returned (.bool a) = .returned (.bool b) := by rw [h]
set_option maxRecDepth 100000 in
set_option maxHeartbeats 400000 in
theorem isKind_any (k : Int) (w : World) : Calls Try.prog 35 #[.int .i64 k] w fun e w' => e = .returned (.bool (decide (0 ≤ k ∧ k ≤ 2))) ∧ w' = w := by
  go_enter Try.func35, Try.ntmps35
  go_wp2
  all_goals (go_ret; exact ⟨ret_b (by rw [Bool.eq_iff_iff]; simp; omega), rfl⟩)
set_option maxRecDepth 100000 in
set_option maxHeartbeats 400000 in
theorem mostValue_any (k : Int) (w : World) : Calls Try.prog 37 #[.int .i64 k] w fun e w' => e = .returned (.int .i64 (mostV k)) ∧ w' = w := by
  go_enter Try.func37, Try.ntmps37
  go_wp2
  all_goals (go_ret; exact ⟨ret_ii (by unfold mostV; split <;> simp_all), rfl⟩)

theorem belN {n : Nat} {a w : World} (h : Below n a w) (k : Nat) : Below n a (w.drewN k) := ⟨h.os, h.tape, h.output, h.size, h.block⟩
theorem hasValue_no {k : Int} (h : k = 0) (w : World) : Calls Try.prog 36 #[.int .i64 k] w fun e w' => e = .returned (.bool false) ∧ w' = w := by
  have := hasValue_any k w; rw [show (k != 0) = false by simp [h]] at this; exact this
theorem hasValue_yes {k : Int} (h : ¬ k = 0) (w : World) : Calls Try.prog 36 #[.int .i64 k] w fun e w' => e = .returned (.bool true) ∧ w' = w := by
  have := hasValue_any k w; rw [show (k != 0) = true by simp [h]] at this; exact this
theorem isKind_no {k : Int} (h : ¬ (0 ≤ k ∧ k ≤ 2)) (w : World) : Calls Try.prog 35 #[.int .i64 k] w fun e w' => e = .returned (.bool false) ∧ w' = w := by
  have := isKind_any k w; rw [show decide (0 ≤ k ∧ k ≤ 2) = false by simpa using h] at this; exact this
theorem isKind_yes {k : Int} (h : 0 ≤ k ∧ k ≤ 2) (w : World) : Calls Try.prog 35 #[.int .i64 k] w fun e w' => e = .returned (.bool true) ∧ w' = w := by
  have := isKind_any k w; rw [show decide (0 ≤ k ∧ k ≤ 2) = true by simpa using h] at this; exact this
abbrev recV (f k : Int) (key val : ByteArray) : Value := .agg #[.int .u32 f, .int .i64 k, .string key, .string val]
set_option maxRecDepth 100000 in
set_option maxHeartbeats 800000 in
theorem check_any (f k : Int) (key val : ByteArray) (w : World) :
    Calls Try.prog 10 #[recV f k key val] w fun e w' => e = .returned (.int .i64 (chk k key val)) ∧ Below w.heap.size w w' := by
  by_cases h1 : 0 ≤ k ∧ k ≤ 2
  · have H1 := isKind_yes h1
    have HN : ¬ (k < 0 ∨ 2 < k) := by omega
    clear h1
    by_cases h2 : 1024 < (key.size : Int)
    · have e : chk k key val = 2 := by unfold chk; rw [if_neg HN, if_pos h2]
      rw [e]; clear e HN
      go_enter Try.func10, Try.ntmps10
      go_wp2_with (go_at_call 35; refine (H1 _).mono ?_; rintro e w' ⟨rfl, rfl⟩)
      go_ret
      exact ⟨rfl, (Below.refl _ _).alloc (Nat.le_refl _) _⟩
    · by_cases h3 : k = 0
      · have e : chk k key val = 0 := by unfold chk; rw [if_neg HN, if_neg h2, if_neg (by simp [h3])]
        rw [e]; clear e HN
        have H2 := hasValue_no h3
        clear h3
        go_enter Try.func10, Try.ntmps10
        go_wp2_with (go_at_call 35; refine (H1 _).mono ?_; rintro e w' ⟨rfl, rfl⟩)
        go_quiet ((go_at_call 36; exact Calls.quiet_of_same (H2 _)))
        go_wp2; go_ret; exact ⟨rfl, belN ((Below.refl _ _).alloc (Nat.le_refl _) _) _⟩
      · have H2 := hasValue_yes h3
        by_cases h4 : mostV k < (val.size : Int)
        · have e : chk k key val = 2 := by unfold chk; rw [if_neg HN, if_neg h2, if_pos ⟨h3, h4⟩]
          rw [e]; clear e h3 HN
          go_enter Try.func10, Try.ntmps10
          go_wp2_with (go_at_call 35; refine (H1 _).mono ?_; rintro e w' ⟨rfl, rfl⟩)
          go_quiet (first | (go_at_call 36; exact Calls.quiet_of_same (H2 _)) | (go_at_call 37; exact Calls.quiet_of_same (mostValue_any k _)))
          go_wp2; go_ret; exact ⟨rfl, belN ((Below.refl _ _).alloc (Nat.le_refl _) _) _⟩
        · have e : chk k key val = 0 := by unfold chk; rw [if_neg HN, if_neg h2, if_neg (fun hh => h4 hh.2)]
          rw [e]; clear e h3 HN
          go_enter Try.func10, Try.ntmps10
          go_wp2_with (go_at_call 35; refine (H1 _).mono ?_; rintro e w' ⟨rfl, rfl⟩)
          go_quiet (first | (go_at_call 36; exact Calls.quiet_of_same (H2 _)) | (go_at_call 37; exact Calls.quiet_of_same (mostValue_any k _)))
          go_wp2; go_ret; exact ⟨rfl, belN ((Below.refl _ _).alloc (Nat.le_refl _) _) _⟩
  · have H1 := isKind_no h1
    have e : chk k key val = 1 := by unfold chk; rw [if_pos (by omega)]
    rw [e]; clear e h1
    go_enter Try.func10, Try.ntmps10
    go_wp2_with (go_at_call 35; refine (H1 _).mono ?_; rintro e w' ⟨rfl, rfl⟩)
    go_ret
    exact ⟨rfl, (Below.refl _ _).alloc (Nat.le_refl _) _⟩
end Go.Proofs.Ytkpijoogaicodaa
