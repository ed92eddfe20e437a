import Derived.Test.YtkmpcheamdadcaaProg
import Derived.WalkKit
import Derived.WalkSpells
import Derived.WalkLawsBesides
namespace Go.Proofs.Ytkmpcheamdadcaa
open Go.RowKit
set_option linter.unusedVariables false

/-- The bytes of a number, the lowest first. -/
def byteAt (n : Int) (i : Nat) : Int := n / 2 ^ (8 * i) % 256
def fxA (s : Nat) (n : Int) (k : Nat) : Array Value := ((List.range s).map fun i => Value.int .u8 (if i < k then byteAt n i else 0)).toArray
theorem fxA_get (s : Nat) (n : Int) (k i : Nat) (h : i < s) : (fxA s n k)[i]? = some (.int .u8 (if i < k then byteAt n i else 0)) := by
  simp [fxA, h]
theorem fxA_size (s : Nat) (n : Int) (k : Nat) : (fxA s n k).size = s := by simp [fxA]
theorem fxA_set (s : Nat) (n : Int) (k : Nat) (h : k < s) (v : Int) (hv : v = byteAt n k) : (fxA s n k).setIfInBounds k (.int .u8 v) = fxA s n (k + 1) := by
  subst hv
  apply Array.ext_getElem?
  intro i
  rw [Array.getElem?_setIfInBounds]
  by_cases hik : k = i
  · subst hik; rw [if_pos rfl, if_pos (by rw [fxA_size]; exact h), fxA_get s n _ k h, if_pos (by omega)]
  · rw [if_neg hik]
    by_cases hi : i < s
    · rw [fxA_get s n _ i hi, fxA_get s n _ i hi]
      congr 2
      by_cases h1 : i < k
      · rw [if_pos h1, if_pos (by omega)]
      · rw [if_neg h1, if_neg (by omega)]
    · rw [Array.getElem?_eq_none (by rw [fxA_size]; omega), Array.getElem?_eq_none (by rw [fxA_size]; omega)]

set_option maxHeartbeats 400000 in
theorem fixed_any (s : Nat) (hs : s ≤ 8) (hmk : ∀ w, (Instr.makeSlice 28 (.int .i64 s) (.int .i64 s)).run Try.prog w = .ok (.slice (some ⟨w.heap.size, 0, none⟩) s s) (w.alloc (.cells (fxA s 0 0) 5))) (n : Int) (w : World) (h0 : 0 ≤ n) (h1 : n < 18446744073709551616) :
    Calls Try.prog 133 #[.int .u64 n, .int .i64 s] w fun e w' => e = .returned (.slice (some ⟨w.heap.size, 0, none⟩) s s) ∧ w' = w.alloc (.cells (fxA s n s) 5) := by
  have hz : fxA s 0 0 = fxA s n 0 := by simp [fxA]
  rw [hz] at hmk; clear hz
  go_enter Try.func133, Try.ntmps133
  go_wp2
  go_loopw [6, 10] (fun _ i wr => ∃ k : Nat, k ≤ s ∧ i = .int .i64 k ∧ wr = w.alloc (.cells (fxA s n k) 5)) (fun _ i _ => s - (intOf i).toNat)
  case atStart => exact ⟨0, Nat.zero_le _, rfl, rfl⟩
  case round =>
    obtain ⟨k, hk, rfl, rfl⟩ := hrel
    by_cases hlt : k < s
    · have hg := fxA_get s n k k hlt
      go_wp2
      go_roundw
      case rel =>
        refine ⟨k + 1, by omega, by go_num, ?_⟩
        rw [fxA_set s n k hlt (n / 2 ^ (8 * k) % 256) rfl]
      case measure => simp [intOf]; omega
    · obtain rfl : k = s := by omega
      go_wp2
      go_ret
      exact ⟨rfl, rfl⟩

theorem mk8 : ∀ w, (Instr.makeSlice 28 (.int .i64 8) (.int .i64 8)).run Try.prog w = .ok (.slice (some ⟨w.heap.size, 0, none⟩) 8 8) (w.alloc (.cells (fxA 8 0 0) 5)) := fun _ => by kernel_rfl
theorem mk4 : ∀ w, (Instr.makeSlice 28 (.int .i64 4) (.int .i64 4)).run Try.prog w = .ok (.slice (some ⟨w.heap.size, 0, none⟩) 4 4) (w.alloc (.cells (fxA 4 0 0) 5)) := fun _ => by kernel_rfl
theorem fixed8 (n : Int) (w : World) (h0 : 0 ≤ n) (h1 : n < 18446744073709551616) :
    Calls Try.prog 133 #[.int .u64 n, .int .i64 8] w fun e w' => e = .returned (.slice (some ⟨w.heap.size, 0, none⟩) 8 8) ∧ w' = w.alloc (.cells (fxA 8 n 8) 5) :=
  fixed_any 8 (Nat.le_refl _) mk8 n w h0 h1
theorem fixed4 (n : Int) (w : World) (h0 : 0 ≤ n) (h1 : n < 18446744073709551616) :
    Calls Try.prog 133 #[.int .u64 n, .int .i64 4] w fun e w' => e = .returned (.slice (some ⟨w.heap.size, 0, none⟩) 4 4) ∧ w' = w.alloc (.cells (fxA 4 n 4) 5) :=
  fixed_any 4 (by decide) mk4 n w h0 h1

set_option maxHeartbeats 400000 in
theorem cfixed64_any (n : Int) (w : World) (h0 : 0 ≤ n) (h1 : n < 18446744073709551616) :
    Calls Try.prog 123 #[.int .u64 n] w fun e w' => e = .returned (.slice (some ⟨w.heap.size, 0, none⟩) 8 8) ∧ w' = w.alloc (.cells (fxA 8 n 8) 5) := by
  go_enter Try.func123, Try.ntmps123
  go_wp2_with (go_at_call 133; refine (fixed8 n _ h0 h1).mono ?_; rintro e w' ⟨rfl, rfl⟩)
  go_ret
  exact ⟨rfl, rfl⟩
/-- Check's answer. -/
def checkV (u : ByteArray) (s k : Int) : Int := if 1024 < u.size then 2 else if 72057594037927935 < s ∨ k < 0 ∨ 2 < k then 1 else 0
theorem ret_ii {k : IntKind} {a b : Int} (h : a = b) : Ending.returned (.int k a) = .returned (.int k b) := by rw [h]

set_option maxHeartbeats 400000 in
theorem ccheck_any (u : ByteArray) (s k : Int) (w : World) :
    Calls Try.prog 89 #[.agg #[.string u, .int .u64 s, .int .i64 k]] w fun e w' => e = .returned (.int .i64 (checkV u s k)) ∧ w' = w.alloc (.cells #[.string u, .int .u64 s, .int .i64 k] 48) := by
  go_enter Try.func89, Try.ntmps89
  go_wp2
  all_goals (go_ret; exact ⟨ret_ii (by unfold checkV; split <;> (try split) <;> omega), rfl⟩)
set_option maxHeartbeats 400000 in
theorem rcheck_any (u : ByteArray) (s k : Int) (w : World) :
    Calls Try.prog 94 #[.agg #[.string u, .int .u64 s, .int .i64 k]] w fun e w' => e = .returned (.int .i64 (checkV u s k)) ∧ w' = w.alloc (.cells #[.string u, .int .u64 s, .int .i64 k] 48) := by
  go_enter Try.func94, Try.ntmps94
  go_wp2
  all_goals (go_ret; exact ⟨ret_ii (by unfold checkV; split <;> (try split) <;> omega), rfl⟩)
end Go.Proofs.Ytkmpcheamdadcaa
