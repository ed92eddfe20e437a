/-
  The sort at uint32: slices.Sort.
-/
import Derived.Test.YtkpijoogaicodaaHp
namespace Go.Proofs.Ytkpijoogaicodaa
open Go.RowKit Go.Sort
set_option linter.unusedVariables false
set_option linter.unusedSimpArgs false
set_option maxRecDepth 100000 in
set_option maxHeartbeats 2000000 in
theorem sort_row (blk off cap : Nat) (d : Array Int) (w : World) (h : Holds (Value.int .u32) w blk off d) (hblk : blk < w.heap.size) (hsz : d.size < 65536) :
    Calls Try.prog 67 #[.slice (some ⟨blk, off, none⟩) d.size cap] w fun e w' => e = .returned (.tuple #[]) ∧ Gw w blk off d.size (Sort.sort ltInt d) w' := by
  have hp : Hid (∀ W, W = w → Calls Try.prog 78 #[.slice (some ⟨blk, off, none⟩) d.size cap, .int .i64 (0 : Int), .int .i64 d.size, .int .i64 (Sort.bitsLen d.size)] W fun e w' => e = .returned (.tuple #[]) ∧ Gw w blk off d.size (Sort.sort ltInt d) w') := fun W e => by
    subst e
    exact pdq_any (d.size + 1) blk off cap 0 d.size (Sort.bitsLen d.size) d W (by omega) h hblk (by omega) (by omega) hsz (by have := bitsLen_le d.size hsz; omega) (.inl rfl)
  have hl : Hid (∀ W, Calls Try.prog 79 #[.int .u64 d.size] W fun e w' => e = .returned (.int .i64 (Sort.bitsLen d.size)) ∧ w' = W) := fun W => blen_any d.size W hsz
  obtain ⟨D, hD⟩ : ∃ D, Sort.sort ltInt d = D := ⟨_, rfl⟩
  rw [hD] at hp ⊢
  clear hD
  generalize Sort.bitsLen d.size = B at *
  generalize d.size = N at *
  clear h
  go_enter Try.func67, Try.ntmps67
  go_wp2_with (first
    | (go_at_call 78; refine (hp.out _ rfl).mono ?_; rintro e w4 ⟨rfl, hw4⟩)
    | (go_at_call 79; refine (hl.out _).mono ?_; rintro e w3 ⟨rfl, hw3⟩; have hw5 := hw3.symm; subst hw5; clear hw3))
  go_end0
  exact ⟨rfl, hw4⟩
set_option maxRecDepth 100000 in
set_option maxHeartbeats 2000000 in
theorem ins_nil (w : World) : Calls Try.prog 82 #[.slice none 0 0, .int .i64 0, .int .i64 0] w fun e w' => e = .returned (.tuple #[]) ∧ w' = w := by
  go_enter Try.func82, Try.ntmps82
  go_wp2
  go_loopw [6] (fun vi wr => vi = .int .i64 1 ∧ wr = w) (fun _ _ => 0)
  case atStart => exact ⟨rfl, rfl⟩
  case round =>
    obtain ⟨rfl, rfl⟩ := hrel
    go_wp2
    go_end0
    exact ⟨rfl, rfl⟩
set_option maxRecDepth 100000 in
set_option maxHeartbeats 2000000 in
theorem pdq_nil (B : Nat) (hB : B < 65536) (w : World) : Calls Try.prog 78 #[.slice none 0 0, .int .i64 0, .int .i64 0, .int .i64 B] w fun e w' => e = .returned (.tuple #[]) ∧ w' = w := by
  go_enter Try.func78, Try.ntmps78
  go_wp2
  go_loopg [1, 2, 3, 8, 9] 0 (fun k s1 s2 s3 s8 s9 wr => s1 = .int .i64 0 ∧ s2 = .int .i64 0 ∧ s3 = .int .i64 B ∧ s8 = .bool true ∧ s9 = .bool true ∧ wr = w)
  case atStart => exact ⟨rfl, rfl, rfl, rfl, rfl, rfl⟩
  case round =>
    obtain ⟨rfl, rfl, rfl, rfl, rfl, rfl⟩ := hrel
    go_wp2_with (go_at_call 82; refine (ins_nil _).mono ?_; rintro e w1 ⟨rfl, rfl⟩)
    (try simp only [Exit.inBlock, Exit.then]); refine bodyPost_ret (results_none rfl _ _ _) rfl ?_
    exact ⟨rfl, rfl⟩
set_option maxRecDepth 100000 in
set_option maxHeartbeats 2000000 in
theorem sort_nil (w : World) : Calls Try.prog 67 #[.slice none 0 0] w fun e w' => e = .returned (.tuple #[]) ∧ w' = w := by
  have hl : Hid (∀ W, Calls Try.prog 79 #[.int .u64 (0 : Int)] W fun e w' => e = .returned (.int .i64 ((0 : Nat) : Int)) ∧ w' = W) := fun W => blen_any 0 W (by omega)
  go_enter Try.func67, Try.ntmps67
  go_wp2_with (first
    | (go_at_call 78; refine (pdq_nil 0 (by omega) _).mono ?_; rintro e w4 ⟨rfl, hw4⟩; have hw5 := hw4.symm; subst hw5; clear hw4)
    | (go_at_call 79; refine (hl.out _).mono ?_; rintro e w3 ⟨rfl, hw3⟩; have hw5 := hw3.symm; subst hw5; clear hw3))
  go_end0
  exact ⟨rfl, rfl⟩
theorem sort_merge (zs : List Int) : Sort.sort ltInt zs.toArray = (zs.mergeSort fun x y => decide (x ≤ y)).toArray := by
  rw [← sortInt zs]
end Go.Proofs.Ytkpijoogaicodaa
