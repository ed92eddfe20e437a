import Derived.Test.YtkpijoogaicodaaGq
import Derived.Sort.WalkA
namespace Go.Proofs.Ytkpijoogaicodaa
open Go.RowKit Go.Sort
set_option linter.unusedVariables false
set_option linter.unusedSimpArgs false
set_option maxRecDepth 100000 in
/-- No number of a kind of ints is 'not a number'. -/
theorem isnan_any (x : Int) (w : World) : Calls Try.prog 99 #[.int .u32 x] w fun e w' => e = .returned (.bool false) ∧ w' = w := by
  go_enter Try.func99, Try.ntmps99
  go_wp2
  go_ret
  exact ⟨rfl, rfl⟩
set_option maxRecDepth 100000 in
theorem less_any (x y : Int) (w : World) : Calls Try.prog 88 #[.int .u32 x, .int .u32 y] w fun e w' => e = .returned (.bool (ltInt x y)) ∧ w' = w := by
  go_enter Try.func88, Try.ntmps88
  go_wp2_with (go_at_call 99; refine (isnan_any x w).mono ?_; rintro e w' ⟨rfl, rfl⟩)
  go_ret
  exact ⟨rfl, rfl⟩
/-- The row of N families at a place reads d; but for it and the draws the world is w. -/
structure Rw (w : World) (blk off N : Nat) (d : Array Int) (wr : World) : Prop where
  size : d.size = N
  is : ∃ n, wr = putRow (Value.int .u32) (Sort.ahead w n) blk off d
section
variable {w wr : World} {blk off N : Nat} {d : Array Int}
theorem Rw.start (h : Holds (Value.int .u32) w blk off d) : Rw w blk off d.size d w := ⟨rfl, 0, (putRow_self _ _ _ _ _ h).symm⟩
theorem Rw.cell (r : Rw w blk off N d wr) {d0 : Array Int} (h : Holds (Value.int .u32) w blk off d0) (hN : d0.size = N) (t : Nat) (ht : t < N) : wr.cell? ⟨blk, off + t, none⟩ = some (.int .u32 d[t]!) := by
  obtain ⟨hs, n, rfl⟩ := r
  exact cell?_putRow _ _ _ _ d0 d (holds_ahead _ _ _ _ _ _ h) (by omega) t (by omega)
theorem Rw.froz (r : Rw w blk off N d wr) {d0 : Array Int} (h : Holds (Value.int .u32) w blk off d0) (hN : d0.size = N) (t : Nat) (ht : t < N) : wr.frozen? ⟨blk, off + t, none⟩ = false := by
  obtain ⟨hs, n, rfl⟩ := r
  rw [frozen?_putRow]
  exact ((holds_ahead _ _ n _ _ _ h) t (by omega)).2
theorem Rw.drawn (r : Rw w blk off N d wr) (q : Nat) : Rw w blk off N d (wr.drewN q) := by
  obtain ⟨hs, n, rfl⟩ := r
  exact ⟨hs, n + q, putRow_drewN _ _ _ _ _ _ _⟩
theorem Rw.swap (r : Rw w blk off N d wr) (q : Nat) {j k : Nat} (hj : j < N) (hk : k < N) :
    Rw w blk off N (swp d j k) (((wr.drewN q).setCell ⟨blk, off + j, none⟩ (.int .u32 d[k]!)).setCell ⟨blk, off + k, none⟩ (.int .u32 d[j]!)) := by
  obtain ⟨hs, n, rfl⟩ := r
  exact ⟨by rw [size_swp]; exact hs, n + q, swap_worldA (Value.int .u32) w n q blk off d j k (by omega) (by omega)⟩
end
end Go.Proofs.Ytkpijoogaicodaa
