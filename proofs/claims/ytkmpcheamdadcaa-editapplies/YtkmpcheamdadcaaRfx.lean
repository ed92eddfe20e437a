import Derived.Test.YtkmpcheamdadcaaRf
import Derived.WalkKit
import Derived.WalkSpells
import Derived.WalkLawsBesides
namespace Go.Proofs.Ytkmpcheamdadcaa
open Go.RowKit
set_option linter.unusedVariables false
set_option linter.unusedSimpArgs false

theorem byts_snoc (k : Nat) (n : Int) : byts (k + 1) n = byts k n ++ [byteAt n k] := by simp [byts, List.range_succ]
theorem src_one (W : World) (x : Int) : Src Try.prog 1 28 (.slice (some ⟨W.heap.size, 0, none⟩) 1 1) [x].length (bc [x]) (W.alloc (.cells #[.int .u8 x] 5)) := by
  refine Src.ofSlice _ Try.underlying28 ⟨W.heap.size, 0, none⟩ 1 1 (bc [x]) rfl ?_ (bc_one _)
  intro j u hu
  obtain ⟨hj, rfl⟩ := bc_get [x] j u hu
  have : j = 0 := by simp at hj; omega
  subst this
  exact World.cell?_alloc_new W #[.int .u8 x] 5 0
theorem below_push {w W w1 : World} {v : Value} {o : Obj} {l : List Int} (hown : OwnB W w.heap.size v l) (hbel : Below w.heap.size w W) (hg : (W.alloc o).grownBy w1 v.ownBlock) : Below w.heap.size w w1 :=
  (hbel.alloc hbel.size o).grown hg (by have := hbel.size; simp; omega) (fun k hk => (hown.lt k hk).1)

set_option maxHeartbeats 1000000 in
theorem rfixed_any (s : Nat) (hs : s ≤ 8) (n : Int) (w : World) (h0 : 0 ≤ n) (h1 : n < 18446744073709551616) :
    Calls Try.prog 98 #[.int .u64 n, .int .i64 s] w fun e w' => ∃ v, e = .returned v ∧ OwnB w' w.heap.size v (byts s n) ∧ Below w.heap.size w w' := by
  obtain ⟨i0, hi, hz0, hz1, hz2⟩ := info_parts info5
  go_enter Try.func98, Try.ntmps98
  go_wp2
  go_loopw [5, 6] (fun v i wr => ∃ k : Nat, k ≤ s ∧ i = .int .i64 k ∧ OwnB wr w.heap.size v (byts k n) ∧ Below w.heap.size w wr) (fun _ i _ => s - (intOf i).toNat)
  case atStart => exact ⟨0, Nat.zero_le _, rfl, own_empty w, (Below.refl _ _).alloc (Nat.le_refl _) _⟩
  case round =>
    obtain ⟨k, hk, rfl, hown, hbel⟩ := hrel
    by_cases hlt : k < s
    · have hb2 : w.heap.size ≤ wr.heap.size + 1 := by have := hbel.size; omega
      have HB : Hid ((byts k n).length + [byteAt n k].length ≤ 140737488355328) := by show _ ≤ _; rw [byts_len]; simp; omega
      go_wp2_with (at_builtin; refine OwnB.wpList_append rfl _ _ 28 28 rfl rfl (base := w.heap.size) (l := byts k n) (hown.alloc _) i0 Try.underlying28 hi hz0 hz1 hz2 _ rfl [byteAt n k] (src_one _ _) (by simpa using hb2) HB.out ?_; intro v' w1 hown' hgrow hat)
      go_roundw
      case rel => exact ⟨k + 1, by omega, by go_num, by rw [byts_snoc]; exact hown', below_push hown hbel hgrow⟩
      case measure => simp [intOf]; omega
    · obtain rfl : k = s := by omega
      go_wp2
      go_ret
      exact ⟨_, rfl, hown, hbel⟩
end Go.Proofs.Ytkmpcheamdadcaa
