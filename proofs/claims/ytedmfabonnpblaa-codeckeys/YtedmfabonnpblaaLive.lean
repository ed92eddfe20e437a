import Derived.Test.YtedmfabonnpblaaEnc
import Derived.Test.YtedmfabonnpblaaSum
import Derived.Test.YtedmfabonnpblaaMask
import Derived.Test.YtedmfabonnpblaaCmp
import Derived.WalkKit
import Derived.Lib.SlBytesConst
import Derived.WalkSpells
import Derived.WalkLawsBesides
namespace Go.Proofs.Ytedmfabonnpblaa
open Go.RowKit
set_option linter.unusedVariables false

theorem live_check : checkV ⟨#[97]⟩ 1 1 = 0 := by decide +kernel
theorem live_bytes : bstr (sb ⟨#[97]⟩ ++ (List.range 8).map (byteAt (1 * 256 + 1))) = ⟨#[97, 1, 1, 0, 0, 0, 0, 0, 0]⟩ := by decide +kernel
theorem live_sum : crcSum [49, 50, 51, 52, 53, 54, 55, 56, 57] = 3808858755 := by decide +kernel
theorem live_mask : maskV 0 = 2726488792 := by decide +kernel
theorem live_cmp : cmpH 0 ⟨#[97]⟩ ⟨#[98]⟩ = -1 := by decide +kernel

theorem live_cells (w : World) (fr : Nat × Nat) : ∀ i, i < [49, 50, 51, 52, 53, 54, 55, 56, 57].length → (w.alloc (.cells #[.int .u8 49, .int .u8 50, .int .u8 51, .int .u8 52, .int .u8 53, .int .u8 54, .int .u8 55, .int .u8 56, .int .u8 57] 5 fr)).cell? ⟨w.heap.size, 0 + i, none⟩ = some (.int .u8 ([49, 50, 51, 52, 53, 54, 55, 56, 57].getD i 0)) := by
  intro i hi
  rw [World.cell?_alloc_mark]
  simp at hi
  match i, hi with
  | 0, _ | 1, _ | 2, _ | 3, _ | 4, _ | 5, _ | 6, _ | 7, _ | 8, _ => rfl

set_option maxHeartbeats 1000000 in
theorem lives_any (w : World) :
    Calls Try.prog 19 #[] w fun e w' => e = .returned (.bool true) ∧ Below w.heap.size w w' := by
  have hid := fun (w : World) (C : Array Value) (n c : Nat) => Lib.run_convert_bytes_const (P := Try.prog) w 23 5 C n c Try.underlying23 Try.underlying5
  go_enter Try.func19, Try.ntmps19
  go_wp2_with (first
    | (go_at_call 26; refine (cencode_yes ⟨#[97]⟩ 1 1 _ live_check (by decide)).mono ?_; rintro e w1 ⟨v, rfl, hown, hbel⟩; have hstr := hown.run_string (P := Try.prog) 23 9 Try.underlying23 Try.underlying5 Try.underlying9; rw [live_bytes] at hstr; clear hown)
    | (go_at_call 20; refine (csum_any _ 0 9 [49, 50, 51, 52, 53, 54, 55, 56, 57] _ (by decide) (by decide) (live_cells _ _)).mono ?_; rw [live_sum]; rintro e w' ⟨rfl, rfl⟩)
    | (go_at_call 22; refine (cmask_any 0 _ (by decide) (by decide)).mono ?_; rw [live_mask]; rintro e w' ⟨rfl, rfl⟩)
    | (go_at_call 34; refine (ccmp_any 0 ⟨#[97]⟩ ⟨#[98]⟩ _).mono ?_; rw [live_cmp]; rintro e w' ⟨rfl, rfl⟩))
  go_ret
  exact ⟨rfl, hbel.alloc hbel.size _⟩
end Go.Proofs.Ytedmfabonnpblaa
