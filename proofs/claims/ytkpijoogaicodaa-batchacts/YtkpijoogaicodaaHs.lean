/-
  The library's slices.Compact at uint32, laid in plain words.
-/
import Derived.Shelf.SlicesE.Compact
import Derived.Test.YtkpijoogaicodaaHq
import Derived.Test.YtkpijoogaicodaaHr
namespace Go.Proofs
open Go.Shelf
def Try.cmU_ren : Go.Shelf.Ren := ⟨fun | 43 => 68 | n => n, fun | 22 => 77 | 23 => 29 | n => n, fun n => n⟩
theorem Try.cmU : Go.Proofs.SlLaysE.n43 Try.prog Try.cmU_ren := {
  mixed := by kernel_rfl
  f43 := ⟨Try.f68.name, by decide, Try.func68.trans (congrArg some (by kernel_rfl))⟩
  t0 := Try.underlying0
  a0 := Try.isAgg0
  z0 := Try.sizeOf0
  v0 := Try.zeroValue0
  t3 := Try.underlying3
  a3 := Try.isAgg3
  z3 := Try.sizeOf3
  v3 := Try.zeroValue3
  t4 := Try.underlying4
  a4 := Try.isAgg4
  z4 := Try.sizeOf4
  v4 := Try.zeroValue4
  t22 := Try.underlying77
  a22 := Try.isAgg77
  z22 := Try.sizeOf77
  v22 := Try.zeroValue77
  a23 := Try.isAgg29
  z23 := Try.sizeOf29 }
namespace Ytkpijoogaicodaa
open Go.RowKit Go.Sort Go.Lib
theorem thin_row (blk off cap : Nat) (d : Array Int) (w : World) (h : Holds (Value.int .u32) w blk off d) (hsz : d.size < 65536) (hcap : d.size ≤ cap) :
    Calls Try.prog 68 #[.slice (some ⟨blk, off, none⟩) d.size cap] w fun e w' => e = .returned (.slice (some ⟨blk, off, none⟩) (compactUpTo d d.size).length cap) ∧ Rw w blk off d.size (compactUpTo d d.size ++ List.replicate (d.size - (compactUpTo d d.size).length) 0).toArray w' := by
  refine (AnyE.slices_Compact Try.cmU (Value.int .u32) (fun _ => rfl) (EqlAt.intD _ _ .u32) (NeqAt.intD _ _ .u32) 0 Try.zeroValue29 blk off cap d w h (by omega) hcap).mono fun e w' hh => ⟨hh.1, ?_, hh.2⟩
  have : (compactUpTo d d.size).length ≤ d.size := by
    unfold compactUpTo
    rw [List.length_map]
    exact Nat.le_trans (List.length_filter_le _ _) (by simp)
  simp; omega
set_option maxRecDepth 100000 in
theorem thin_nil (w : World) : Calls Try.prog 68 #[.slice none 0 0] w fun e w' => e = .returned (.slice none 0 0) ∧ w' = w := by
  go_enter Try.func68, Try.ntmps68
  go_wp2
  go_ret
  exact ⟨rfl, rfl⟩
end Ytkpijoogaicodaa
end Go.Proofs
