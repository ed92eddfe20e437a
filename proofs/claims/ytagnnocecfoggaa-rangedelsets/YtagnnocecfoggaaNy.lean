/-
  Covers: the program's and the reference's.
-/
import Derived.Test.YtagnnocecfoggaaNx
import Derived.Test.YtagnnocecfoggaaQc
import Derived.Deep.RegionHeldLaw
namespace Go.Proofs.Ytagnnocecfoggaa
open Go.RowKit
set_option linter.unusedVariables false
set_option linter.unusedSimpArgs false
theorem keep2d {w w' : World} (hb : Below w.heap.size w w') {a b a' b' : Nat} {v0 v1 : Value} (h : w.cell? ⟨a, a', none⟩ = some v0 ∧ w.cell? ⟨b, b', none⟩ = some v1) : w'.cell? ⟨a, a', none⟩ = some v0 ∧ w'.cell? ⟨b, b', none⟩ = some v1 := ⟨cell_below hb h.1, cell_below hb h.2⟩
set_option maxRecDepth 100000 in
set_option maxHeartbeats 1000000 in
theorem Covers_any {w : World} {S : Nat} {how : Int} {a : Option Addr} {c : Nat} {L : List Fg} (h : St w S how a c L) (hg : FrG how L) (u : ByteArray) (s kd n : Int) :
    Calls Try.prog 20 #[ptr S, .agg #[.string u, .int .u64 s, .int .i64 kd], .int .u64 n] w fun r w' => r = .returned (.bool (decide (s < mostF how L u n))) ∧ Below w.heap.size w w' := by
  obtain ⟨W0, hW0⟩ : ∃ W0, W0 = w.alloc (.cells #[.string u, .int .u64 s, .int .i64 kd] 40) := ⟨_, rfl⟩
  have b0 : Below w.heap.size w W0 := by rw [hW0]; exact (Below.refl _ _).alloc (Nat.le_refl _) _
  have hX : Blk W0 w.heap.size 40 [.string u, .int .u64 s, .int .i64 kd] := by rw [hW0]; exact Blk.new w 40 _
  have x0 := hX.cell1 0 _ rfl
  have x1 := hX.cell1 1 _ rfl
  have HM : Hid (Calls Try.prog 18 #[ptr S, .string u, .int .u64 n] W0.drew fun e w' => e = .returned (.int .u64 (mostF how L u n)) ∧ Below W0.drew.heap.size W0.drew w') := Most_any (h.below b0.drew) hg u n
  have HB0 : Hid (Below w.heap.size w W0) := b0
  generalize mostF how L u n = R at *
  clear h hg b0 hX
  go_enter Try.func20, Try.ntmps20
  go_upto_region 1 with fail
  rw [← hW0]
  clear hW0
  go_region_held_law (fun w' => w'.cell? ⟨w.heap.size, 0, none⟩ = some (.string u) ∧ w'.cell? ⟨w.heap.size, 1, none⟩ = some (.int .u64 s))
    (first | (go_keep; done) | exact keep2d hb3 ‹_›)
    ((go_at_call 18; refine HM.out.mono ?_; rintro e w4 ⟨rfl, hb3⟩))
  have HB4 : Hid (Below w.heap.size w w4) := HB0.out.drew.trans (hb3.mono HB0.out.drew.size)
  clear hb3
  go_wp2_with fail
  go_ret
  exact ⟨rfl, HB4.out⟩
end Go.Proofs.Ytagnnocecfoggaa
