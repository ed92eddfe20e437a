import Derived.Test.YtkpijoogaicodaaLi
import Derived.BigRegion
namespace Go.Proofs.Ytkpijoogaicodaa
open Go.RowKit
set_option linter.unusedVariables false
set_option linter.unusedSimpArgs false

def apE (rs os : List Rec) : Int := if 4096 < rs.length + os.length ∨ 4194304 < 12 + szs rs + szs os then 2 else 0
def apL (rs os : List Rec) : List Rec := if apE rs os = 0 then rs ++ os else rs
theorem Good.append {rs : List Rec} (h : Good rs) (os : List Rec) : Good (apL rs os) := by
  unfold apL
  split
  · rename_i he
    unfold apE at he
    split at he
    · simp at he
    · refine ⟨by simp; omega, ?_⟩
      rw [szs_app]; omega
  · exact h
def ApPost (w : World) (b : Nat) (rv mv : Value) (rs os : List Rec) (ms : List Nat) : Ending → World → Prop := fun e w' => ∃ rv', e = .returned (.int .i64 (apE rs os)) ∧ Bt w' b rv' mv (apL rs os) ms ∧ Upd (Of b rv) w w' ∧ (rv'.ownBlock = rv.ownBlock ∨ ∀ j, rv'.ownBlock = some j → w.heap.size ≤ j)
theorem join_any {w W : World} {b : Nat} {rv mv sv : Value} {rs l : List Rec} {ms : List Nat} (h : Bt w b rv mv rs ms) (hg : Good rs) (hg2 : Good l) (hb : Below w.heap.size w W) (hs : RdR W sv l) :
    Calls Try.prog 53 #[ptr b, .int .i64 (szs l), sv] W (ApPost w b rv mv rs l ms) := by
  have h1 := hg.len
  have h2 := hg.size
  have h3 := hg2.len
  have h4 := hg2.size
  by_cases hc : 4096 < rs.length + l.length ∨ 4194304 < 12 + szs rs + szs l
  · have he : apE rs l = 2 := by unfold apE; rw [if_pos hc]
    have hl : apL rs l = rs := by unfold apL; rw [if_neg (by rw [he]; decide)]
    refine (join_full h hb hs (szs l) rfl (by omega) (by omega) (by omega) (by omega) hc).mono ?_
    rintro e w' ⟨rfl, rfl⟩
    exact ⟨rv, by rw [he], by rw [hl]; exact h.below hb, Upd.ofBelow hb, .inl rfl⟩
  · have he : apE rs l = 0 := by unfold apE; rw [if_neg hc]
    have hl : apL rs l = rs ++ l := by unfold apL; rw [if_pos he]
    refine (join_behind h hb hs (szs l) rfl (by omega) (by omega)).mono ?_
    rintro e w' ⟨rv', rfl, g1, g2, _, g3⟩
    exact ⟨rv', by rw [he], by rw [hl]; exact g1, g2, g3⟩

set_option maxRecDepth 100000 in
set_option maxHeartbeats 1000000 in
theorem append_any {w : World} {b o : Nat} {rv mv rv2 mv2 : Value} {rs os : List Rec} {ms ns : List Nat} (h : Bt w b rv mv rs ms) (h2 : Bt w o rv2 mv2 os ns) (hg : Good rs) (hg2 : Good os) :
    Calls Try.prog 25 #[ptr b, ptr o] w (ApPost w b rv mv rs os ms) := by
  have c0 := h2.blk.cell1 0 _ rfl
  have c1 := h2.blk.cell1 1 _ rfl
  have hrd := row_rd h2.row
  have HJ := fun W (hb : Below w.heap.size w W) => join_any h hg hg2 hb (hrd.below hb)
  obtain ⟨a, c, rfl⟩ := hrd.len
  go_enter Try.func25, Try.ntmps25
  go_wp2
  go_region_with ((go_at_call 53; refine (HJ _ ((Below.refl _ _).drew)).mono ?_; rintro e w' ⟨rv', rfl, g1, g2, g3⟩))
  all_goals
    go_wp2
    go_ret
    exact ⟨rv', rfl, g1, g2, g3⟩
set_option maxRecDepth 100000 in
set_option maxHeartbeats 1000000 in
theorem append_nil (b : Nat) (w : World) : Calls Try.prog 25 #[ptr b, .pointer none] w fun e w' => e = .returned (.int .i64 1) ∧ w' = w := by
  go_enter Try.func25, Try.ntmps25
  go_wp2
  go_ret
  exact ⟨rfl, rfl⟩
end Go.Proofs.Ytkpijoogaicodaa
