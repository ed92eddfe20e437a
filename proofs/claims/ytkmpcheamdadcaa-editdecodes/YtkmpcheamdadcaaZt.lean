/-
  The reference's Same at any two edits.
-/
import Derived.Test.YtkmpcheamdadcaaZp
import Derived.Test.YtkmpcheamdadcaaZq
import Derived.Test.YtkmpcheamdadcaaZr
import Derived.Test.YtkmpcheamdadcaaZu
import Derived.Test.YtkmpcheamdadcaaZv
import Derived.Test.YtkmpcheamdadcaaZs
namespace Go.Proofs.Ytkmpcheamdadcaa
open Go.RowKit
set_option linter.unusedVariables false
set_option linter.unusedSimpArgs false
theorem rsame_any {w : World} {P1 P2 : En} {e f : Ed} (h1 : RdEd w P1 e) (h2 : RdEd w P2 f) : Calls Try.prog 13 #[.agg (edA P1 e), .agg (edA P2 f)] w fun en w' => en = .returned (.bool (sameB e f)) ∧ Below w.heap.size w w' := by
  by_cases g0 : (plainE e).fam = (plainE f).fam ∧ (plainE e).ma = (plainE f).ma
  case neg =>
    have hs : sameB e f = false := by
      apply Bool.eq_false_iff.2
      intro h
      rw [sameB_iff] at h
      exact g0 ⟨by rw [h], by rw [h]⟩
    rw [hs]
    exact rsame_a h1 h2 (show Hid _ from g0)
  by_cases g2 : (plainE e).dr = (plainE f).dr ∧ (plainE e).name = (plainE f).name
  case neg =>
    have hs : sameB e f = false := by
      apply Bool.eq_false_iff.2
      intro h
      rw [sameB_iff] at h
      exact g2 ⟨by rw [h], by rw [h]⟩
    rw [hs]
    exact rsame_b h1 h2 (show Hid _ from ⟨g0.1, g0.2, g2⟩)
  by_cases g4 : (plainE e).how = (plainE f).how ∧ (plainE e).hl = (plainE f).hl
  case neg =>
    have hs : sameB e f = false := by
      apply Bool.eq_false_iff.2
      intro h
      rw [sameB_iff] at h
      exact g4 ⟨by rw [h], by rw [h]⟩
    rw [hs]
    exact rsame_c h1 h2 (show Hid _ from ⟨g0.1, g0.2, g2.1, g2.2, g4⟩)
  by_cases g6 : (plainE e).hn = (plainE f).hn ∧ (plainE e).hs = (plainE f).hs
  case neg =>
    have hs : sameB e f = false := by
      apply Bool.eq_false_iff.2
      intro h
      rw [sameB_iff] at h
      exact g6 ⟨by rw [h], by rw [h]⟩
    rw [hs]
    exact rsame_e h1 h2 (show Hid _ from ⟨g0.1, g0.2, g2.1, g2.2, g4.1, g4.2, g6⟩)
  by_cases g8 : (plainE e).log = (plainE f).log ∧ (plainE e).next = (plainE f).next ∧ (plainE e).seq = (plainE f).seq
  case neg =>
    have hs : sameB e f = false := by
      apply Bool.eq_false_iff.2
      intro h
      rw [sameB_iff] at h
      exact g8 ⟨by rw [h], by rw [h], by rw [h]⟩
    rw [hs]
    exact rsame_f h1 h2 (show Hid _ from ⟨g0.1, g0.2, g2.1, g2.2, g4.1, g4.2, g6.1, g6.2, g8⟩)
  have hs : sameB e f = (lgq e.gone f.gone && laq e.added f.added) := by
    unfold sameB
    rw [seq75_iff.2 ⟨g0.1, g0.2, g2.1, g2.2, g4.1, g4.2, g6.1, g6.2, g8.1, g8.2.1, g8.2.2⟩, Bool.true_and]
  rw [hs]
  exact rsame_d h1 h2 (show Hid _ from ⟨g0.1, g0.2, g2.1, g2.2, g4.1, g4.2, g6.1, g6.2, g8.1, g8.2.1, g8.2.2, rfl⟩)
end Go.Proofs.Ytkmpcheamdadcaa
