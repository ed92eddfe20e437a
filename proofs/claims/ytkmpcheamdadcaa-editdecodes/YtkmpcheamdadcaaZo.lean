/-
  An edit is the same as itself.
-/
import Derived.Test.YtkmpcheamdadcaaZm
namespace Go.Proofs.Ytkmpcheamdadcaa
theorem sameB_self (e : Ed) : sameB e e = true := by
  unfold sameB
  rw [seq75_iff.2 ⟨rfl, rfl, rfl, rfl, rfl, rfl, rfl, rfl, rfl, rfl, rfl⟩, lgq_iff.2 rfl, laq_iff.2 rfl]
  rfl
/-- Two edits are the same where what plays a part is. -/
theorem sameB_iff {a b : Ed} : sameB a b = true ↔ plainE a = plainE b := by
  unfold sameB
  rw [Bool.and_eq_true, Bool.and_eq_true, seq75_iff, lgq_iff, laq_iff]
  constructor
  · rintro ⟨⟨h1, h2, h3, h4, h5, h6, h7, h8, h9, h10, h11⟩, h12, h13⟩
    have e1 : (plainE a).gone = (plainE b).gone := h12
    have e2 : (plainE a).added = (plainE b).added := h13
    generalize plainE a = p at *
    generalize plainE b = q at *
    cases p; cases q
    simp only at *
    subst h1 h2 h3 h4 h5 h6 h7 h8 h9 h10 h11 e1 e2
    rfl
  · intro h
    have h12 : a.gone = b.gone := by have : (plainE a).gone = (plainE b).gone := by rw [h]
                                     exact this
    have h13 : a.added = b.added := by have : (plainE a).added = (plainE b).added := by rw [h]
                                       exact this
    exact ⟨by rw [h]; exact ⟨rfl, rfl, rfl, rfl, rfl, rfl, rfl, rfl, rfl, rfl, rfl⟩, h12, h13⟩
end Go.Proofs.Ytkmpcheamdadcaa
