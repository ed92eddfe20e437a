import Derived.Test.YtkdjahgndkdnhaaWi
namespace Go.Proofs.Ytkdjahgndkdnhaa
open Go.RowKit Go.Maps Go.Shelf
set_option linter.unusedVariables false
set_option linter.unusedSimpArgs false
theorem elem30 : Try.prog.elem 30 = 3 := by kernel_rfl
theorem slc30 : Try.prog.underlying 30 = some (.slice (Try.prog.elem 30)) := by rw [elem30]; exact Try.underlying30
/-- Where a slice of ints begins behind its first m. -/
def cutI (g cap m : Nat) : Addr := if cap = m then ⟨g, 0, none⟩ else ⟨g, m, none⟩
theorem icut_lo (g n cap m : Nat) (h : m ≤ n) (W : World) : (Instr.sliceAt 30 (.slice (some ⟨g, 0, none⟩) n cap) (some (.int .i64 m)) none none).run Try.prog W = .ok (.slice (some (cutI g cap m)) (n - m) (cap - m)) W := by
  have hs : (sizeOf 3).run Try.prog W = .ok 1 W := by kernel_rfl
  have hr := run_slice_l (P := Try.prog) W 30 (some ⟨g, 0, none⟩) n cap slc30 .i64 (m : Int) (by omega) (by omega)
  rw [elem30, hs] at hr
  simp only [Result.andThen, sliced, Int.toNat_natCast] at hr
  rw [run_sliceAt_slice _ _ _ _ _ _ slc30, hr]
  unfold cutI
  split <;> simp [add_at]
theorem icut_hi (a : Option Addr) (n cap m : Nat) (h : m ≤ cap) (W : World) : (Instr.sliceAt 30 (.slice a n cap) none (some (.int .i64 m)) none).run Try.prog W = .ok (.slice a m cap) W := by
  have hs : (sizeOf 3).run Try.prog W = .ok 1 W := by kernel_rfl
  have hr := run_slice_h (P := Try.prog) W 30 a n cap slc30 .i64 (m : Int) (by omega) (by omega)
  rw [elem30, hs] at hr
  simp only [Result.andThen, sliced, Int.toNat_natCast] at hr
  rw [run_sliceAt_slice _ _ _ _ _ _ slc30, hr]
  cases a <;> simp [Addr.add]
/-- A row of ints is not longer than it can be. -/
theorem row_cap {w : World} {base : Nat} {e : TypeId} {a : Option Addr} {n cap : Nat} {xs : List Value} (h : w.ownsRow base e 1 (.slice a n cap) n xs) : n ≤ cap := by
  rcases h.2 with ⟨e, h0⟩ | ⟨g, cap', cur, e, _, _, hle, _⟩
  · omega
  · cases e; exact hle
/-- The rest of a row, as it is read where it was cut. -/
theorem cutI_cell {w : World} {g cap m : Nat} {l : List Int} (hc : ∀ (i : Nat) (x : Int), l[i]? = some x → w.cell? ⟨g, i, none⟩ = some (.int .i64 x)) (hcap : l.length ≤ cap) : ∀ (j : Nat) (y : Int), (l.drop m)[j]? = some y → w.cell? ((cutI g cap m).add j) = some (.int .i64 y) := by
  intro j y hy
  rw [List.getElem?_drop] at hy
  have := (List.getElem?_eq_some_iff.1 hy).1
  have e : cutI g cap m = ⟨g, m, none⟩ := by unfold cutI; rw [if_neg (by omega)]
  rw [e, add_at]
  exact hc _ y hy
end Go.Proofs.Ytkdjahgndkdnhaa
