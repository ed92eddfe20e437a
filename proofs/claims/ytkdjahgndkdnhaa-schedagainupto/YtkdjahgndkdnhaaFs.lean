import Derived.Test.YtkdjahgndkdnhaaY
import Derived.Test.YtkdjahgndkdnhaaFr
import Derived.Deep.Matrix
namespace Go.Proofs.Ytkdjahgndkdnhaa
open Go.RowKit
set_option linter.unusedVariables false
theorem spot_at {W : World} {x : Addr} {v : Value} (h : W.cell? (x.add 0) = some v) : ∃ b off, x = ⟨b, off, none⟩ ∧ b < W.heap.size := by
  obtain ⟨b, off, spot⟩ := x
  have hspot : spot = none := by simpa [Addr.add] using World.cell?_spot h
  subst hspot
  have hlt := World.block_lt_of_cell? W _ h
  rw [add_at] at hlt
  exact ⟨b, off, rfl, hlt⟩
/-- A row of bytes as the form reads it. -/
theorem argW_open {W : World} {A : Option Addr} {len cap : Nat} {zs : List Int} (hl : len ≤ cap) (hm : cap ≤ maxLen) (hz : zs.length = cap) (h0 : A = none → cap = 0) (hcell : ∀ a', A = some a' → ∀ i, i < cap → W.cell? (a'.add i) = some (.int .u8 (zs.getD i 0)))
    (hwz : ∀ n ∈ zs, (Lit.int .u8 n).wf = true) : ArgW W A len cap (zs.take len) := by
  refine ⟨by simp; omega, fun n hn => ?_, by unfold maxLen at hm; omega, ?_⟩
  · have h := hwz n (List.mem_of_mem_take hn)
    simp [Lit.wf, IntKind.min, IntKind.max, IntKind.signed, IntKind.bits] at h
    omega
  · by_cases hz0 : len = 0
    · left; subst hz0; simp
    · right
      cases A with
      | none => have := h0 rfl; omega
      | some x =>
        obtain ⟨b, off, rfl, hlt⟩ := spot_at (hcell x rfl 0 (by omega))
        refine ⟨b, off, rfl, hlt, fun j hj => ?_⟩
        have hj' : j < len := by simp at hj; omega
        have := hcell _ rfl j (by omega)
        rw [add_at] at this
        rw [this, List.getD_eq_getElem?_getD, List.getElem?_eq_getElem (by omega)]
        simp
/-- Slices of bytes as the form reads them. -/
theorem argS_open {W : World} {a : Addr} {len cap : Nat} {A : Nat → Option Addr} {L C : Nat → Nat} {Z : Nat → List Int} (hl : len ≤ cap) (hb : len ≤ 140737488351232)
    (hr : ∀ r, r < cap → W.cell? (a.add r) = some (.slice (A r) (L r) (C r)) ∧ L r ≤ C r ∧ C r ≤ maxLen ∧ (Z r).length = C r ∧ (∀ n ∈ Z r, (Lit.int .u8 n).wf = true) ∧ (A r = none → C r = 0) ∧ ∀ a', A r = some a' → 0 ≤ a'.block ∧ ∀ c, c < C r → W.cell? (a'.add c) = some (.int .u8 ((Z r).getD c 0))) :
    ArgS W (some a) len ((List.range len).map fun r => (Z r).take (L r)) := by
  refine ⟨by simp, hb, fun i l hi => ?_⟩
  have hil : i < len := by
    have := (List.getElem?_eq_some_iff.1 hi).1
    simpa using this
  obtain ⟨h1, h2, h3, h4, h5, h6, h7⟩ := hr i (by omega)
  rw [List.getElem?_map, List.getElem?_range hil] at hi
  have hl' : (Z i).take (L i) = l := by simpa using hi
  subst hl'
  obtain ⟨b, off, rfl, hlt⟩ := spot_at (hr 0 (by omega)).1
  have hc := h1
  rw [add_at] at hc
  have hw := argW_open h2 h3 h4 h6 (fun a' ha i hi => (h7 a' ha).2 i hi) h5
  have e : ((Z i).take (L i)).length = L i := by simp; omega
  refine ⟨b, off, A i, C i, rfl, hlt, ?_, ?_⟩
  · rw [e]; exact hc
  · rw [e]; exact hw
end Go.Proofs.Ytkdjahgndkdnhaa
