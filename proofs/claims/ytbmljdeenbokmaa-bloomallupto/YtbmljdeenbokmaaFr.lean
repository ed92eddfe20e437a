/-
  Arguments as the form reads them: slices of strings, of bytes, of numbers of 16 bits.
-/
import Derived.Test.YtbmljdeenbokmaaH
import Derived.Deep.Strs
namespace Go.Proofs.Ytbmljdeenbokmaa
open Go.RowKit
set_option linter.unusedVariables false
theorem spot_at {W : World} {x : Addr} {v : Value} (h : W.cell? (x.add 0) = some v) : ∃ b off, x = ⟨b, off, none⟩ ∧ b < W.heap.size := by
  obtain ⟨b, off, spot⟩ := x
  have hspot : spot = none := by simpa [Addr.add] using World.cell?_spot h
  subst hspot
  have hlt := World.block_lt_of_cell? W _ h
  rw [add_at] at hlt
  exact ⟨b, off, rfl, hlt⟩
theorem strs_open {W : World} {x : Addr} {len m : Nat} {Sx : Nat → ByteArray} (hl : len ≤ m) (h : ∀ i, i < m → W.cell? (x.add i) = some (.string (Sx i)) ∧ (Sx i).size ≤ maxLen) : Strs W (some x) ((List.range len).map Sx) := by
  refine ⟨fun k hk => ?_, ?_⟩
  · simp only [List.mem_map, List.mem_range] at hk
    obtain ⟨i, hi, rfl⟩ := hk
    exact (h i (by omega)).2
  · by_cases h0 : len = 0
    · left; subst h0; rfl
    · right
      obtain ⟨b, off, rfl, hlt⟩ := spot_at (h 0 (by omega)).1
      refine ⟨b, off, rfl, hlt, fun j hj => ?_⟩
      have hj' : j < len := by simpa using hj
      have := (h j (by omega)).1
      rw [add_at] at this
      rw [this]; simp
theorem arg_open {W : World} {x : Addr} {len cap : Nat} {zs : List Int} (hl : len ≤ cap) (hz : zs.length = cap) (hcell : ∀ i, i < zs.length → W.cell? (x.add i) = some (.int .u8 (zs.getD i 0)))
    (hwz : ∀ n ∈ zs, (Lit.int .u8 n).wf = true) (hb : len ≤ 140737488351232) : Arg W (some x) len (zs.take len) := by
  refine ⟨by simp; omega, fun n hn => ?_, hb, ?_⟩
  · have h := hwz n (List.mem_of_mem_take hn)
    simp [Lit.wf, IntKind.min, IntKind.max, IntKind.signed, IntKind.bits] at h
    omega
  · by_cases h0 : len = 0
    · left; subst h0; simp
    · right
      obtain ⟨b, off, rfl, hlt⟩ := spot_at (hcell 0 (by omega))
      refine ⟨b, off, rfl, hlt, fun j hj => ?_⟩
      have hj' : j < len := by simp at hj; omega
      have := hcell j (by omega)
      rw [add_at] at this
      rw [this, List.getD_eq_getElem?_getD, List.getD_eq_getElem?_getD, List.getElem?_take, if_pos hj']
theorem arg16_open {W : World} {x : Addr} {len cap : Nat} {zs : List Int} (hl : len ≤ cap) (hz : zs.length = cap) (hcell : ∀ i, i < zs.length → W.cell? (x.add i) = some (.int .u16 (zs.getD i 0)))
    (hwz : ∀ n ∈ zs, (Lit.int .u16 n).wf = true) (hb : len ≤ 140737488351232) : Arg16 W (some x) (zs.take len) := by
  refine ⟨fun n hn => ?_, by simp; omega, ?_⟩
  · have h := hwz n (List.mem_of_mem_take hn)
    simp [Lit.wf, IntKind.min, IntKind.max, IntKind.signed, IntKind.bits] at h
    omega
  · by_cases h0 : len = 0
    · left; subst h0; simp
    · right
      obtain ⟨b, off, rfl, hlt⟩ := spot_at (hcell 0 (by omega))
      refine ⟨b, off, rfl, hlt, fun j hj => ?_⟩
      have hj' : j < len := by simp at hj; omega
      have := hcell j (by omega)
      rw [add_at] at this
      rw [this, List.getD_eq_getElem?_getD, List.getD_eq_getElem?_getD, List.getElem?_take, if_pos hj']
theorem u8_bd {x : Int} (h : (Lit.int .u8 x).wf = true) : 0 ≤ x ∧ x < 256 := by
  simp [Lit.wf, IntKind.min, IntKind.max, IntKind.signed, IntKind.bits] at h
  omega
end Go.Proofs.Ytbmljdeenbokmaa
