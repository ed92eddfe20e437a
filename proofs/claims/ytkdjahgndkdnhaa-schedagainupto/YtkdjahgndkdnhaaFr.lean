import Derived.Test.YtkdjahgndkdnhaaL
import Derived.OpenShut
namespace Go.Proofs.Ytkdjahgndkdnhaa
open Go.RowKit
set_option linter.unusedVariables false

theorem arg_nil (W : World) : Arg W none 0 0 [] := ⟨rfl, by simp, by simp, .inl rfl⟩
/-- A slice of bytes as the form reads it. -/
theorem arg_open {W : World} {x : Addr} {len cap : Nat} {zs : List Int} (hl : len ≤ cap) (hz : zs.length = cap) (hcell : ∀ i, i < zs.length → W.cell? (x.add i) = some (.int .u8 (zs.getD i 0)))
    (hwz : ∀ n ∈ zs, (Lit.int .u8 n).wf = true) (hb : len ≤ 140737488351232) : Arg W (some x) len cap (zs.take len) := by
  refine ⟨by simp; omega, fun n hn => ?_, hb, ?_⟩
  · have h := hwz n (List.mem_of_mem_take hn)
    simp [Lit.wf, IntKind.min, IntKind.max, IntKind.signed, IntKind.bits] at h
    omega
  · by_cases h0 : len = 0
    · left; subst h0; simp
    · right
      obtain ⟨b, off, spot⟩ := x
      have hc := hcell 0 (by omega)
      have hspot : spot = none := by simpa [Addr.add] using World.cell?_spot hc
      subst hspot
      have e : ∀ j, (⟨b, off, none⟩ : Addr).add j = ⟨b, off + j, none⟩ := fun j => by unfold Addr.add; split <;> simp_all
      refine ⟨b, off, rfl, ?_, fun j hj => ?_⟩
      · exact World.block_lt_of_cell? W ((⟨b, off, none⟩ : Addr).add 0) hc
      · have hj' : j < len := by simp at hj; omega
        have := hcell j (by omega)
        rw [e] at this
        rw [this, List.getD_eq_getElem?_getD, List.getElem?_eq_getElem (by omega)]
        simp
end Go.Proofs.Ytkdjahgndkdnhaa
