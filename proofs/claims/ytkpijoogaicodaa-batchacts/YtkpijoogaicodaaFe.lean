import Derived.Test.YtkpijoogaicodaaFr
namespace Go.Proofs.Ytkpijoogaicodaa
open Go.RowKit Go.ChangeShapes Go.WideShapes Go.ChangeAt
set_option linter.unusedVariables false
set_option linter.unusedSimpArgs false

/-- A slice of records, as the form reads it. -/
theorem recs_open2 {H : Type} {enc : TypeId × Value → H} {W : World} {held : Bool} {n : Nat} {v : Value} {x : DataW H × List MemPlace} (h : DataW.trod enc Try.prog W 0 (fun _ => true) held n 23 [v] = some x) :
    ∃ l : List Rec, RdR W v l ∧ (∀ r ∈ l, 0 ≤ r.fam ∧ r.fam < 4294967296) ∧ (∀ r ∈ l, (r.val.size : Int) ≤ 9223372036854775807) ∧ (l = [] ∨ ∃ es sp, x.1 = .slice es sp ∧ es.length = l.length) := by
  rcases Go.Deep.open_slice Try.underlying23 h with ⟨h0, _⟩ | ⟨a, len, cap, m, n', D, Pl, hcs, hb, hl, hm, hmm, hx, hcell⟩
  · cases h0
    exact ⟨[], .inl ⟨_, _, rfl, rfl⟩, by simp, by simp, .inl rfl⟩
  · simp only [List.cons.injEq, and_true] at hcs
    subst hcs
    simp only [if_true] at hmm
    subst hmm
    rw [cells31] at hcell
    obtain ⟨R, hR⟩ := Go.Deep.choose_lt (α := Rec) (n := len) (p := fun i r => (∀ j, j < 4 → W.cell? (a.add (i * 4 + j)) = r.c[j]?) ∧ (0 ≤ r.fam ∧ r.fam < 4294967296) ∧ (r.val.size : Int) ≤ 9223372036854775807) (fun i hi => by
      obtain ⟨cs', h1, h2⟩ := hcell i (by omega)
      obtain ⟨_, _, hc⟩ := World.cells?_some h1
      obtain ⟨r, rfl, f0, f1, _, hv⟩ := rec_open h2
      refine ⟨r, fun j hj => ?_, ⟨f0, f1⟩, by unfold maxLen at hv; omega⟩
      have := hc j hj
      rw [Go.Deep.add_add] at this
      exact this)
    refine ⟨(List.range len).map R, ?_, ?_, ?_, .inr ⟨_, _, by rw [hx], by simp⟩⟩
    · by_cases hz : len = 0
      · subst hz
        exact .inl ⟨_, _, rfl, rfl⟩
      · right
        obtain ⟨b, off, spot⟩ := a
        have hc0 := (hR 0 (by omega)).1 0 (by decide)
        have hspot : spot = none := by
          have : W.cell? ((⟨b, off, spot⟩ : Addr).add (0 * 4 + 0)) = some (.int .u32 (R 0).fam) := hc0
          simpa [Addr.add] using World.cell?_spot this
        subst hspot
        refine ⟨b, off, m, by simp, ?_, fun j hj => ?_⟩
        · have : W.cell? ((⟨b, off, none⟩ : Addr).add (0 * 4 + 0)) = some (.int .u32 (R 0).fam) := hc0
          have := World.block_lt_of_cell? W _ this
          rw [add_at] at this
          exact this
        · have hj' : j < len := by simpa using hj
          have hc := (hR j hj').1
          simp only [List.getElem_map, List.getElem_range]
          have c0 := hc 0 (by decide)
          have c1 := hc 1 (by decide)
          have c2 := hc 2 (by decide)
          have c3 := hc 3 (by decide)
          rw [add_at] at c0 c1 c2 c3
          exact ⟨c0, c1, c2, c3⟩
    · intro r hr
      obtain ⟨i, hi, rfl⟩ := List.mem_map.1 hr
      exact (hR i (List.mem_range.1 hi)).2.1
    · intro r hr
      obtain ⟨i, hi, rfl⟩ := List.mem_map.1 hr
      exact (hR i (List.mem_range.1 hi)).2.2
end Go.Proofs.Ytkpijoogaicodaa
