/-
  Entries as the form reads them.
-/
import Derived.Test.YtbnllobofndckaaRows
import Derived.Test.YtbnllobofndckaaLw
import Derived.ProofKit
import Derived.OpenShut
import Derived.ShutString
import Derived.ChangeOld
import Derived.SizedLaws
import Derived.JoinedOf
import Derived.MakeChecks
import Derived.Deep.Slices
import Derived.Lib.SmallJoins
import Derived.ChangeSame
namespace Go.Proofs.Ytbnllobofndckaa
open Go.RowKit Go.ChangeShapes Go.WideShapes Go.ChangeAt
set_option linter.unusedVariables false
set_option linter.unusedSimpArgs false
theorem cells48 : Try.prog.cellsOf 48 = 4 := by kernel_rfl
theorem cells33 : Try.prog.cellsOf 33 = 3 := by kernel_rfl
theorem cells31 : Try.prog.cellsOf 31 = 1 := by kernel_rfl
theorem cells9 : Try.prog.cellsOf 9 = 1 := by kernel_rfl
theorem cells3 : Try.prog.cellsOf 3 = 1 := by kernel_rfl
theorem list4 {cs : List Value} (h : cs.length = 4) : ∃ c0 c1 c2 c3, cs = [c0, c1, c2, c3] := by
  match cs, h with
  | [c0, c1, c2, c3], _ => exact ⟨c0, c1, c2, c3, rfl⟩
theorem keycells_open {H : Type} {enc : TypeId × Value → H} {W : World} {base : Nat} {spare : Nat → Bool} {held : Bool} {n : Nat} {c0 c1 c2 : Value} {y : DataW H × List MemPlace}
    (h : DataW.trod enc Try.prog W base spare held n 33 [c0, c1, c2] = some y) : ∃ (u : ByteArray) (s k : Int), c0 = .string u ∧ c1 = .int .u64 s ∧ c2 = .int .i64 k ∧ 0 ≤ s := by
  obtain ⟨y0, y1, y2, m, _, _, h0, h1, h2⟩ := Go.Deep.trod_struct3 Try.underlying33 h
  simp only [cells9, cells31, cells3, List.drop_zero, List.drop_succ_cons, List.take_succ_cons, List.take_zero] at h0 h1 h2
  obtain ⟨u, e0, _, wu⟩ := DataW.trod_string Try.underlying9 h0
  obtain ⟨s, e1, _, ws⟩ := DataW.trod_int Try.underlying31 h1
  obtain ⟨k, e2, _, wk⟩ := DataW.trod_int Try.underlying3 h2
  simp at e0 e1 e2
  exact ⟨u, s, k, e0, e1, e2, (bounds_u64 ws).1⟩
/-- The cells of an entry, as the form reads them. -/
theorem ent_open {H : Type} {enc : TypeId × Value → H} {W : World} {base : Nat} {spare : Nat → Bool} {held : Bool} {n : Nat} {cs : List Value} {y : DataW H × List MemPlace} (h : DataW.trod enc Try.prog W base spare held n 48 cs = some y) :
    ∃ r : Ent, cs = r.c ∧ 0 ≤ r.s := by
  obtain ⟨xs, k, hk, hxy, hl, hxl, hf⟩ := DataW.trod_struct (show Try.prog.underlying 48 = _ from Try.underlying48) h
  have h0 : DataW.trod enc Try.prog W base spare held k 33 ((cs.drop 0).take (Try.prog.cellsOf 33)) = xs[0]? := hf 0 _ rfl
  have h1 : DataW.trod enc Try.prog W base spare held k 9 ((cs.drop 3).take (Try.prog.cellsOf 9)) = xs[1]? := hf 1 _ rfl
  rw [cells48] at hl
  have hxs : xs.length = 2 := hxl
  clear hf hxy hxl h
  obtain ⟨c0, c1, c2, c3, rfl⟩ := list4 hl
  rw [List.getElem?_eq_getElem (by omega)] at h0 h1
  simp only [cells33, cells9, List.drop_zero, List.drop_succ_cons, List.take_succ_cons, List.take_zero] at h0 h1
  obtain ⟨u, s, kd, rfl, rfl, rfl, hs⟩ := keycells_open h0
  obtain ⟨v, e3, _, wv⟩ := DataW.trod_string Try.underlying9 h1
  simp at e3
  subst e3
  exact ⟨⟨u, s, kd, v⟩, rfl, hs⟩
instance : Inhabited Ent := ⟨⟨⟨#[]⟩, 0, 0, ⟨#[]⟩⟩⟩
/-- A slice of entries, as the form reads it. -/
theorem ents_open {H : Type} {enc : TypeId × Value → H} {W : World} {held : Bool} {n : Nat} {a : Option Addr} {len cap : Nat} {x : DataW H × List MemPlace} (h : DataW.trod enc Try.prog W 0 (fun _ => true) held n 22 [.slice a len cap] = some x) :
    ∃ l : List Ent, l.length = len ∧ RdE W a l ∧ (∀ e ∈ l, 0 ≤ e.s) ∧ (l = [] ∨ ∃ es sp, x.1 = .slice es sp ∧ es.length = l.length) := by
  rcases Go.Deep.open_slice Try.underlying22 h with ⟨h0, _⟩ | ⟨a', len', cap', m, n', D, Pl, hcs, hb, hl, hm, hmm, hx, hcell⟩
  · simp only [List.cons.injEq, Value.slice.injEq, and_true] at h0
    obtain ⟨rfl, rfl, rfl⟩ := h0
    exact ⟨[], rfl, .inl rfl, by simp, .inl rfl⟩
  · simp only [List.cons.injEq, Value.slice.injEq, and_true] at hcs
    obtain ⟨rfl, rfl, rfl⟩ := hcs
    simp only [if_true] at hmm
    subst hmm
    rw [cells48] at hcell
    obtain ⟨R, hR⟩ := Go.Deep.choose_lt (α := Ent) (n := len) (p := fun i r => (∀ j, j < 4 → W.cell? (a'.add (i * 4 + j)) = r.c[j]?) ∧ 0 ≤ r.s) (fun i hi => by
      obtain ⟨cs', h1, h2⟩ := hcell i (by omega)
      obtain ⟨_, _, hc⟩ := World.cells?_some h1
      obtain ⟨r, rfl, f0⟩ := ent_open h2
      refine ⟨r, fun j hj => ?_, f0⟩
      have := hc j hj
      rw [Go.Deep.add_add] at this
      exact this)
    refine ⟨(List.range len).map R, by simp, ?_, ?_, .inr ⟨_, _, by rw [hx], by simp⟩⟩
    · by_cases hz : len = 0
      · subst hz
        exact .inl rfl
      · right
        obtain ⟨b, off, spot⟩ := a'
        have hc0 := (hR 0 (by omega)).1 0 (by decide)
        have hspot : spot = none := by
          have : W.cell? ((⟨b, off, spot⟩ : Addr).add (0 * 4 + 0)) = some (.string (R 0).u) := hc0
          simpa [Addr.add] using World.cell?_spot this
        subst hspot
        refine ⟨b, off, rfl, ?_, fun j r hj => ?_⟩
        · have : W.cell? ((⟨b, off, none⟩ : Addr).add (0 * 4 + 0)) = some (.string (R 0).u) := hc0
          have := World.block_lt_of_cell? W _ this
          rw [add_at] at this
          exact this
        · have hj' : j < len := by have := (List.getElem?_eq_some_iff.1 hj).1; simpa using this
          rw [List.getElem?_map, List.getElem?_range hj'] at hj
          simp at hj
          subst hj
          have hc := (hR j hj').1
          have c0 := hc 0 (by decide)
          have c1 := hc 1 (by decide)
          have c2 := hc 2 (by decide)
          have c3 := hc 3 (by decide)
          rw [add_at] at c0 c1 c2 c3
          exact ⟨c0, c1, c2, c3⟩
    · intro e he
      simp only [List.mem_map, List.mem_range] at he
      obtain ⟨i, hi, rfl⟩ := he
      exact (hR i hi).2
end Go.Proofs.Ytbnllobofndckaa
