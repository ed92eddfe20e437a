/-
  Arguments as the form reads them.
-/
import Derived.Test.YtlkfabejecgfgaaGb
import Derived.ProofKit
import Derived.OpenShut
import Derived.ShutString
import Derived.ChangeOld
import Derived.SizedLaws
import Derived.JoinedOf
import Derived.MakeChecks
import Derived.Deep.Slices
import Derived.Deep.Strs
import Derived.Lib.SmallJoins
import Derived.ChangeSame
namespace Go.Proofs.Ytlkfabejecgfgaa
open Go.RowKit Go.ChangeShapes Go.WideShapes Go.ChangeAt Go.Joins
set_option linter.unusedVariables false
set_option linter.unusedSimpArgs false
theorem add_at (b off j : Nat) : (⟨b, off, none⟩ : Addr).add j = ⟨b, off + j, none⟩ := by unfold Addr.add; split <;> simp_all
theorem cells36 : Try.prog.cellsOf 36 = 5 := by kernel_rfl
theorem cells24 : Try.prog.cellsOf 24 = 3 := by kernel_rfl
theorem cells22 : Try.prog.cellsOf 22 = 1 := by kernel_rfl
theorem cells9 : Try.prog.cellsOf 9 = 1 := by kernel_rfl
theorem cells3 : Try.prog.cellsOf 3 = 1 := by kernel_rfl
theorem list5 {cs : List Value} (h : cs.length = 5) : ∃ c0 c1 c2 c3 c4, cs = [c0, c1, c2, c3, c4] := by
  match cs, h with
  | [c0, c1, c2, c3, c4], _ => exact ⟨c0, c1, c2, c3, c4, rfl⟩
instance : Inhabited Ac := ⟨⟨0, 0, ⟨#[]⟩, 0, 0⟩⟩
set_option maxRecDepth 100000 in
/-- What a cache is made of, as the form reads it. -/
theorem form_open {H : Type} {enc : TypeId × Value → H} {W : World} {r : Reach} {b0 base : Nat} {spare : Nat → Bool} {held : Bool} {v : Value} {d : DataW H} {p : List MemPlace}
    (hv : Value.okWide Try.prog W r b0 24 v) (h : DataW.Trod enc Try.prog W base spare held 24 v d p) :
    ∃ (n : Int) (room : Nat) (st : Bool), v = .agg #[.int .i64 n, .int .u64 room, .bool st] ∧ I64 n ∧ room < 18446744073709551616 := by
  obtain ⟨c0, c1, c2, y0, y1, y2, m, rfl, rfl, rfl, hy0, hy1, hy2⟩ := open_agg3 Try.underlying24 (by kernel_rfl) cells24 hv h
  obtain ⟨n, e0, rfl, wn⟩ := DataW.trod_int Try.underlying3 hy0
  obtain ⟨s, e1, rfl, ws⟩ := DataW.trod_int Try.underlying22 hy1
  obtain ⟨b, e2, rfl⟩ := DataW.trod_bool Try.underlying4 hy2
  simp at e0 e1 e2
  subst e0 e1 e2
  obtain ⟨h1, h2⟩ := bounds_u64 ws
  obtain ⟨room, rfl⟩ := Int.eq_ofNat_of_zero_le h1
  exact ⟨n, room, b, rfl, bounds_i64 wn, by omega⟩
set_option maxRecDepth 100000 in
theorem act_open {H : Type} {enc : TypeId × Value → H} {W : World} {base : Nat} {spare : Nat → Bool} {held : Bool} {n : Nat} {cs : List Value} {y : DataW H × List MemPlace} (h : DataW.trod enc Try.prog W base spare held n 36 cs = some y) :
    ∃ t : Ac, cs = t.c ∧ AcOk t := by
  obtain ⟨xs, m, _, _, hl, hlen, hf⟩ := DataW.trod_struct Try.underlying36 h
  rw [cells36] at hl
  obtain ⟨c0, c1, c2, c3, c4, rfl⟩ := list5 hl
  match xs, hlen with
  | [y0, y1, y2, y3, y4], _ =>
    have h0 : DataW.trod enc Try.prog W base spare held m 3 (List.take (Try.prog.cellsOf 3) (List.drop 0 [c0, c1, c2, c3, c4])) = some y0 := hf 0 _ rfl
    have h1 : DataW.trod enc Try.prog W base spare held m 3 (List.take (Try.prog.cellsOf 3) (List.drop 1 [c0, c1, c2, c3, c4])) = some y1 := hf 1 _ rfl
    have h2 : DataW.trod enc Try.prog W base spare held m 9 (List.take (Try.prog.cellsOf 9) (List.drop 2 [c0, c1, c2, c3, c4])) = some y2 := hf 2 _ rfl
    have h3 : DataW.trod enc Try.prog W base spare held m 22 (List.take (Try.prog.cellsOf 22) (List.drop 3 [c0, c1, c2, c3, c4])) = some y3 := hf 3 _ rfl
    have h4 : DataW.trod enc Try.prog W base spare held m 22 (List.take (Try.prog.cellsOf 22) (List.drop 4 [c0, c1, c2, c3, c4])) = some y4 := hf 4 _ rfl
    simp only [cells9, cells22, cells3, List.drop_zero, List.drop_succ_cons, List.take_succ_cons, List.take_zero] at h0 h1 h2 h3 h4
    obtain ⟨ak, e0, _, w0⟩ := DataW.trod_int Try.underlying3 h0
    obtain ⟨pn, e1, _, w1⟩ := DataW.trod_int Try.underlying3 h1
    obtain ⟨ky, e2, _, w2⟩ := DataW.trod_string Try.underlying9 h2
    obtain ⟨v, e3, _, w3⟩ := DataW.trod_int Try.underlying22 h3
    obtain ⟨nn, e4, _, w4⟩ := DataW.trod_int Try.underlying22 h4
    simp at e0 e1 e2 e3 e4
    subst e0 e1 e2 e3 e4
    obtain ⟨h5, h6⟩ := bounds_u64 w4
    obtain ⟨h7, h8⟩ := bounds_u64 w3
    obtain ⟨n', rfl⟩ := Int.eq_ofNat_of_zero_le h5
    exact ⟨⟨ak, pn, ky, v, n'⟩, rfl, bounds_i64 w0, bounds_i64 w1, w2, h7, by simp only []; omega, by simp only []; omega⟩
set_option maxRecDepth 100000 in
/-- A slice of acts, as the form reads it. -/
theorem acts_open {H : Type} {enc : TypeId × Value → H} {W : World} {held : Bool} {n : Nat} {v : Value} {x : DataW H × List MemPlace} (h : DataW.trod enc Try.prog W 0 (fun _ => true) held n 25 [v] = some x) (hw : ∀ n ∈ x.1.weights Try.prog 25, n ≤ reachBytes) :
    ∃ l : List Ac, RdA W v l ∧ (∀ y ∈ l, AcOk y) ∧ l.length ≤ 3000000000000 := by
  have hby : Try.prog.bytesOf 36 = 48 := by kernel_rfl
  rcases Go.Deep.open_slice Try.underlying25 h with ⟨h0, _⟩ | ⟨a, len, cap, m, n', D, Pl, hcs, hb, hl, hm, hmm, hx, hcell⟩
  · cases h0
    exact ⟨[], .inl ⟨_, _, rfl, rfl⟩, by simp, by simp⟩
  · simp only [List.cons.injEq, and_true] at hcs
    subst hcs
    simp only [if_true] at hmm
    subst hmm
    rw [cells36] at hcell
    subst hx
    generalize hrb : reachBytes = RB at hw
    have ew : (DataW.slice (List.map D (List.range len)) (List.map (fun j => D (len + j)) (List.range (m - len))) : DataW H).weights Try.prog 25 = ((List.map D (List.range len)).length + (List.map (fun j => D (len + j)) (List.range (m - len))).length) * 48 :: (DataW.weightsAll Try.prog 36 (List.map D (List.range len)) ++ DataW.weightsAll Try.prog 36 (List.map (fun j => D (len + j)) (List.range (m - len)))) := by
      rw [DataW.weights, Try.underlying25, ← hby]
    dsimp only at hw
    rw [ew] at hw
    have hlen := hw _ (List.Mem.head _)
    rw [List.length_map, List.length_range] at hlen
    have hrb' : RB = 140737488351232 := by rw [← hrb]; rfl
    have hlen2 : len * 48 ≤ RB := Nat.le_trans (Nat.mul_le_mul_right _ (Nat.le_add_right _ _)) hlen
    obtain ⟨R, hR⟩ := Go.Deep.choose_lt (α := Ac) (n := len) (p := fun i r => (∀ j, j < 5 → W.cell? (a.add (i * 5 + j)) = r.c[j]?) ∧ AcOk r) (fun i hi => by
      obtain ⟨cs', h1, h2⟩ := hcell i (by omega)
      obtain ⟨_, _, hc⟩ := World.cells?_some h1
      obtain ⟨r, rfl, hr⟩ := act_open h2
      refine ⟨r, fun j hj => ?_, hr⟩
      have := hc j hj
      rw [Go.Deep.add_add] at this
      exact this)
    refine ⟨(List.range len).map R, ?_, ?_, by simp; omega⟩
    · by_cases hz : len = 0
      · subst hz
        exact .inl ⟨_, _, rfl, rfl⟩
      · right
        obtain ⟨b, off, spot⟩ := a
        have hc0 := (hR 0 (by omega)).1 0 (by decide)
        have hspot : spot = none := by
          have : W.cell? ((⟨b, off, spot⟩ : Addr).add (0 * 5 + 0)) = some (.int .i64 (R 0).ak) := hc0
          simpa [Addr.add] using World.cell?_spot this
        subst hspot
        refine ⟨b, off, m, by simp, ?_, fun j hj => ?_⟩
        · have : W.cell? ((⟨b, off, none⟩ : Addr).add (0 * 5 + 0)) = some (.int .i64 (R 0).ak) := hc0
          have := World.block_lt_of_cell? W _ this
          rw [add_at] at this
          exact this
        · have hj' : j < len := by simpa using hj
          have hc := (hR j hj').1
          simp only [List.getElem_map, List.getElem_range]
          have c0 := hc 0 (by decide)
          have c1 := hc 1 (by decide)
          have c2 := hc 2 (by decide)
          have c3 := hc 3 (by decide)
          have c4 := hc 4 (by decide)
          rw [add_at] at c0 c1 c2 c3 c4
          exact ⟨c0, c1, c2, c3, c4⟩
    · intro r hr
      obtain ⟨i, hi, rfl⟩ := List.mem_map.1 hr
      exact (hR i (List.mem_range.1 hi)).2
end Go.Proofs.Ytlkfabejecgfgaa
