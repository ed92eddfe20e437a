import Derived.Test.YtocanjefonlnaaaDoorRows
import Derived.Test.YtocanjefonlnaaaDoorCards
import Derived.Test.YtocanjefonlnaaaDoorTie
import Derived.Test.YtocanjefonlnaaaDoorSe
import Derived.ProofKit
import Derived.OpenShut
import Derived.ShutString
import Derived.ChangeOld
import Derived.SizedLaws
import Derived.JoinedOf
import Derived.LaidLaws
import Derived.LaidHandle
import Derived.SevenTiedAt
import Derived.MakeChecks
import Derived.Deep.Slices
import Derived.ChangeSame
namespace Go.Proofs.YtocanjefonlnaaaDoor
open Go.RowKit Go.ChangeShapes Go.WideShapes Go.ChangeAt
set_option linter.unusedVariables false
set_option linter.unusedSimpArgs false

theorem cells36 : Tryd.prog.cellsOf 36 = 4 := by kernel_rfl
theorem cells34 : Tryd.prog.cellsOf 34 = 1 := by kernel_rfl
theorem cells9 : Tryd.prog.cellsOf 9 = 1 := by kernel_rfl
theorem cells3 : Tryd.prog.cellsOf 3 = 1 := by kernel_rfl
theorem list4 {cs : List Value} (h : cs.length = 4) : ∃ c0 c1 c2 c3, cs = [c0, c1, c2, c3] := by
  match cs, h with
  | [c0, c1, c2, c3], _ => exact ⟨c0, c1, c2, c3, rfl⟩
/-- The cells of a record, as the form reads them. -/
theorem rec_open {H : Type} {enc : TypeId × Value → H} {W : World} {base : Nat} {spare : Nat → Bool} {held : Bool} {n : Nat} {cs : List Value} {y : DataW H × List MemPlace} (h : DataW.trod enc Tryd.prog W base spare held n 36 cs = some y) :
    ∃ r : Rec, cs = r.c ∧ 0 ≤ r.fam ∧ r.fam < 4294967296 ∧ r.key.size ≤ maxLen ∧ r.val.size ≤ maxLen := by
  obtain ⟨xs, k, hk, hxy, hl, hxl, hf⟩ := DataW.trod_struct (show Tryd.prog.underlying 36 = _ from Tryd.underlying36) h
  have h0 : DataW.trod enc Tryd.prog W base spare held k 34 ((cs.drop 0).take (Tryd.prog.cellsOf 34)) = xs[0]? := hf 0 _ rfl
  have h1 : DataW.trod enc Tryd.prog W base spare held k 3 ((cs.drop 1).take (Tryd.prog.cellsOf 3)) = xs[1]? := hf 1 _ rfl
  have h2 : DataW.trod enc Tryd.prog W base spare held k 9 ((cs.drop 2).take (Tryd.prog.cellsOf 9)) = xs[2]? := hf 2 _ rfl
  have h3 : DataW.trod enc Tryd.prog W base spare held k 9 ((cs.drop 3).take (Tryd.prog.cellsOf 9)) = xs[3]? := hf 3 _ rfl
  rw [cells36] at hl
  have hxs : xs.length = 4 := hxl
  clear hf hxy hxl h
  obtain ⟨c0, c1, c2, c3, rfl⟩ := list4 hl
  rw [List.getElem?_eq_getElem (by omega)] at h0 h1 h2 h3
  simp only [cells34, cells9, cells3, List.drop_zero, List.drop_succ_cons, List.take_succ_cons, List.take_zero] at h0 h1 h2 h3
  obtain ⟨f, e0, _, wf⟩ := DataW.trod_int Tryd.underlying34 h0
  obtain ⟨kd, e1, _, wk⟩ := DataW.trod_int Tryd.underlying3 h1
  obtain ⟨key, e2, _, wu⟩ := DataW.trod_string Tryd.underlying9 h2
  obtain ⟨val, e3, _, wv⟩ := DataW.trod_string Tryd.underlying9 h3
  simp at e0 e1 e2 e3
  subst e0 e1 e2 e3
  have hb := bounds_u32 wf
  have hb2 : f < 4294967296 := by have := hb.2; omega
  exact ⟨⟨f, kd, key, val⟩, rfl, hb.1, hb2, wu, wv⟩
instance : Inhabited Rec := ⟨⟨0, 0, ⟨#[]⟩, ⟨#[]⟩⟩⟩
/-- A slice of records, as the form reads it. -/
theorem recs_open {H : Type} {enc : TypeId × Value → H} {W : World} {held : Bool} {n : Nat} {a : Option Addr} {len cap : Nat} {x : DataW H × List MemPlace} (h : DataW.trod enc Tryd.prog W 0 (fun _ => true) held n 43 [.slice a len cap] = some x) :
    ∃ l : List Rec, l.length = len ∧ RdR W a l ∧ (l = [] ∨ ∃ es sp, x.1 = .slice es sp ∧ es.length = l.length) := by
  rcases Go.Deep.open_slice Tryd.underlying43 h with ⟨h0, _⟩ | ⟨a', len', cap', m, n', D, Pl, hcs, hb, hl, hm, hmm, hx, hcell⟩
  · simp only [List.cons.injEq, Value.slice.injEq, and_true] at h0
    obtain ⟨rfl, rfl, rfl⟩ := h0
    exact ⟨[], rfl, .inl rfl, .inl rfl⟩
  · simp only [List.cons.injEq, Value.slice.injEq, and_true] at hcs
    obtain ⟨rfl, rfl, rfl⟩ := hcs
    simp only [if_true] at hmm
    subst hmm
    rw [cells36] at hcell
    obtain ⟨R, hR⟩ := Go.Deep.choose_lt (α := Rec) (n := len) (p := fun i r => (∀ j, j < 4 → W.cell? (a'.add (i * 4 + j)) = r.c[j]?)) (fun i hi => by
      obtain ⟨cs', h1, h2⟩ := hcell i (by omega)
      obtain ⟨_, _, hc⟩ := World.cells?_some h1
      obtain ⟨r, rfl, f0, f1, _⟩ := rec_open h2
      refine ⟨r, fun j hj => ?_⟩
      have := hc j hj
      rw [Go.Deep.add_add] at this
      exact this)
    refine ⟨(List.range len).map R, by simp, ?_, .inr ⟨_, _, by rw [hx], by simp⟩⟩
    by_cases hz : len = 0
    · subst hz
      exact .inl rfl
    · right
      obtain ⟨b, off, spot⟩ := a'
      have hc0 := hR 0 (by omega) 0 (by decide)
      have hspot : spot = none := by
        have : W.cell? ((⟨b, off, spot⟩ : Addr).add (0 * 4 + 0)) = some (.int .u32 (R 0).fam) := hc0
        simpa [Addr.add] using World.cell?_spot this
      subst hspot
      refine ⟨b, off, rfl, ?_, fun j r hj => ?_⟩
      · have : W.cell? ((⟨b, off, none⟩ : Addr).add (0 * 4 + 0)) = some (.int .u32 (R 0).fam) := hc0
        have := World.block_lt_of_cell? W _ this
        rw [add_at] at this
        exact this
      · have hj' : j < len := by have := (List.getElem?_eq_some_iff.1 hj).1; simpa using this
        rw [List.getElem?_map, List.getElem?_range hj'] at hj
        simp at hj
        subst hj
        have hc := hR j hj'
        have c0 := hc 0 (by decide)
        have c1 := hc 1 (by decide)
        have c2 := hc 2 (by decide)
        have c3 := hc 3 (by decide)
        rw [add_at] at c0 c1 c2 c3
        exact ⟨c0, c1, c2, c3⟩
/-- De Bruijn's table. -/
def tab64 : List Int := [0, 1, 56, 2, 57, 49, 28, 3, 61, 58, 42, 50, 38, 29, 17, 4, 62, 47, 59, 36, 45, 43, 51, 22, 53, 39, 33, 30, 24, 18, 12, 5, 63, 55, 48, 27, 60, 41, 37, 16, 46, 35, 44, 21, 52, 32, 23, 11, 54, 26, 40, 15, 34, 20, 31, 10, 25, 14, 19, 9, 13, 8, 7, 6]
def tab32 : List Int := [0, 1, 28, 2, 29, 14, 24, 3, 30, 22, 20, 15, 25, 17, 4, 8, 31, 27, 13, 23, 21, 19, 16, 7, 26, 12, 18, 6, 11, 5, 10, 9]
theorem tab64_ok : ∀ y ∈ tab64, 0 ≤ y ∧ y < 64 := by decide
theorem tab64_len : tab64.length = 64 := by decide
theorem laid64_eq : (Rows.laid_math_bits_deBruijn64tab : DataW Unit) = .agg (tab64.map fun n => .lit (.int .u8 n)) := rfl
abbrev seatLaid : List (String × DataW Unit) := [("math/bits.deBruijn32tab", Rows.laid_math_bits_deBruijn32tab), ("math/bits.deBruijn64tab", Rows.laid_math_bits_deBruijn64tab)]
theorem g64 : Tryd.prog.globalNamed "math/bits.deBruijn64tab" = some 2 := by kernel_rfl
theorem t64 : (Tryd.prog.globals[2]?).map (·.type) = some 120 := by kernel_rfl
theorem cells5 : Tryd.prog.cellsOf 5 = 1 := by kernel_rfl
theorem cells120 : Tryd.prog.cellsOf 120 = 64 := by kernel_rfl
set_option maxRecDepth 100000 in
/-- What the condition gives: the table's cells. -/
theorem tz_of_laid {W : World} (h : laidMetH Tryd.prog seatLaid W) : Tz W := by
  rw [MakeChecks.laidMetH_plain _ _ _ (by kernel_rfl)] at h
  obtain ⟨ps, ⟨g0, t0, cs0, f0, p0, q0, hg0, ht0, hv0, hd0, ⟨g1, t1, cs1, f1, p1, q1, hg1, ht1, hv1, hd1, _, _⟩, _⟩, _, _⟩ := h
  obtain rfl := Option.some.inj (g64.symm.trans hg1)
  obtain rfl := Option.some.inj (t64.symm.trans ht1)
  obtain ⟨xs, m1, hf, hx1, hlen, hn, hel⟩ := DataW.trod_array Tryd.underlying120 hd1
  rw [laid64_eq] at hx1
  simp only [Prod.mk.injEq, DataW.agg.injEq] at hx1
  intro j hj
  have hj2 := hel j hj
  rw [cells5, Nat.mul_one] at hj2
  have hjx : j < xs.length := by rw [hn]; exact hj
  rw [List.getElem?_eq_getElem hjx] at hj2
  obtain ⟨k, e1, e2, _⟩ := DataW.trod_int Tryd.underlying5 hj2
  have hk : (tab64.map fun n => (DataW.lit (.int .u8 n) : DataW Unit))[j]? = some (.lit (.int .u8 k)) := by
    rw [hx1.1, List.getElem?_map, List.getElem?_eq_getElem hjx, e2]; rfl
  rw [List.getElem?_map] at hk
  cases hq : tab64[j]? with
  | none => rw [hq] at hk; cases hk
  | some y =>
    rw [hq] at hk
    simp at hk
    subst hk
    have hb := tab64_ok y (List.mem_of_getElem? hq)
    refine ⟨y, hb.1, hb.2, ?_⟩
    have hc := World.var?_cell hg1 hv1 j
    rw [hc]
    have : cs1.toList[j]? = some (.int .u8 y) := by
      have e3 : ((cs1.toList.drop j).take 1)[0]? = some (.int .u8 y) := by rw [e1]; rfl
      rw [List.getElem?_take_of_lt (by omega), List.getElem?_drop] at e3
      simpa using e3
    simpa using this
end Go.Proofs.YtocanjefonlnaaaDoor
