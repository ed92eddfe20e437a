/-
  An act, as the form reads it.
  A slice of acts, as the form reads it.
-/
import Derived.Test.YtkpijoogaicodaaEb
import Derived.Test.YtkpijoogaicodaaHw
import Derived.SizedLaws
namespace Go.Proofs.Ytkpijoogaicodaa
open Go.RowKit Go.ChangeShapes Go.WideShapes Go.ChangeAt
set_option linter.unusedVariables false
set_option linter.unusedSimpArgs false

/-- A slice of records, as the form reads it. -/
theorem recs_open2 {H : Type} {enc : TypeId × Value → H} {W : World} {held : Bool} {n : Nat} {v : Value} {x : DataW H × List MemPlace} (h : DataW.trod enc Try.prog W 0 (fun _ => true) held n 23 [v] = some x) :
    ∃ l : List Rec, RdR W v l ∧ (∀ r ∈ l, 0 ≤ r.fam ∧ r.fam < 4294967296) ∧ (∀ r ∈ l, (r.val.size : Int) ≤ 9223372036854775807) ∧ (l = [] ∨ ∃ es sp, x.1 = .slice es sp ∧ es.length = l.length) := by
  rcases Go.Deep.open_slice Try.underlying23 h with ⟨h0, _⟩ | ⟨a, len, cap, m, n', D, Pl, hcs, hb, hl, hm, hmm, hx, hcell⟩
  · cases h0
    exact ⟨[], .inl ⟨_, _, rfl, rfl⟩, by simp, by simp, .inl rfl⟩
  · simp only [List.cons.injEq, and_true] at hcs
    subst hcs
    simp only [if_true] at hmm
    subst hmm
    rw [cells31] at hcell
    obtain ⟨R, hR⟩ := Go.Deep.choose_lt (α := Rec) (n := len) (p := fun i r => (∀ j, j < 4 → W.cell? (a.add (i * 4 + j)) = r.c[j]?) ∧ (0 ≤ r.fam ∧ r.fam < 4294967296) ∧ (r.val.size : Int) ≤ 9223372036854775807) (fun i hi => by
      obtain ⟨cs', h1, h2⟩ := hcell i (by omega)
      obtain ⟨_, _, hc⟩ := World.cells?_some h1
      obtain ⟨r, rfl, f0, f1, _, hv⟩ := rec_open h2
      refine ⟨r, fun j hj => ?_, ⟨f0, f1⟩, by unfold maxLen at hv; omega⟩
      have := hc j hj
      rw [Go.Deep.add_add] at this
      exact this)
    refine ⟨(List.range len).map R, ?_, ?_, ?_, .inr ⟨_, _, by rw [hx], by simp⟩⟩
    · by_cases hz : len = 0
      · subst hz
        exact .inl ⟨_, _, rfl, rfl⟩
      · right
        obtain ⟨b, off, spot⟩ := a
        have hc0 := (hR 0 (by omega)).1 0 (by decide)
        have hspot : spot = none := by
          have : W.cell? ((⟨b, off, spot⟩ : Addr).add (0 * 4 + 0)) = some (.int .u32 (R 0).fam) := hc0
          simpa [Addr.add] using World.cell?_spot this
        subst hspot
        refine ⟨b, off, m, by simp, ?_, fun j hj => ?_⟩
        · have : W.cell? ((⟨b, off, none⟩ : Addr).add (0 * 4 + 0)) = some (.int .u32 (R 0).fam) := hc0
          have := World.block_lt_of_cell? W _ this
          rw [add_at] at this
          exact this
        · have hj' : j < len := by simpa using hj
          have hc := (hR j hj').1
          simp only [List.getElem_map, List.getElem_range]
          have c0 := hc 0 (by decide)
          have c1 := hc 1 (by decide)
          have c2 := hc 2 (by decide)
          have c3 := hc 3 (by decide)
          rw [add_at] at c0 c1 c2 c3
          exact ⟨c0, c1, c2, c3⟩
    · intro r hr
      obtain ⟨i, hi, rfl⟩ := List.mem_map.1 hr
      exact (hR i (List.mem_range.1 hi)).2.1
    · intro r hr
      obtain ⟨i, hi, rfl⟩ := List.mem_map.1 hr
      exact (hR i (List.mem_range.1 hi)).2.2
end Go.Proofs.Ytkpijoogaicodaa
namespace Go.Proofs.Ytkpijoogaicodaa
open Go.RowKit Go.ChangeShapes Go.WideShapes Go.ChangeAt
set_option linter.unusedVariables false
set_option linter.unusedSimpArgs false
theorem cells51 : Try.prog.cellsOf 51 = 7 := by kernel_rfl
theorem cells4 : Try.prog.cellsOf 4 = 1 := by kernel_rfl
theorem cells23 : Try.prog.cellsOf 23 = 1 := by kernel_rfl
theorem list7 {cs : List Value} (h : cs.length = 7) : ∃ c0 c1 c2 c3 c4 c5 c6, cs = [c0, c1, c2, c3, c4, c5, c6] := by
  match cs, h with
  | [c0, c1, c2, c3, c4, c5, c6], _ => exact ⟨c0, c1, c2, c3, c4, c5, c6, rfl⟩
def Ac.c (x : Ac) : List Value := [.int .i64 x.ak, .bool x.nm, .int .u32 x.f, .int .i64 x.kd, .string x.key, .string x.val, x.sv]
/-- What the form says of an act; dl is the datum of its list. -/
structure AcRd {H : Type} (W : World) (x : Ac) (dl : DataW H) : Prop where
  f0 : 0 ≤ x.f
  f1 : x.f < 4294967296
  hv : (x.val.size : Int) ≤ 9223372036854775807
  hl : RdR W x.sv x.l
  hc : ∀ a n c, x.sv = .slice a n c → n ≤ c
  hF : ∀ r ∈ x.l, 0 ≤ r.fam ∧ r.fam < 4294967296
  hV : ∀ r ∈ x.l, (r.val.size : Int) ≤ 9223372036854775807
  len : x.l = [] ∨ ∃ es sp, dl = .slice es sp ∧ es.length = x.l.length
theorem act_open {H : Type} {enc : TypeId × Value → H} {W : World} {held : Bool} {n : Nat} {cs : List Value} {y : DataW H × List MemPlace} (h : DataW.trod enc Try.prog W 0 (fun _ => true) held n 51 cs = some y) :
    ∃ (x : Ac) (d0 d1 d2 dl : DataW H), cs = x.c ∧ y.1 = .agg [d0, d1, d2, dl] ∧ AcRd W x dl := by
  obtain ⟨xs, k, hk, hxy, hl, hxl, hf⟩ := DataW.trod_struct (show Try.prog.underlying 51 = _ from Try.underlying51) h
  have h0 : DataW.trod enc Try.prog W 0 (fun _ => true) held k 3 ((cs.drop 0).take (Try.prog.cellsOf 3)) = xs[0]? := hf 0 _ rfl
  have h1 : DataW.trod enc Try.prog W 0 (fun _ => true) held k 4 ((cs.drop 1).take (Try.prog.cellsOf 4)) = xs[1]? := hf 1 _ rfl
  have h2 : DataW.trod enc Try.prog W 0 (fun _ => true) held k 31 ((cs.drop 2).take (Try.prog.cellsOf 31)) = xs[2]? := hf 2 _ rfl
  have h3 : DataW.trod enc Try.prog W 0 (fun _ => true) held k 23 ((cs.drop 6).take (Try.prog.cellsOf 23)) = xs[3]? := hf 3 _ rfl
  rw [cells51] at hl
  have hxs : xs.length = 4 := hxl
  clear hf hxl h
  obtain ⟨c0, c1, c2, c3, c4, c5, c6, rfl⟩ := list7 hl
  match xs, hxs with
  | [x0, x1, x2, x3], _ =>
    simp only [cells4, cells31, cells23, cells3, List.drop_zero, List.drop_succ_cons, List.take_succ_cons, List.take_zero, List.getElem?_cons_zero, List.getElem?_cons_succ] at h0 h1 h2 h3
    obtain ⟨ak, e0, _, wk⟩ := DataW.trod_int Try.underlying3 h0
    obtain ⟨nm, e1, _⟩ := DataW.trod_bool Try.underlying4 h1
    obtain ⟨r, e2, f0, f1, _, hv⟩ := rec_open h2
    obtain ⟨l, q1, q2, q3, q4⟩ := recs_open2 h3
    have hc : ∀ a n c, c6 = .slice a n c → n ≤ c := by
      rcases Go.Deep.open_slice Try.underlying23 h3 with ⟨e, _⟩ | ⟨a, len, cap, m, n', D, Pl, hcs, hb, hlc, _⟩
      · simp at e; subst e; intro a n c e; cases e; exact Nat.le_refl _
      · simp at hcs; subst hcs; intro a n c e; cases e; exact hlc
    simp at e0 e1
    subst e0 e1
    obtain ⟨f, kd, key, val⟩ := r
    simp [Rec.c] at e2
    obtain ⟨rfl, rfl, rfl, rfl⟩ := e2
    exact ⟨⟨ak, nm, f, kd, key, val, c6, l⟩, x0.1, x1.1, x2.1, x3.1, rfl, by rw [hxy]; rfl, ⟨f0, f1, by unfold maxLen at hv; dsimp only at hv ⊢; omega, q1, hc, q2, q3, q4⟩⟩
end Go.Proofs.Ytkpijoogaicodaa
namespace Go.Proofs.Ytkpijoogaicodaa
open Go.RowKit Go.ChangeShapes Go.WideShapes Go.ChangeAt
set_option linter.unusedVariables false
set_option linter.unusedSimpArgs false
instance : Inhabited Ac := ⟨⟨0, false, 0, 0, ⟨#[]⟩, ⟨#[]⟩, .slice none 0 0, []⟩⟩
theorem weights_all {H : Type} {P : Program} {e : TypeId} : ∀ {ds : List (DataW H)} {d : DataW H}, d ∈ ds → ∀ n ∈ d.weights P e, n ∈ DataW.weightsAll P e ds
  | x :: ds, d, h, n, hn => by
    rw [DataW.weightsAll]
    rcases List.mem_cons.1 h with rfl | h
    · exact List.mem_append_left _ hn
    · exact List.mem_append_right _ (weights_all h n hn)
theorem weight_list {H : Type} {d0 d1 d2 : DataW H} {es sp : List (DataW H)} : (es.length + sp.length) * 48 ∈ (DataW.agg [d0, d1, d2, .slice es sp] : DataW H).weights Try.prog 51 := by
  have hby : Try.prog.bytesOf 31 = 48 := by kernel_rfl
  rw [DataW.weights, Try.underlying51]
  refine DataW.weights_mem_each (j := 3) (t := 23) (d := .slice es sp) rfl rfl _ ?_
  rw [DataW.weights, Try.underlying23]
  dsimp only
  rw [hby]
  exact List.mem_cons_self ..
set_option maxRecDepth 100000 in
theorem acts_open {H : Type} {enc : TypeId × Value → H} {W : World} {held : Bool} {n : Nat} {v : Value} {x : DataW H × List MemPlace} (h : DataW.trod enc Try.prog W 0 (fun _ => true) held n 39 [v] = some x) (hw : ∀ n ∈ x.1.weights Try.prog 39, n ≤ reachBytes) :
    ∃ l : List Ac, RdA W v l ∧ (∀ y ∈ l, AcOk W y) ∧ l.length ≤ 3000000000000 := by
  have hby : Try.prog.bytesOf 51 = 88 := by kernel_rfl
  rcases Go.Deep.open_slice Try.underlying39 h with ⟨h0, _⟩ | ⟨a, len, cap, m, n', D, Pl, hcs, hb, hl, hm, hmm, hx, hcell⟩
  · cases h0
    exact ⟨[], .inl ⟨_, _, rfl, rfl⟩, by simp, by simp⟩
  · simp only [List.cons.injEq, and_true] at hcs
    subst hcs
    simp only [if_true] at hmm
    subst hmm
    rw [cells51] at hcell
    subst hx
    generalize hrb : reachBytes = RB at hw
    have ew : (DataW.slice (List.map D (List.range len)) (List.map (fun j => D (len + j)) (List.range (m - len))) : DataW H).weights Try.prog 39 = ((List.map D (List.range len)).length + (List.map (fun j => D (len + j)) (List.range (m - len))).length) * 88 :: (DataW.weightsAll Try.prog 51 (List.map D (List.range len)) ++ DataW.weightsAll Try.prog 51 (List.map (fun j => D (len + j)) (List.range (m - len)))) := by
      rw [DataW.weights, Try.underlying39, ← hby]
    dsimp only at hw
    rw [ew] at hw
    have hlen := hw _ (List.Mem.head _)
    rw [List.length_map, List.length_range] at hlen
    have hrb' : RB = 140737488351232 := by rw [← hrb]; rfl
    have hlen2 : len * 88 ≤ RB := Nat.le_trans (Nat.mul_le_mul_right _ (Nat.le_add_right _ _)) hlen
    obtain ⟨R, hR⟩ := Go.Deep.choose_lt (α := Ac) (n := len) (p := fun i r => (∀ j, j < 7 → W.cell? (a.add (i * 7 + j)) = r.c[j]?) ∧ AcOk W r) (fun i hi => by
      obtain ⟨cs', h1, h2⟩ := hcell i (by omega)
      obtain ⟨_, _, hc⟩ := World.cells?_some h1
      obtain ⟨r, d0, d1, d2, dl, rfl, hy, hr⟩ := act_open h2
      refine ⟨r, fun j hj => ?_, ⟨hr.f0, hr.f1, hr.hv, hr.hl, hr.hc, hr.hF, hr.hV, ?_⟩⟩
      · have := hc j hj
        rw [Go.Deep.add_add] at this
        exact this
      · rcases hr.len with e | ⟨es, sp, rfl, e⟩
        · rw [e]; simp
        · have hy' : D i = .agg [d0, d1, d2, .slice es sp] := hy
          have := hw ((es.length + sp.length) * 48) (List.mem_cons_of_mem _ (List.mem_append_left _ (weights_all (d := D i) (List.mem_map.2 ⟨i, List.mem_range.2 hi, rfl⟩) _ (by rw [hy']; exact weight_list))))
          omega)
    refine ⟨(List.range len).map R, ?_, ?_, by simp; omega⟩
    · by_cases hz : len = 0
      · subst hz
        exact .inl ⟨_, _, rfl, rfl⟩
      · right
        obtain ⟨b, off, spot⟩ := a
        have hc0 := (hR 0 (by omega)).1 0 (by decide)
        have hspot : spot = none := by
          have : W.cell? ((⟨b, off, spot⟩ : Addr).add (0 * 7 + 0)) = some (.int .i64 (R 0).ak) := hc0
          simpa [Addr.add] using World.cell?_spot this
        subst hspot
        refine ⟨b, off, m, by simp, ?_, fun j hj => ?_⟩
        · have : W.cell? ((⟨b, off, none⟩ : Addr).add (0 * 7 + 0)) = some (.int .i64 (R 0).ak) := hc0
          have := World.block_lt_of_cell? W _ this
          rw [add_at] at this
          exact this
        · have hj' : j < len := by simpa using hj
          have hc := (hR j hj').1
          simp only [List.getElem_map, List.getElem_range]
          have c0 := hc 0 (by decide)
          have c1 := hc 1 (by decide)
          have c2 := hc 2 (by decide)
          have c3 := hc 3 (by decide)
          have c4 := hc 4 (by decide)
          have c5 := hc 5 (by decide)
          have c6 := hc 6 (by decide)
          rw [add_at] at c0 c1 c2 c3 c4 c5 c6
          exact ⟨c0, c1, c2, c3, c4, c5, c6⟩
    · intro r hr
      obtain ⟨i, hi, rfl⟩ := List.mem_map.1 hr
      exact (hR i (List.mem_range.1 hi)).2
end Go.Proofs.Ytkpijoogaicodaa
