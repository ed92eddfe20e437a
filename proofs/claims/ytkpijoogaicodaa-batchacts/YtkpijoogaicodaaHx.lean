/-
  An act, as the form reads it.
-/
import Derived.Test.YtkpijoogaicodaaHw
import Derived.Test.YtkpijoogaicodaaFe
namespace Go.Proofs.Ytkpijoogaicodaa
open Go.RowKit Go.ChangeShapes Go.WideShapes Go.ChangeAt
set_option linter.unusedVariables false
set_option linter.unusedSimpArgs false
theorem cells51 : Try.prog.cellsOf 51 = 7 := by kernel_rfl
theorem cells4 : Try.prog.cellsOf 4 = 1 := by kernel_rfl
theorem cells23 : Try.prog.cellsOf 23 = 1 := by kernel_rfl
theorem list7 {cs : List Value} (h : cs.length = 7) : ∃ c0 c1 c2 c3 c4 c5 c6, cs = [c0, c1, c2, c3, c4, c5, c6] := by
  match cs, h with
  | [c0, c1, c2, c3, c4, c5, c6], _ => exact ⟨c0, c1, c2, c3, c4, c5, c6, rfl⟩
def Ac.c (x : Ac) : List Value := [.int .i64 x.ak, .bool x.nm, .int .u32 x.f, .int .i64 x.kd, .string x.key, .string x.val, x.sv]
/-- What the form says of an act; dl is the datum of its list. -/
structure AcRd {H : Type} (W : World) (x : Ac) (dl : DataW H) : Prop where
  f0 : 0 ≤ x.f
  f1 : x.f < 4294967296
  hv : (x.val.size : Int) ≤ 9223372036854775807
  hl : RdR W x.sv x.l
  hc : ∀ a n c, x.sv = .slice a n c → n ≤ c
  hF : ∀ r ∈ x.l, 0 ≤ r.fam ∧ r.fam < 4294967296
  hV : ∀ r ∈ x.l, (r.val.size : Int) ≤ 9223372036854775807
  len : x.l = [] ∨ ∃ es sp, dl = .slice es sp ∧ es.length = x.l.length
theorem act_open {H : Type} {enc : TypeId × Value → H} {W : World} {held : Bool} {n : Nat} {cs : List Value} {y : DataW H × List MemPlace} (h : DataW.trod enc Try.prog W 0 (fun _ => true) held n 51 cs = some y) :
    ∃ (x : Ac) (d0 d1 d2 dl : DataW H), cs = x.c ∧ y.1 = .agg [d0, d1, d2, dl] ∧ AcRd W x dl := by
  obtain ⟨xs, k, hk, hxy, hl, hxl, hf⟩ := DataW.trod_struct (show Try.prog.underlying 51 = _ from Try.underlying51) h
  have h0 : DataW.trod enc Try.prog W 0 (fun _ => true) held k 3 ((cs.drop 0).take (Try.prog.cellsOf 3)) = xs[0]? := hf 0 _ rfl
  have h1 : DataW.trod enc Try.prog W 0 (fun _ => true) held k 4 ((cs.drop 1).take (Try.prog.cellsOf 4)) = xs[1]? := hf 1 _ rfl
  have h2 : DataW.trod enc Try.prog W 0 (fun _ => true) held k 31 ((cs.drop 2).take (Try.prog.cellsOf 31)) = xs[2]? := hf 2 _ rfl
  have h3 : DataW.trod enc Try.prog W 0 (fun _ => true) held k 23 ((cs.drop 6).take (Try.prog.cellsOf 23)) = xs[3]? := hf 3 _ rfl
  rw [cells51] at hl
  have hxs : xs.length = 4 := hxl
  clear hf hxl h
  obtain ⟨c0, c1, c2, c3, c4, c5, c6, rfl⟩ := list7 hl
  match xs, hxs with
  | [x0, x1, x2, x3], _ =>
    simp only [cells4, cells31, cells23, cells3, List.drop_zero, List.drop_succ_cons, List.take_succ_cons, List.take_zero, List.getElem?_cons_zero, List.getElem?_cons_succ] at h0 h1 h2 h3
    obtain ⟨ak, e0, _, wk⟩ := DataW.trod_int Try.underlying3 h0
    obtain ⟨nm, e1, _⟩ := DataW.trod_bool Try.underlying4 h1
    obtain ⟨r, e2, f0, f1, _, hv⟩ := rec_open h2
    obtain ⟨l, q1, q2, q3, q4⟩ := recs_open2 h3
    have hc : ∀ a n c, c6 = .slice a n c → n ≤ c := by
      rcases Go.Deep.open_slice Try.underlying23 h3 with ⟨e, _⟩ | ⟨a, len, cap, m, n', D, Pl, hcs, hb, hlc, _⟩
      · simp at e; subst e; intro a n c e; cases e; exact Nat.le_refl _
      · simp at hcs; subst hcs; intro a n c e; cases e; exact hlc
    simp at e0 e1
    subst e0 e1
    obtain ⟨f, kd, key, val⟩ := r
    simp [Rec.c] at e2
    obtain ⟨rfl, rfl, rfl, rfl⟩ := e2
    exact ⟨⟨ak, nm, f, kd, key, val, c6, l⟩, x0.1, x1.1, x2.1, x3.1, rfl, by rw [hxy]; rfl, ⟨f0, f1, by unfold maxLen at hv; dsimp only at hv ⊢; omega, q1, hc, q2, q3, q4⟩⟩
end Go.Proofs.Ytkpijoogaicodaa
