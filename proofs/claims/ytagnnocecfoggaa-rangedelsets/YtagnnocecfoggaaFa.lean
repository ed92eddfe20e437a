/-
  What a set is asked, as the form reads it.
-/
import Derived.Test.YtagnnocecfoggaaFs
namespace Go.Proofs.Ytagnnocecfoggaa
open Go.RowKit Go.ChangeShapes Go.WideShapes Go.ChangeAt
set_option linter.unusedVariables false
set_option linter.unusedSimpArgs false
/-- What is asked: two keys, a key with its number and kind, two numbers. -/
structure Ak where
  b : ByteArray
  e : ByteArray
  u : ByteArray
  s : Int
  kd : Int
  lo : Int
  n : Int
deriving Inhabited
def Ak.c (x : Ak) : List Value := [.string x.b, .string x.e, .string x.u, .int .u64 x.s, .int .i64 x.kd, .int .u64 x.lo, .int .u64 x.n]
theorem ak_k : ∀ t : Ak, t.c.length = 7 := fun _ => rfl
theorem cells42 : Try.prog.cellsOf 42 = 7 := by kernel_rfl
theorem cells40 : Try.prog.cellsOf 40 = 3 := by kernel_rfl
theorem cells3 : Try.prog.cellsOf 3 = 1 := by kernel_rfl
theorem list7 {cs : List Value} (h : cs.length = 7) : ∃ c0 c1 c2 c3 c4 c5 c6, cs = [c0, c1, c2, c3, c4, c5, c6] := by
  match cs, h with
  | [c0, c1, c2, c3, c4, c5, c6], _ => exact ⟨c0, c1, c2, c3, c4, c5, c6, rfl⟩
theorem asked_open {H : Type} {enc : TypeId × Value → H} {W : World} {base : Nat} {spare : Nat → Bool} {held : Bool} {n : Nat} {cs : List Value} {y : DataW H × List MemPlace} (h : DataW.trod enc Try.prog W base spare held n 42 cs = some y) :
    ∃ t : Ak, cs = t.c ∧ 0 ≤ t.s ∧ 0 ≤ t.lo ∧ 0 ≤ t.n := by
  obtain ⟨xs, m, _, _, hl, hlen, hf⟩ := DataW.trod_struct Try.underlying42 h
  rw [cells42] at hl
  obtain ⟨c0, c1, c2, c3, c4, c5, c6, rfl⟩ := list7 hl
  match xs, hlen with
  | [y0, y1, y2, y3, y4], _ =>
    have h0 : DataW.trod enc Try.prog W base spare held m 9 (List.take (Try.prog.cellsOf 9) (List.drop 0 [c0, c1, c2, c3, c4, c5, c6])) = some y0 := hf 0 _ rfl
    have h1 : DataW.trod enc Try.prog W base spare held m 9 (List.take (Try.prog.cellsOf 9) (List.drop 1 [c0, c1, c2, c3, c4, c5, c6])) = some y1 := hf 1 _ rfl
    have h2 : DataW.trod enc Try.prog W base spare held m 40 (List.take (Try.prog.cellsOf 40) (List.drop 2 [c0, c1, c2, c3, c4, c5, c6])) = some y2 := hf 2 _ rfl
    have h3 : DataW.trod enc Try.prog W base spare held m 38 (List.take (Try.prog.cellsOf 38) (List.drop 5 [c0, c1, c2, c3, c4, c5, c6])) = some y3 := hf 3 _ rfl
    have h4 : DataW.trod enc Try.prog W base spare held m 38 (List.take (Try.prog.cellsOf 38) (List.drop 6 [c0, c1, c2, c3, c4, c5, c6])) = some y4 := hf 4 _ rfl
    simp only [cells9, cells38, cells40, List.drop_zero, List.drop_succ_cons, List.take_succ_cons, List.take_zero] at h0 h1 h2 h3 h4
    obtain ⟨b, e0, _, _⟩ := DataW.trod_string Try.underlying9 h0
    obtain ⟨e, e1, _, _⟩ := DataW.trod_string Try.underlying9 h1
    obtain ⟨z0, z1, z2, m2, _, _, k0, k1, k2⟩ := Go.Deep.trod_struct3 Try.underlying40 h2
    simp only [cells9, cells38, cells3, List.drop_zero, List.drop_succ_cons, List.take_succ_cons, List.take_zero] at k0 k1 k2
    obtain ⟨u, e2, _, _⟩ := DataW.trod_string Try.underlying9 k0
    obtain ⟨s, e3, _, w3⟩ := DataW.trod_int Try.underlying38 k1
    obtain ⟨kd, e4, _, w4⟩ := DataW.trod_int Try.underlying3 k2
    obtain ⟨lo, e5, _, w5⟩ := DataW.trod_int Try.underlying38 h3
    obtain ⟨nn, e6, _, w6⟩ := DataW.trod_int Try.underlying38 h4
    simp at e0 e1 e2 e3 e4 e5 e6
    subst e0 e1 e2 e3 e4 e5 e6
    exact ⟨⟨b, e, u, s, kd, lo, nn⟩, rfl, (bounds_u64 w3).1, (bounds_u64 w5).1, (bounds_u64 w6).1⟩
theorem askeds_open {H : Type} {enc : TypeId × Value → H} {W : World} {held : Bool} {n : Nat} {a : Option Addr} {len cap : Nat} {x : DataW H × List MemPlace} (h : DataW.trod enc Try.prog W 0 (fun _ => true) held n 34 [.slice a len cap] = some x) :
    ∃ l : List Ak, l.length = len ∧ Rd Ak.c 7 W a l ∧ (∀ t ∈ l, 0 ≤ t.s ∧ 0 ≤ t.lo ∧ 0 ≤ t.n) ∧ (l = [] ∨ ∃ es sp, x.1 = .slice es sp ∧ es.length = l.length) := by
  obtain ⟨l, h1, h2, h3, h4⟩ := slice_open ak_k (by decide) Try.underlying34 cells42 (Ok := fun t _ => 0 ≤ t.s ∧ 0 ≤ t.lo ∧ 0 ≤ t.n) (fun m cs y hy => asked_open hy) h
  refine ⟨l, h1, h2, fun t ht => ?_, ?_⟩
  · rcases h4 with rfl | ⟨es, sp, _, e, hh⟩
    · simp at ht
    · obtain ⟨i, hi, rfl⟩ := List.getElem_of_mem ht
      exact hh i _ _ (List.getElem?_eq_getElem hi) (List.getElem?_eq_getElem (by omega))
  · rcases h4 with rfl | ⟨es, sp, e1, e, _⟩
    · exact .inl rfl
    · exact .inr ⟨es, sp, e1, e⟩
end Go.Proofs.Ytagnnocecfoggaa
