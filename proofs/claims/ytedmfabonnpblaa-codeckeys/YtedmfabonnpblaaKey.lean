import Derived.Test.YtedmfabonnpblaaProg
import Derived.ProofKit
import Derived.OpenShut
import Derived.Lib.SmallJoins
namespace Go.Proofs.Ytedmfabonnpblaa
open Go.ChangeShapes Go.WideShapes Go.ChangeAt Go.RowKit Go.Joins
set_option linter.unusedVariables false

theorem cells42 : Try.prog.cellsOf 42 = 3 := by kernel_rfl
theorem cells55 : Try.prog.cellsOf 55 = 9 := by kernel_rfl
theorem cells9 : Try.prog.cellsOf 9 = 1 := by kernel_rfl
theorem cells22 : Try.prog.cellsOf 22 = 1 := by kernel_rfl
theorem cells3 : Try.prog.cellsOf 3 = 1 := by kernel_rfl

/-- A key, as the form reads it. -/
theorem key_open {H : Type} {enc : TypeId × Value → H} {W : World} {r : Reach} {b0 base : Nat} {spare : Nat → Bool} {held : Bool} {v : Value} {d : DataW H} {p : List MemPlace}
    (hv : Value.okWide Try.prog W r b0 42 v) (h : DataW.Trod enc Try.prog W base spare held 42 v d p) :
    ∃ (u : ByteArray) (s k : Int), v = .agg #[.string u, .int .u64 s, .int .i64 k] ∧ u.size ≤ maxLen ∧ 0 ≤ s ∧ s ≤ 18446744073709551615 ∧ -9223372036854775808 ≤ k ∧ k ≤ 9223372036854775807 := by
  obtain ⟨c0, c1, c2, y0, y1, y2, m, rfl, rfl, rfl, hy0, hy1, hy2⟩ := open_agg3 Try.underlying42 (by kernel_rfl) cells42 hv h
  obtain ⟨u, e0, rfl, wu⟩ := DataW.trod_string Try.underlying9 hy0
  obtain ⟨s, e1, rfl, ws⟩ := DataW.trod_int Try.underlying22 hy1
  obtain ⟨k, e2, rfl, wk⟩ := DataW.trod_int Try.underlying3 hy2
  simp at e0 e1 e2
  subst e0 e1 e2
  exact ⟨u, s, k, rfl, wu, (bounds_u64 ws).1, (bounds_u64 ws).2, (bounds_i64 wk).1, (bounds_i64 wk).2⟩

/-- The cells of a key. -/
theorem keycells_open {H : Type} {enc : TypeId × Value → H} {W : World} {base : Nat} {spare : Nat → Bool} {held : Bool} {n : Nat} {c0 c1 c2 : Value} {y : DataW H × List MemPlace}
    (h : DataW.trod enc Try.prog W base spare held n 42 [c0, c1, c2] = some y) : ∃ (u : ByteArray) (s k : Int), c0 = .string u ∧ c1 = .int .u64 s ∧ c2 = .int .i64 k := by
  obtain ⟨y0, y1, y2, m, _, _, h0, h1, h2⟩ := Go.Deep.trod_struct3 Try.underlying42 h
  simp only [cells9, cells22, cells3, List.drop_zero, List.drop_succ_cons, List.take_succ_cons, List.take_zero] at h0 h1 h2
  obtain ⟨u, e0, _, wu⟩ := DataW.trod_string Try.underlying9 h0
  obtain ⟨s, e1, _, ws⟩ := DataW.trod_int Try.underlying22 h1
  obtain ⟨k, e2, _, wk⟩ := DataW.trod_int Try.underlying3 h2
  simp at e0 e1 e2
  exact ⟨u, s, k, e0, e1, e2⟩
theorem array9 {α : Type} {cs : Array α} (h : cs.size = 9) : ∃ c0 c1 c2 c3 c4 c5 c6 c7 c8, cs = #[c0, c1, c2, c3, c4, c5, c6, c7, c8] := by
  obtain ⟨l⟩ := cs
  match l, h with
  | [c0, c1, c2, c3, c4, c5, c6, c7, c8], _ => exact ⟨c0, c1, c2, c3, c4, c5, c6, c7, c8, rfl⟩
/-- Three keys, as the form reads them. -/
theorem three_open {H : Type} {enc : TypeId × Value → H} {W : World} {r : Reach} {b0 base : Nat} {spare : Nat → Bool} {held : Bool} {v : Value} {d : DataW H} {p : List MemPlace}
    (hv : Value.okWide Try.prog W r b0 55 v) (h : DataW.Trod enc Try.prog W base spare held 55 v d p) :
    ∃ (u1 : ByteArray) (s1 k1 : Int) (u2 : ByteArray) (s2 k2 : Int) (u3 : ByteArray) (s3 k3 : Int), v = .agg #[.string u1, .int .u64 s1, .int .i64 k1, .string u2, .int .u64 s2, .int .i64 k2, .string u3, .int .u64 s3, .int .i64 k3] := by
  obtain ⟨cs, rfl, hsz⟩ := okWide_struct Try.underlying55 hv
  obtain ⟨c0, c1, c2, c3, c4, c5, c6, c7, c8, rfl⟩ := array9 (hsz.trans cells55)
  obtain ⟨fuel, hf⟩ := h
  obtain ⟨y0, y1, y2, n, _, _, h0, h1, h2⟩ := Go.Deep.trod_struct3 Try.underlying55 hf
  simp only [Value.cells, cells42, List.drop_zero, List.drop_succ_cons, List.take_succ_cons, List.take_zero] at h0 h1 h2
  obtain ⟨u1, s1, k1, rfl, rfl, rfl⟩ := keycells_open h0
  obtain ⟨u2, s2, k2, rfl, rfl, rfl⟩ := keycells_open h1
  obtain ⟨u3, s3, k3, rfl, rfl, rfl⟩ := keycells_open h2
  exact ⟨u1, s1, k1, u2, s2, k2, u3, s3, k3, rfl⟩
end Go.Proofs.Ytedmfabonnpblaa
