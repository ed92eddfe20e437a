/-
  A version as the form reads it, with the sizes of its texts and with the bound on what is read.
-/
import Derived.Test.YtkmpcheamdadcaaZc
import Derived.Test.YtkmpcheamdadcaaHc
namespace Go.Proofs.Ytkmpcheamdadcaa
open Go.RowKit Go.ChangeShapes Go.WideShapes Go.ChangeAt
set_option linter.unusedVariables false
set_option linter.unusedSimpArgs false
section
variable {H : Type} {enc : TypeId × Value → H} {W : World} {base : Nat} {spare : Nat → Bool} {held : Bool}
theorem s_open' {n : Nat} {c : Value} {y : DataW H × List MemPlace} (h : DataW.trod enc Try.prog W base spare held n 9 [c] = some y) : ∃ s : ByteArray, c = .string s ∧ s.size ≤ maxLen := by
  obtain ⟨s, e, _, hm⟩ := DataW.trod_string Try.underlying9 h
  simp at e
  exact ⟨s, e, hm⟩
theorem key_open' {n : Nat} {cs : List Value} {y : DataW H × List MemPlace} (h : DataW.trod enc Try.prog W base spare held n 48 cs = some y) :
    ∃ k : Ky, cs = [.string k.u, .int .u64 k.s, .int .i64 k.k] ∧ (0 ≤ k.s ∧ k.s < 18446744073709551616) ∧ (-9223372036854775808 ≤ k.k ∧ k.k ≤ 9223372036854775807) ∧ k.u.size ≤ maxLen := by
  obtain ⟨y0, y1, y2, m, _, hl, h0, h1, h2⟩ := Go.Deep.trod_struct3 Try.underlying48 h
  rw [cells48] at hl
  obtain ⟨c0, c1, c2, rfl⟩ := list3 hl
  simp only [cells9, cells23, cells3, List.drop_zero, List.drop_succ_cons, List.take_succ_cons, List.take_zero] at h0 h1 h2
  obtain ⟨u, rfl, hm⟩ := s_open' h0
  obtain ⟨s, rfl, a1, a2⟩ := u_open h1
  obtain ⟨k, rfl, b1, b2⟩ := i_open h2
  exact ⟨⟨u, s, k⟩, rfl, ⟨a1, a2⟩, ⟨b1, b2⟩, hm⟩
set_option maxRecDepth 100000 in
theorem fi_open' {n : Nat} {cs : List Value} {y : DataW H × List MemPlace} (h : DataW.trod enc Try.prog W base spare held n 50 cs = some y) : ∃ f : Fi, cs = f.c ∧ FKy f := by
  obtain ⟨xs, m, _, rfl, hl, hlen, hf⟩ := DataW.trod_struct Try.underlying50 h
  match xs, hlen with
  | [y0, y1, y2, y3, y4, y5], _ =>
    have h0 := hf 0 _ rfl
    have h1 := hf 1 _ rfl
    have h2 := hf 2 _ rfl
    have h3 := hf 3 _ rfl
    have h4 := hf 4 _ rfl
    have h5 := hf 5 _ rfl
    rw [cells50] at hl
    obtain ⟨c0, c1, c2, c3, c4, c5, c6, c7, c8, c9, rfl⟩ := list10 hl
    simp only [cells9, cells23, cells48, cells3, List.drop_zero, List.drop_succ_cons, List.take_succ_cons, List.take_zero, List.getElem?_cons_zero, List.getElem?_cons_succ] at h0 h1 h2 h3 h4 h5
    obtain ⟨n0, rfl, p1, p2⟩ := u_open h0
    obtain ⟨n1, rfl, p3, p4⟩ := u_open h1
    obtain ⟨k2, e2, p5, p6, p7⟩ := key_open' h2
    obtain ⟨k3, e3, p8, p9, p10⟩ := key_open' h3
    obtain ⟨n4, rfl, p11, p12⟩ := u_open h4
    obtain ⟨n5, rfl, p13, p14⟩ := u_open h5
    cases e2
    cases e3
    exact ⟨⟨n0, n1, k2, k3, n4, n5⟩, rfl, ⟨⟨p1, p2⟩, ⟨p3, p4⟩, p5, p8, ⟨p11, p12⟩, ⟨p13, p14⟩, p6, p9⟩, p7, p10⟩
end
theorem files_open' {H : Type} {enc : TypeId × Value → H} {W : World} {n : Nat} {c : Value} {y : DataW H × List MemPlace} (h : DataW.trod enc Try.prog W 0 (fun _ => true) true n 38 [c] = some y) :
    ∃ (a : Option Addr) (cap : Nat) (l : List Fi), c = .slice a l.length cap ∧ RdF W a l ∧ (a = none → cap = 0) ∧ (∀ f ∈ l, FKy f) ∧ (l = [] ∨ ∃ es sp, y.1 = .slice es sp ∧ es.length = l.length) := by
  obtain ⟨a, len, cap, rfl⟩ : ∃ a n c', c = .slice a n c' := by
    rcases Go.Deep.open_slice Try.underlying38 h with ⟨h0, _⟩ | ⟨a', len', cap', m, n', D, Pl, hcs, _⟩
    · simp at h0; exact ⟨_, _, _, h0⟩
    · simp at hcs; exact ⟨_, _, _, hcs⟩
  obtain ⟨l, rfl, h2, h3, h4⟩ := slice_open fi_k (by decide) Try.underlying38 cells50 (Ok := fun t _ => FKy t) (fun m cs y hy => fi_open' hy) h
  refine ⟨a, cap, l, rfl, h2, h3, fun t ht => ?_, ?_⟩
  · rcases h4 with rfl | ⟨es, sp, _, e, hh⟩
    · simp at ht
    · obtain ⟨i, hi, rfl⟩ := List.getElem_of_mem ht
      exact hh i _ _ (List.getElem?_eq_getElem hi) (List.getElem?_eq_getElem (by omega))
  · rcases h4 with rfl | ⟨es, sp, e1, e, _⟩
    · exact .inl rfl
    · exact .inr ⟨es, sp, e1, e⟩
theorem bulk_pos {H : Type} (d : DataW H) : 1 ≤ Rows.uptoBulk d := by
  cases d with
  | lit l => cases l <;> simp [Rows.uptoBulk]
  | nil => simp [Rows.uptoBulk]
  | ptr d => simp [Rows.uptoBulk]
  | slice a b => simp [Rows.uptoBulk]
  | agg l => simp [Rows.uptoBulk]
  | iface s d => simp [Rows.uptoBulk]
  | map l => simp [Rows.uptoBulk]
  | held h => simp [Rows.uptoBulk]
theorem bulk_ge {H : Type} (l : List (DataW H)) : l.length ≤ Rows.uptoBulkAll l := by
  induction l with
  | nil => simp
  | cons x l ih =>
    have h1 := bulk_pos x
    simp only [Rows.uptoBulkAll, List.length_cons]
    omega
theorem bulk_slice {H : Type} (es sp : List (DataW H)) : es.length ≤ Rows.uptoBulk (DataW.slice es sp) := by
  have := bulk_ge es
  simp only [Rows.uptoBulk]
  omega
theorem bulk_part {H : Type} {d : DataW H} : ∀ {l : List (DataW H)}, d ∈ l → Rows.uptoBulk d ≤ Rows.uptoBulkAll l
  | x :: l, h => by
    simp only [Rows.uptoBulkAll]
    rcases List.mem_cons.1 h with rfl | h
    · omega
    · have := bulk_part h; omega
set_option maxRecDepth 100000 in
/-- A version, as the form reads it. -/
theorem ver_open' {H : Type} {enc : TypeId × Value → H} {W : World} {v : Value} {d : DataW H} {p : List MemPlace} {r : Reach} {b0 : Nat} (hv : Value.okWide Try.prog W r b0 41 v) (h : DataW.Trod enc Try.prog W 0 (fun _ => true) true 41 v d p)
    (hk : Rows.uptoBulk d ≤ 1048576) : ∃ (V : Vn) (L : Nat → List Fi), v = .agg (verA V L) ∧ RdV W V L ∧ (∀ i, i < 7 → (L i).length ≤ 1048576) ∧ ∀ i, i < 7 → ∀ f ∈ L i, FKy f := by
  obtain ⟨cs, rfl, hsz⟩ := okWide_struct Try.underlying41 hv
  obtain ⟨c0, c1, c2, c3, c4, c5, c6, rfl⟩ := array7 (hsz.trans cells41)
  obtain ⟨fuel, hf⟩ := h
  obtain ⟨y, m, hx, _, g0⟩ := trod_struct1 Try.underlying41 hf
  have g1 : DataW.trod enc Try.prog W 0 (fun _ => true) true m 39 [c0, c1, c2, c3, c4, c5, c6] = some y := by
    simpa [Value.cells, cells39] using g0
  obtain ⟨y0, y1, y2, y3, y4, y5, y6, m', hy, k0, k1, k2, k3, k4, k5, k6⟩ := trod_array7 Try.underlying39 cells38 g1
  have hd : d = .agg [.agg [y0.1, y1.1, y2.1, y3.1, y4.1, y5.1, y6.1]] := by
    have := congrArg (·.1) hx
    simp only at this
    rw [this, hy]
  obtain ⟨a0, p0, l0, rfl, r0, n0, o0, b0'⟩ := files_open' k0
  obtain ⟨a1, p1, l1, rfl, r1, n1, o1, b1⟩ := files_open' k1
  obtain ⟨a2, p2, l2, rfl, r2, n2, o2, b2⟩ := files_open' k2
  obtain ⟨a3, p3, l3, rfl, r3, n3, o3, b3⟩ := files_open' k3
  obtain ⟨a4, p4, l4, rfl, r4, n4, o4, b4⟩ := files_open' k4
  obtain ⟨a5, p5, l5, rfl, r5, n5, o5, b5⟩ := files_open' k5
  obtain ⟨a6, p6, l6, rfl, r6, n6, o6, b6⟩ := files_open' k6
  have hB : ∀ (l : List Fi) (z : DataW H), z ∈ [y0.1, y1.1, y2.1, y3.1, y4.1, y5.1, y6.1] → (l = [] ∨ ∃ es sp, z = .slice es sp ∧ es.length = l.length) → l.length ≤ 1048576 := by
    intro l z hz hh
    rcases hh with rfl | ⟨es, sp, rfl, e⟩
    · simp
    · have h1 := bulk_part hz
      have h2 := bulk_slice es sp
      rw [hd] at hk
      simp only [Rows.uptoBulk] at hk
      rw [Rows.uptoBulkAll, Rows.uptoBulk] at hk
      omega
  have q0 := hB l0 _ (by simp) b0'
  have q1 := hB l1 _ (by simp) b1
  have q2 := hB l2 _ (by simp) b2
  have q3 := hB l3 _ (by simp) b3
  have q4 := hB l4 _ (by simp) b4
  have q5 := hB l5 _ (by simp) b5
  have q6 := hB l6 _ (by simp) b6
  refine ⟨⟨fun i => match i with | 0 => a0 | 1 => a1 | 2 => a2 | 3 => a3 | 4 => a4 | 5 => a5 | _ => a6, fun i => match i with | 0 => p0 | 1 => p1 | 2 => p2 | 3 => p3 | 4 => p4 | 5 => p5 | _ => p6⟩, fun i => match i with | 0 => l0 | 1 => l1 | 2 => l2 | 3 => l3 | 4 => l4 | 5 => l5 | _ => l6, rfl, ⟨?_, ?_, ?_, ?_⟩, ?_, ?_⟩
  all_goals (intro i hi; have hh : i = 0 ∨ i = 1 ∨ i = 2 ∨ i = 3 ∨ i = 4 ∨ i = 5 ∨ i = 6 := by omega)
  · rcases hh with rfl | rfl | rfl | rfl | rfl | rfl | rfl <;> assumption
  · rcases hh with rfl | rfl | rfl | rfl | rfl | rfl | rfl <;> assumption
  · rcases hh with rfl | rfl | rfl | rfl | rfl | rfl | rfl
    · exact (by omega : l0.length * 96 ≤ 140737488355328)
    · exact (by omega : l1.length * 96 ≤ 140737488355328)
    · exact (by omega : l2.length * 96 ≤ 140737488355328)
    · exact (by omega : l3.length * 96 ≤ 140737488355328)
    · exact (by omega : l4.length * 96 ≤ 140737488355328)
    · exact (by omega : l5.length * 96 ≤ 140737488355328)
    · exact (by omega : l6.length * 96 ≤ 140737488355328)
  · rcases hh with rfl | rfl | rfl | rfl | rfl | rfl | rfl <;> (intro f hf; first | exact (o0 f hf).ok | exact (o1 f hf).ok | exact (o2 f hf).ok | exact (o3 f hf).ok | exact (o4 f hf).ok | exact (o5 f hf).ok | exact (o6 f hf).ok)
  · rcases hh with rfl | rfl | rfl | rfl | rfl | rfl | rfl <;> assumption
  · rcases hh with rfl | rfl | rfl | rfl | rfl | rfl | rfl <;> assumption
end Go.Proofs.Ytkmpcheamdadcaa
