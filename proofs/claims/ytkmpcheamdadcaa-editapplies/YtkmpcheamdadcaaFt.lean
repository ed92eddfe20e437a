/-
  An edit, as the form reads it.
-/
import Derived.Test.YtkmpcheamdadcaaFs
namespace Go.Proofs.Ytkmpcheamdadcaa
open Go.RowKit Go.ChangeShapes Go.WideShapes Go.ChangeAt
set_option linter.unusedVariables false
set_option linter.unusedSimpArgs false
theorem cells66 : Try.prog.cellsOf 66 = 2 := by kernel_rfl
theorem cells22 : Try.prog.cellsOf 22 = 1 := by kernel_rfl
theorem cells4 : Try.prog.cellsOf 4 = 1 := by kernel_rfl
theorem cells24 : Try.prog.cellsOf 24 = 1 := by kernel_rfl
theorem cells25 : Try.prog.cellsOf 25 = 1 := by kernel_rfl
theorem cells27 : Try.prog.cellsOf 27 = 13 := by kernel_rfl
theorem bytes66 : Try.prog.bytesOf 66 = 16 := by kernel_rfl
theorem bytes64 : Try.prog.bytesOf 64 = 104 := by kernel_rfl
section
variable {H : Type} {enc : TypeId × Value → H} {W : World} {base : Nat} {spare : Nat → Bool} {held : Bool}
theorem f_open {n : Nat} {c : Value} {y : DataW H × List MemPlace} (h : DataW.trod enc Try.prog W base spare held n 22 [c] = some y) : ∃ s : Int, c = .int .u32 s := by
  obtain ⟨s, e, _, ws⟩ := DataW.trod_int Try.underlying22 h
  simp at e
  exact ⟨s, e⟩
theorem b_open {n : Nat} {c : Value} {y : DataW H × List MemPlace} (h : DataW.trod enc Try.prog W base spare held n 4 [c] = some y) : ∃ b : Bool, c = .bool b := by
  obtain ⟨b, e, _⟩ := DataW.trod_bool Try.underlying4 h
  simp at e
  exact ⟨b, e⟩
set_option maxRecDepth 100000 in
theorem gn_open {n : Nat} {cs : List Value} {y : DataW H × List MemPlace} (h : DataW.trod enc Try.prog W base spare held n 66 cs = some y) : ∃ g : Gn, cs = g.c ∧ True := by
  obtain ⟨xs, m, _, rfl, hl, hlen, hf⟩ := DataW.trod_struct Try.underlying66 h
  match xs, hlen with
  | [y0, y1], _ =>
    rw [cells66] at hl
    match cs, hl with
    | [c0, c1], _ =>
      have h0 : DataW.trod enc Try.prog W base spare held m 3 [c0] = some y0 := by
        have := hf 0 _ rfl
        change DataW.trod enc Try.prog W base spare held m 3 (List.take (Try.prog.cellsOf 3) _) = _ at this
        rw [cells3] at this
        exact this
      have h1 : DataW.trod enc Try.prog W base spare held m 23 [c1] = some y1 := by
        have := hf 1 _ rfl
        change DataW.trod enc Try.prog W base spare held m 23 (List.take (Try.prog.cellsOf 23) _) = _ at this
        rw [cells23] at this
        exact this
      obtain ⟨k, rfl, _, _⟩ := i_open h0
      obtain ⟨s, rfl, _, _⟩ := u_open h1
      exact ⟨⟨k, s⟩, rfl, trivial⟩
end
theorem gones_open {H : Type} {enc : TypeId × Value → H} {W : World} {n : Nat} {c : Value} {y : DataW H × List MemPlace} (h : DataW.trod enc Try.prog W 0 (fun _ => true) true n 24 [c] = some y) :
    ∃ (a : Option Addr) (cap : Nat) (l : List Gn), c = .slice a l.length cap ∧ RdG W a l ∧ (a = none → cap = 0) ∧ (l = [] ∨ ∃ es sp, y.1 = .slice es sp ∧ es.length = l.length) := by
  obtain ⟨a, len, cap, rfl⟩ : ∃ a n c', c = .slice a n c' := by
    rcases Go.Deep.open_slice Try.underlying24 h with ⟨h0, _⟩ | ⟨a', len', cap', m, n', D, Pl, hcs, _⟩
    · simp at h0; exact ⟨_, _, _, h0⟩
    · simp at hcs; exact ⟨_, _, _, hcs⟩
  obtain ⟨l, rfl, h2, h3, h4⟩ := slice_open gn_k (by decide) Try.underlying24 cells66 (Ok := fun t _ => True) (fun m cs y hy => gn_open hy) h
  refine ⟨a, cap, l, rfl, h2, h3, ?_⟩
  rcases h4 with rfl | ⟨es, sp, e1, e, _⟩
  · exact .inl rfl
  · exact .inr ⟨es, sp, e1, e⟩
theorem adds_open {H : Type} {enc : TypeId × Value → H} {W : World} {n : Nat} {c : Value} {y : DataW H × List MemPlace} (h : DataW.trod enc Try.prog W 0 (fun _ => true) true n 25 [c] = some y) :
    ∃ (a : Option Addr) (cap : Nat) (l : List Ad), c = .slice a l.length cap ∧ RdA W a l ∧ (a = none → cap = 0) ∧ (∀ x ∈ l, FOk x.f) ∧ (l = [] ∨ ∃ es sp, y.1 = .slice es sp ∧ es.length = l.length) := by
  obtain ⟨a, len, cap, rfl⟩ : ∃ a n c', c = .slice a n c' := by
    rcases Go.Deep.open_slice Try.underlying25 h with ⟨h0, _⟩ | ⟨a', len', cap', m, n', D, Pl, hcs, _⟩
    · simp at h0; exact ⟨_, _, _, h0⟩
    · simp at hcs; exact ⟨_, _, _, hcs⟩
  obtain ⟨l, rfl, h2, h3, h4⟩ := slice_open ad_k (by decide) Try.underlying25 cells64 (Ok := fun t _ => FOk t.f) (fun m cs y hy => by obtain ⟨a, h1, h2, _, _⟩ := ad_open hy; exact ⟨a, h1, h2⟩) h
  refine ⟨a, cap, l, rfl, h2, h3, fun t ht => ?_, ?_⟩
  · rcases h4 with rfl | ⟨es, sp, _, e, hh⟩
    · simp at ht
    · obtain ⟨i, hi, rfl⟩ := List.getElem_of_mem ht
      exact hh i _ _ (List.getElem?_eq_getElem hi) (List.getElem?_eq_getElem (by omega))
  · rcases h4 with rfl | ⟨es, sp, e1, e, _⟩
    · exact .inl rfl
    · exact .inr ⟨es, sp, e1, e⟩
theorem array13 {cs : Array Value} (h : cs.size = 13) : ∃ c0 c1 c2 c3 c4 c5 c6 c7 c8 c9 c10 c11 c12, cs = #[c0, c1, c2, c3, c4, c5, c6, c7, c8, c9, c10, c11, c12] := by
  obtain ⟨l⟩ := cs
  match l, h with
  | [c0, c1, c2, c3, c4, c5, c6, c7, c8, c9, c10, c11, c12], _ => exact ⟨c0, c1, c2, c3, c4, c5, c6, c7, c8, c9, c10, c11, c12, rfl⟩
theorem list13y {α : Type} {cs : List α} (h : cs.length = 13) : ∃ c0 c1 c2 c3 c4 c5 c6 c7 c8 c9 c10 c11 c12, cs = [c0, c1, c2, c3, c4, c5, c6, c7, c8, c9, c10, c11, c12] := by
  match cs, h with
  | [c0, c1, c2, c3, c4, c5, c6, c7, c8, c9, c10, c11, c12], _ => exact ⟨c0, c1, c2, c3, c4, c5, c6, c7, c8, c9, c10, c11, c12, rfl⟩
set_option maxRecDepth 100000 in
/-- An edit, as the form reads it. -/
theorem ed_open {H : Type} {enc : TypeId × Value → H} {W : World} {v : Value} {d : DataW H} {p : List MemPlace} {r : Reach} {b0 : Nat} (hv : Value.okWide Try.prog W r b0 27 v) (h : DataW.Trod enc Try.prog W 0 (fun _ => true) true 27 v d p)
    (hw : ∀ n, n ∈ DataW.weights Try.prog 27 d → n ≤ reachBytes) : ∃ (P : En) (e : Ed), v = .agg (edA P e) ∧ RdEd W P e ∧ ∀ a ∈ e.added, FOk a.f := by
  obtain ⟨cs, rfl, hsz⟩ := okWide_struct Try.underlying27 hv
  obtain ⟨c0, c1, c2, c3, c4, c5, c6, c7, c8, c9, c10, c11, c12, rfl⟩ := array13 (hsz.trans cells27)
  obtain ⟨fuel, hf0⟩ := h
  obtain ⟨xs, m, _, hx, hl, hlen, hf⟩ := DataW.trod_struct Try.underlying27 hf0
  obtain ⟨y0, y1, y2, y3, y4, y5, y6, y7, y8, y9, y10, y11, y12, rfl⟩ := list13y (show xs.length = 13 from hlen)
  have hd : d = .agg [y0.1, y1.1, y2.1, y3.1, y4.1, y5.1, y6.1, y7.1, y8.1, y9.1, y10.1, y11.1, y12.1] := by
    have := congrArg (·.1) hx
    simpa using this
  have k0 : DataW.trod enc Try.prog W 0 (fun _ => true) true m 22 [c0] = some y0 := by
    have := hf 0 _ rfl
    change DataW.trod enc Try.prog W 0 (fun _ => true) true m 22 (List.take (Try.prog.cellsOf 22) _) = _ at this
    rw [cells22] at this; exact this
  have k1 : DataW.trod enc Try.prog W 0 (fun _ => true) true m 4 [c1] = some y1 := by
    have := hf 1 _ rfl
    change DataW.trod enc Try.prog W 0 (fun _ => true) true m 4 (List.take (Try.prog.cellsOf 4) _) = _ at this
    rw [cells4] at this; exact this
  have k2 : DataW.trod enc Try.prog W 0 (fun _ => true) true m 4 [c2] = some y2 := by
    have := hf 2 _ rfl
    change DataW.trod enc Try.prog W 0 (fun _ => true) true m 4 (List.take (Try.prog.cellsOf 4) _) = _ at this
    rw [cells4] at this; exact this
  have k3 : DataW.trod enc Try.prog W 0 (fun _ => true) true m 9 [c3] = some y3 := by
    have := hf 3 _ rfl
    change DataW.trod enc Try.prog W 0 (fun _ => true) true m 9 (List.take (Try.prog.cellsOf 9) _) = _ at this
    rw [cells9] at this; exact this
  have k4 : DataW.trod enc Try.prog W 0 (fun _ => true) true m 3 [c4] = some y4 := by
    have := hf 4 _ rfl
    change DataW.trod enc Try.prog W 0 (fun _ => true) true m 3 (List.take (Try.prog.cellsOf 3) _) = _ at this
    rw [cells3] at this; exact this
  have k5 : DataW.trod enc Try.prog W 0 (fun _ => true) true m 4 [c5] = some y5 := by
    have := hf 5 _ rfl
    change DataW.trod enc Try.prog W 0 (fun _ => true) true m 4 (List.take (Try.prog.cellsOf 4) _) = _ at this
    rw [cells4] at this; exact this
  have k6 : DataW.trod enc Try.prog W 0 (fun _ => true) true m 4 [c6] = some y6 := by
    have := hf 6 _ rfl
    change DataW.trod enc Try.prog W 0 (fun _ => true) true m 4 (List.take (Try.prog.cellsOf 4) _) = _ at this
    rw [cells4] at this; exact this
  have k7 : DataW.trod enc Try.prog W 0 (fun _ => true) true m 4 [c7] = some y7 := by
    have := hf 7 _ rfl
    change DataW.trod enc Try.prog W 0 (fun _ => true) true m 4 (List.take (Try.prog.cellsOf 4) _) = _ at this
    rw [cells4] at this; exact this
  have k8 : DataW.trod enc Try.prog W 0 (fun _ => true) true m 23 [c8] = some y8 := by
    have := hf 8 _ rfl
    change DataW.trod enc Try.prog W 0 (fun _ => true) true m 23 (List.take (Try.prog.cellsOf 23) _) = _ at this
    rw [cells23] at this; exact this
  have k9 : DataW.trod enc Try.prog W 0 (fun _ => true) true m 23 [c9] = some y9 := by
    have := hf 9 _ rfl
    change DataW.trod enc Try.prog W 0 (fun _ => true) true m 23 (List.take (Try.prog.cellsOf 23) _) = _ at this
    rw [cells23] at this; exact this
  have k10 : DataW.trod enc Try.prog W 0 (fun _ => true) true m 23 [c10] = some y10 := by
    have := hf 10 _ rfl
    change DataW.trod enc Try.prog W 0 (fun _ => true) true m 23 (List.take (Try.prog.cellsOf 23) _) = _ at this
    rw [cells23] at this; exact this
  have k11 : DataW.trod enc Try.prog W 0 (fun _ => true) true m 24 [c11] = some y11 := by
    have := hf 11 _ rfl
    change DataW.trod enc Try.prog W 0 (fun _ => true) true m 24 (List.take (Try.prog.cellsOf 24) _) = _ at this
    rw [cells24] at this; exact this
  have k12 : DataW.trod enc Try.prog W 0 (fun _ => true) true m 25 [c12] = some y12 := by
    have := hf 12 _ rfl
    change DataW.trod enc Try.prog W 0 (fun _ => true) true m 25 (List.take (Try.prog.cellsOf 25) _) = _ at this
    rw [cells25] at this; exact this
  obtain ⟨fam, rfl⟩ := f_open k0
  obtain ⟨ma, rfl⟩ := b_open k1
  obtain ⟨dr, rfl⟩ := b_open k2
  obtain ⟨name, rfl⟩ := s_open k3
  obtain ⟨how, rfl, _, _⟩ := i_open k4
  obtain ⟨hl1, rfl⟩ := b_open k5
  obtain ⟨hn1, rfl⟩ := b_open k6
  obtain ⟨hs1, rfl⟩ := b_open k7
  obtain ⟨log, rfl, _, _⟩ := u_open k8
  obtain ⟨next, rfl, _, _⟩ := u_open k9
  obtain ⟨seq, rfl, _, _⟩ := u_open k10
  obtain ⟨ga, gc, gone, rfl, hg1, hg2, hg3⟩ := gones_open k11
  obtain ⟨aa, ac, added, rfl, ha1, ha2, ha3, ha4⟩ := adds_open k12
  refine ⟨⟨ga, gc, aa, ac⟩, ⟨fam, ma, dr, name, how, hl1, hn1, hs1, log, next, seq, gone, added⟩, rfl, ⟨hg1, ha1, hg2, ha2, ?_, ?_⟩, ha3⟩
  · rcases hg3 with rfl | ⟨es, sp, e1, e2⟩
    · simp
    · have := hw ((es.length + sp.length) * 16) (by
        rw [hd, e1]
        simp [DataW.weights, DataW.weightsEach, Try.underlying27, Try.underlying24, bytes66])
      simp only [reachBytes] at this
      dsimp only
      omega
  · rcases ha4 with rfl | ⟨es, sp, e1, e2⟩
    · simp
    · have := hw ((es.length + sp.length) * 104) (by
        rw [hd, e1]
        simp [DataW.weights, DataW.weightsEach, Try.underlying27, Try.underlying25, bytes64])
      simp only [reachBytes] at this
      dsimp only
      omega
end Go.Proofs.Ytkmpcheamdadcaa
