/-
  A version, a table that is added, an edit, as the form reads them.
-/
import Derived.Test.YtkmpcheamdadcaaRows
import Derived.Test.YtkmpcheamdadcaaVm
import Derived.ProofKit
import Derived.OpenShut
import Derived.ShutString
import Derived.ChangeOld
import Derived.SizedLaws
import Derived.JoinedOf
import Derived.MakeChecks
import Derived.Deep.Slices
import Derived.Deep.Strs
import Derived.Lib.SmallJoins
import Derived.ChangeSame
namespace Go.Proofs.Ytkmpcheamdadcaa
open Go.RowKit Go.ChangeShapes Go.WideShapes Go.ChangeAt
set_option linter.unusedVariables false
set_option linter.unusedSimpArgs false
theorem cells50 : Try.prog.cellsOf 50 = 10 := by kernel_rfl
theorem cells48 : Try.prog.cellsOf 48 = 3 := by kernel_rfl
theorem cells23 : Try.prog.cellsOf 23 = 1 := by kernel_rfl
theorem cells9 : Try.prog.cellsOf 9 = 1 := by kernel_rfl
theorem cells3 : Try.prog.cellsOf 3 = 1 := by kernel_rfl
theorem cells41 : Try.prog.cellsOf 41 = 7 := by kernel_rfl
theorem cells39 : Try.prog.cellsOf 39 = 7 := by kernel_rfl
theorem cells38 : Try.prog.cellsOf 38 = 1 := by kernel_rfl
theorem list3 {cs : List Value} (h : cs.length = 3) : ∃ c0 c1 c2, cs = [c0, c1, c2] := by
  match cs, h with
  | [c0, c1, c2], _ => exact ⟨c0, c1, c2, rfl⟩
theorem list10 {cs : List Value} (h : cs.length = 10) : ∃ c0 c1 c2 c3 c4 c5 c6 c7 c8 c9, cs = [c0, c1, c2, c3, c4, c5, c6, c7, c8, c9] := by
  match cs, h with
  | [c0, c1, c2, c3, c4, c5, c6, c7, c8, c9], _ => exact ⟨c0, c1, c2, c3, c4, c5, c6, c7, c8, c9, rfl⟩
theorem array7 {cs : Array Value} (h : cs.size = 7) : ∃ c0 c1 c2 c3 c4 c5 c6, cs = #[c0, c1, c2, c3, c4, c5, c6] := by
  obtain ⟨l⟩ := cs
  match l, h with
  | [c0, c1, c2, c3, c4, c5, c6], _ => exact ⟨c0, c1, c2, c3, c4, c5, c6, rfl⟩
section
variable {H : Type} {enc : TypeId × Value → H} {W : World} {base : Nat} {spare : Nat → Bool} {held : Bool}
theorem u_open {n : Nat} {c : Value} {y : DataW H × List MemPlace} (h : DataW.trod enc Try.prog W base spare held n 23 [c] = some y) : ∃ s : Int, c = .int .u64 s ∧ 0 ≤ s ∧ s < 18446744073709551616 := by
  obtain ⟨s, e, _, ws⟩ := DataW.trod_int Try.underlying23 h
  simp at e
  have := bounds_u64 ws
  exact ⟨s, e, by omega, by omega⟩
theorem i_open {n : Nat} {c : Value} {y : DataW H × List MemPlace} (h : DataW.trod enc Try.prog W base spare held n 3 [c] = some y) : ∃ s : Int, c = .int .i64 s ∧ -9223372036854775808 ≤ s ∧ s ≤ 9223372036854775807 := by
  obtain ⟨s, e, _, ws⟩ := DataW.trod_int Try.underlying3 h
  simp at e
  have := bounds_i64 ws
  exact ⟨s, e, by omega, by omega⟩
theorem s_open {n : Nat} {c : Value} {y : DataW H × List MemPlace} (h : DataW.trod enc Try.prog W base spare held n 9 [c] = some y) : ∃ s : ByteArray, c = .string s := by
  obtain ⟨s, e, _, _⟩ := DataW.trod_string Try.underlying9 h
  simp at e
  exact ⟨s, e⟩
theorem key_open {n : Nat} {cs : List Value} {y : DataW H × List MemPlace} (h : DataW.trod enc Try.prog W base spare held n 48 cs = some y) :
    ∃ k : Ky, cs = [.string k.u, .int .u64 k.s, .int .i64 k.k] ∧ (0 ≤ k.s ∧ k.s < 18446744073709551616) ∧ -9223372036854775808 ≤ k.k ∧ k.k ≤ 9223372036854775807 := by
  obtain ⟨y0, y1, y2, m, _, hl, h0, h1, h2⟩ := Go.Deep.trod_struct3 Try.underlying48 h
  rw [cells48] at hl
  obtain ⟨c0, c1, c2, rfl⟩ := list3 hl
  simp only [cells9, cells23, cells3, List.drop_zero, List.drop_succ_cons, List.take_succ_cons, List.take_zero] at h0 h1 h2
  obtain ⟨u, rfl⟩ := s_open h0
  obtain ⟨s, rfl, a1, a2⟩ := u_open h1
  obtain ⟨k, rfl, b1, b2⟩ := i_open h2
  exact ⟨⟨u, s, k⟩, rfl, ⟨a1, a2⟩, b1, b2⟩
set_option maxRecDepth 100000 in
theorem fi_open {n : Nat} {cs : List Value} {y : DataW H × List MemPlace} (h : DataW.trod enc Try.prog W base spare held n 50 cs = some y) : ∃ f : Fi, cs = f.c ∧ FOk f := by
  obtain ⟨xs, m, _, rfl, hl, hlen, hf⟩ := DataW.trod_struct Try.underlying50 h
  match xs, hlen with
  | [y0, y1, y2, y3, y4, y5], _ =>
    have h0 := hf 0 _ rfl
    have h1 := hf 1 _ rfl
    have h2 := hf 2 _ rfl
    have h3 := hf 3 _ rfl
    have h4 := hf 4 _ rfl
    have h5 := hf 5 _ rfl
    rw [cells50] at hl
    obtain ⟨c0, c1, c2, c3, c4, c5, c6, c7, c8, c9, rfl⟩ := list10 hl
    simp only [cells9, cells23, cells48, cells3, List.drop_zero, List.drop_succ_cons, List.take_succ_cons, List.take_zero, List.getElem?_cons_zero, List.getElem?_cons_succ] at h0 h1 h2 h3 h4 h5
    obtain ⟨n0, rfl, p1, p2⟩ := u_open h0
    obtain ⟨n1, rfl, p3, p4⟩ := u_open h1
    obtain ⟨k2, e2, p5, p6, p7⟩ := key_open h2
    obtain ⟨k3, e3, p8, p9, p10⟩ := key_open h3
    obtain ⟨n4, rfl, p11, p12⟩ := u_open h4
    obtain ⟨n5, rfl, p13, p14⟩ := u_open h5
    cases e2
    cases e3
    exact ⟨⟨n0, n1, k2, k3, n4, n5⟩, rfl, ⟨p1, p2⟩, ⟨p3, p4⟩, p5, p8, ⟨p11, p12⟩, ⟨p13, p14⟩, ⟨p6, p7⟩, ⟨p9, p10⟩⟩
end
/-- A slice whose elements can be opened, as the form reads it. -/
theorem slice_open {α : Type} [Inhabited α] {ec : α → List Value} {k : Nat} (hk : ∀ x, (ec x).length = k) (hk0 : 0 < k) {t e : TypeId} (ht : Try.prog.underlying t = some (.slice e)) (hce : Try.prog.cellsOf e = k) {H : Type} {enc : TypeId × Value → H} {W : World} {held : Bool} {n : Nat} {a : Option Addr} {len cap : Nat} {x : DataW H × List MemPlace} {Ok : α → DataW H → Prop}
    (hel : ∀ (m : Nat) (cs : List Value) (y : DataW H × List MemPlace), DataW.trod enc Try.prog W 0 (fun _ => true) held m e cs = some y → ∃ r : α, cs = ec r ∧ Ok r y.1)
    (h : DataW.trod enc Try.prog W 0 (fun _ => true) held n t [.slice a len cap] = some x) :
    ∃ l : List α, l.length = len ∧ Rd ec k W a l ∧ (a = none → cap = 0) ∧ (l = [] ∨ ∃ es sp, x.1 = .slice es sp ∧ es.length = l.length ∧ ∀ (i : Nat) (r : α) (d : DataW H), l[i]? = some r → es[i]? = some d → Ok r d) := by
  rcases Go.Deep.open_slice ht h with ⟨h0, _⟩ | ⟨a', len', cap', m, n', D, Pl, hcs, hb, hl, hm, hmm, hx, hcell⟩
  · simp only [List.cons.injEq, Value.slice.injEq, and_true] at h0
    obtain ⟨rfl, rfl, rfl⟩ := h0
    exact ⟨[], rfl, .inl rfl, fun _ => rfl, .inl rfl⟩
  · simp only [List.cons.injEq, Value.slice.injEq, and_true] at hcs
    obtain ⟨rfl, rfl, rfl⟩ := hcs
    simp only [if_true] at hmm
    subst hmm
    rw [hce] at hcell
    obtain ⟨R, hR⟩ := Go.Deep.choose_lt (α := α) (n := len) (p := fun i r => (∀ j, j < k → W.cell? (a'.add (i * k + j)) = (ec r)[j]?) ∧ Ok r (D i)) (fun i hi => by
      obtain ⟨cs', h1, h2⟩ := hcell i (by omega)
      obtain ⟨_, _, hc⟩ := World.cells?_some h1
      obtain ⟨r, rfl, f0⟩ := hel _ _ _ h2
      refine ⟨r, fun j hj => ?_, f0⟩
      have := hc j hj
      rw [Go.Deep.add_add] at this
      exact this)
    refine ⟨(List.range len).map R, by simp, ?_, fun e => (by cases e), .inr ⟨_, _, by rw [hx], by simp, fun i r d hr hd => ?_⟩⟩
    · by_cases hz : len = 0
      · subst hz
        exact .inl rfl
      · right
        obtain ⟨b, off, spot⟩ := a'
        have hc0 := (hR 0 (by omega)).1 0 hk0
        have hspot : spot = none := by
          obtain ⟨v, hv⟩ : ∃ v, (ec (R 0))[0]? = some v := ⟨_, List.getElem?_eq_getElem (by rw [hk]; exact hk0)⟩
          rw [hv] at hc0
          simpa [Addr.add] using World.cell?_spot hc0
        subst hspot
        refine ⟨b, off, rfl, fun j r hj i v hv => ?_⟩
        have hj' : j < len := by have := (List.getElem?_eq_some_iff.1 hj).1; simpa using this
        rw [List.getElem?_map, List.getElem?_range hj'] at hj
        simp at hj
        subst hj
        have hi : i < k := by rw [← hk (R j)]; exact (List.getElem?_eq_some_iff.1 hv).1
        have hc := (hR j hj').1 i hi
        rw [add_at, hv, ← Nat.add_assoc] at hc
        exact hc
    · have hi : i < len := by have := (List.getElem?_eq_some_iff.1 hr).1; simpa using this
      rw [List.getElem?_map, List.getElem?_range hi] at hr hd
      simp at hr hd
      subst hr hd
      exact (hR i hi).2

theorem slice_cap {H : Type} {enc : TypeId × Value → H} {W : World} {held : Bool} {n : Nat} {t e : TypeId} {a : Option Addr} {len cap : Nat} {x : DataW H × List MemPlace} (ht : Try.prog.underlying t = some (.slice e)) (h : DataW.trod enc Try.prog W 0 (fun _ => true) held n t [.slice a len cap] = some x) : len ≤ cap := by
  rcases Go.Deep.open_slice ht h with ⟨h0, _⟩ | ⟨a', len', cap', m, n', D, Pl, hcs, hb, hl, _⟩
  · simp only [List.cons.injEq, Value.slice.injEq, and_true] at h0
    omega
  · simp only [List.cons.injEq, Value.slice.injEq, and_true] at hcs
    omega
theorem files_open {H : Type} {enc : TypeId × Value → H} {W : World} {n : Nat} {c : Value} {y : DataW H × List MemPlace} (h : DataW.trod enc Try.prog W 0 (fun _ => true) true n 38 [c] = some y) :
    ∃ (a : Option Addr) (cap : Nat) (l : List Fi), c = .slice a l.length cap ∧ RdF W a l ∧ (a = none → cap = 0) ∧ l.length ≤ cap ∧ (∀ f ∈ l, FOk f) ∧ (l = [] ∨ ∃ es sp, y.1 = .slice es sp ∧ es.length = l.length) := by
  obtain ⟨a, len, cap, rfl⟩ : ∃ a n c', c = .slice a n c' := by
    rcases Go.Deep.open_slice Try.underlying38 h with ⟨h0, _⟩ | ⟨a', len', cap', m, n', D, Pl, hcs, _⟩
    · simp at h0; exact ⟨_, _, _, h0⟩
    · simp at hcs; exact ⟨_, _, _, hcs⟩
  obtain ⟨l, rfl, h2, h3, h4⟩ := slice_open fi_k (by decide) Try.underlying38 cells50 (Ok := fun t _ => FOk t) (fun m cs y hy => fi_open hy) h
  refine ⟨a, cap, l, rfl, h2, h3, slice_cap Try.underlying38 h, fun t ht => ?_, ?_⟩
  · rcases h4 with rfl | ⟨es, sp, _, e, hh⟩
    · simp at ht
    · obtain ⟨i, hi, rfl⟩ := List.getElem_of_mem ht
      exact hh i _ _ (List.getElem?_eq_getElem hi) (List.getElem?_eq_getElem (by omega))
  · rcases h4 with rfl | ⟨es, sp, e1, e, _⟩
    · exact .inl rfl
    · exact .inr ⟨es, sp, e1, e⟩
theorem trod_array7 {H : Type} {enc : TypeId × Value → H} {P : Program} {w : World} {base : Nat} {spare : Nat → Bool} {held : Bool} {t e : TypeId} {fuel : Nat} {c0 c1 c2 c3 c4 c5 c6 : Value} {x : DataW H × List MemPlace} (ht : P.underlying t = some (.array 7 e)) (hce : P.cellsOf e = 1)
    (h : DataW.trod enc P w base spare held fuel t [c0, c1, c2, c3, c4, c5, c6] = some x) :
    ∃ (y0 y1 y2 y3 y4 y5 y6 : DataW H × List MemPlace) (n : Nat), x.1 = .agg [y0.1, y1.1, y2.1, y3.1, y4.1, y5.1, y6.1] ∧ DataW.trod enc P w base spare held n e [c0] = some y0 ∧ DataW.trod enc P w base spare held n e [c1] = some y1 ∧ DataW.trod enc P w base spare held n e [c2] = some y2 ∧ DataW.trod enc P w base spare held n e [c3] = some y3 ∧
      DataW.trod enc P w base spare held n e [c4] = some y4 ∧ DataW.trod enc P w base spare held n e [c5] = some y5 ∧ DataW.trod enc P w base spare held n e [c6] = some y6 := by
  cases fuel with
  | zero => simp [DataW.trod] at h
  | succ n =>
    unfold DataW.trod at h
    rw [ht] at h
    have r7 : List.range 7 = [0, 1, 2, 3, 4, 5, 6] := rfl
    simp [r7, hce] at h
    obtain ⟨_, h⟩ := h
    cases h0 : DataW.trod enc P w base spare held n e [c0] with
    | none => simp [h0] at h
    | some y0 =>
      cases h1 : DataW.trod enc P w base spare held n e [c1] with
      | none => simp [h0, h1] at h
      | some y1 =>
        cases h2 : DataW.trod enc P w base spare held n e [c2] with
        | none => simp [h0, h1, h2] at h
        | some y2 =>
          cases h3 : DataW.trod enc P w base spare held n e [c3] with
          | none => simp [h0, h1, h2, h3] at h
          | some y3 =>
            cases h4 : DataW.trod enc P w base spare held n e [c4] with
            | none => simp [h0, h1, h2, h3, h4] at h
            | some y4 =>
              cases h5 : DataW.trod enc P w base spare held n e [c5] with
              | none => simp [h0, h1, h2, h3, h4, h5] at h
              | some y5 =>
                cases h6 : DataW.trod enc P w base spare held n e [c6] with
                | none => simp [h0, h1, h2, h3, h4, h5, h6] at h
                | some y6 =>
                  simp [h0, h1, h2, h3, h4, h5, h6] at h
                  exact ⟨y0, y1, y2, y3, y4, y5, y6, n, by rw [← h], h0, h1, h2, h3, h4, h5, h6⟩
theorem bytes50 : Try.prog.bytesOf 50 = 96 := by kernel_rfl
set_option maxRecDepth 100000 in
theorem weights_in {H : Type} (es sp : List (DataW H)) : ∀ (ys : List (DataW H)), DataW.slice es sp ∈ ys → (es.length + sp.length) * 96 ∈ DataW.weightsAll Try.prog 38 ys
  | [], h => by cases h
  | y :: ys, h => by
    rw [DataW.weightsAll, List.mem_append]
    rcases List.mem_cons.1 h with e | e
    · left; subst e; simp [DataW.weights, Try.underlying38, bytes50]
    · right; exact weights_in es sp ys e
set_option maxRecDepth 100000 in
theorem ver_weights {H : Type} (es sp : List (DataW H)) (ys : List (DataW H)) (h : DataW.slice es sp ∈ ys) : (es.length + sp.length) * 96 ∈ DataW.weights Try.prog 41 (.agg [.agg ys]) := by
  have := weights_in es sp ys h
  simp [DataW.weights, DataW.weightsEach, Try.underlying41, Try.underlying39, this]
set_option maxRecDepth 100000 in
/-- A version, as the form reads it. -/
theorem ver_open {H : Type} {enc : TypeId × Value → H} {W : World} {v : Value} {d : DataW H} {p : List MemPlace} {r : Reach} {b0 : Nat} (hv : Value.okWide Try.prog W r b0 41 v) (h : DataW.Trod enc Try.prog W 0 (fun _ => true) true 41 v d p)
    (hw : ∀ n, n ∈ DataW.weights Try.prog 41 d → n ≤ reachBytes) : ∃ (V : Vn) (L : Nat → List Fi), v = .agg (verA V L) ∧ RdV W V L ∧ ∀ i, i < 7 → (L i).length ≤ V.c i := by
  obtain ⟨cs, rfl, hsz⟩ := okWide_struct Try.underlying41 hv
  obtain ⟨c0, c1, c2, c3, c4, c5, c6, rfl⟩ := array7 (hsz.trans cells41)
  obtain ⟨fuel, hf⟩ := h
  obtain ⟨y, m, hx, _, g0⟩ := trod_struct1 Try.underlying41 hf
  have g1 : DataW.trod enc Try.prog W 0 (fun _ => true) true m 39 [c0, c1, c2, c3, c4, c5, c6] = some y := by
    simpa [Value.cells, cells39] using g0
  obtain ⟨y0, y1, y2, y3, y4, y5, y6, m', hy, k0, k1, k2, k3, k4, k5, k6⟩ := trod_array7 Try.underlying39 cells38 g1
  have hd : d = .agg [.agg [y0.1, y1.1, y2.1, y3.1, y4.1, y5.1, y6.1]] := by
    have := congrArg (·.1) hx
    simp only at this
    rw [this, hy]
  obtain ⟨a0, p0, l0, rfl, r0, n0, q0, o0, b0'⟩ := files_open k0
  obtain ⟨a1, p1, l1, rfl, r1, n1, q1, o1, b1⟩ := files_open k1
  obtain ⟨a2, p2, l2, rfl, r2, n2, q2, o2, b2⟩ := files_open k2
  obtain ⟨a3, p3, l3, rfl, r3, n3, q3, o3, b3⟩ := files_open k3
  obtain ⟨a4, p4, l4, rfl, r4, n4, q4, o4, b4⟩ := files_open k4
  obtain ⟨a5, p5, l5, rfl, r5, n5, q5, o5, b5⟩ := files_open k5
  obtain ⟨a6, p6, l6, rfl, r6, n6, q6, o6, b6⟩ := files_open k6
  have hB : ∀ (l : List Fi) (z : DataW H), z ∈ [y0.1, y1.1, y2.1, y3.1, y4.1, y5.1, y6.1] → (l = [] ∨ ∃ es sp, z = .slice es sp ∧ es.length = l.length) → l.length * 96 ≤ 140737488355328 := by
    intro l z hz hh
    rcases hh with rfl | ⟨es, sp, rfl, e⟩
    · simp
    · have := hw _ (by rw [hd]; exact ver_weights es sp _ hz)
      simp only [reachBytes] at this
      omega
  refine ⟨⟨fun i => match i with | 0 => a0 | 1 => a1 | 2 => a2 | 3 => a3 | 4 => a4 | 5 => a5 | _ => a6, fun i => match i with | 0 => p0 | 1 => p1 | 2 => p2 | 3 => p3 | 4 => p4 | 5 => p5 | _ => p6⟩, fun i => match i with | 0 => l0 | 1 => l1 | 2 => l2 | 3 => l3 | 4 => l4 | 5 => l5 | _ => l6, rfl, ⟨?_, ?_, ?_, ?_⟩, ?_⟩
  all_goals (intro i hi; have hh : i = 0 ∨ i = 1 ∨ i = 2 ∨ i = 3 ∨ i = 4 ∨ i = 5 ∨ i = 6 := by omega)
  · rcases hh with rfl | rfl | rfl | rfl | rfl | rfl | rfl <;> assumption
  · rcases hh with rfl | rfl | rfl | rfl | rfl | rfl | rfl <;> assumption
  · rcases hh with rfl | rfl | rfl | rfl | rfl | rfl | rfl
    · exact hB l0 _ (by simp) b0'
    · exact hB l1 _ (by simp) b1
    · exact hB l2 _ (by simp) b2
    · exact hB l3 _ (by simp) b3
    · exact hB l4 _ (by simp) b4
    · exact hB l5 _ (by simp) b5
    · exact hB l6 _ (by simp) b6
  · rcases hh with rfl | rfl | rfl | rfl | rfl | rfl | rfl <;> assumption
  · rcases hh with rfl | rfl | rfl | rfl | rfl | rfl | rfl <;> assumption
theorem cells64 : Try.prog.cellsOf 64 = 11 := by kernel_rfl
theorem list11 {cs : List Value} (h : cs.length = 11) : ∃ c0 c1 c2 c3 c4 c5 c6 c7 c8 c9 c10, cs = [c0, c1, c2, c3, c4, c5, c6, c7, c8, c9, c10] := by
  match cs, h with
  | [c0, c1, c2, c3, c4, c5, c6, c7, c8, c9, c10], _ => exact ⟨c0, c1, c2, c3, c4, c5, c6, c7, c8, c9, c10, rfl⟩
set_option maxRecDepth 100000 in
theorem ad_open {H : Type} {enc : TypeId × Value → H} {W : World} {base : Nat} {spare : Nat → Bool} {held : Bool} {n : Nat} {cs : List Value} {y : DataW H × List MemPlace} (h : DataW.trod enc Try.prog W base spare held n 64 cs = some y) :
    ∃ a : Ad, cs = a.c ∧ FOk a.f ∧ -9223372036854775808 ≤ a.lv ∧ a.lv ≤ 9223372036854775807 := by
  obtain ⟨xs, m, _, rfl, hl, hlen, hf⟩ := DataW.trod_struct Try.underlying64 h
  match xs, hlen with
  | [y0, y1], _ =>
    rw [cells64] at hl
    obtain ⟨c0, c1, c2, c3, c4, c5, c6, c7, c8, c9, c10, rfl⟩ := list11 hl
    have h0 : DataW.trod enc Try.prog W base spare held m 3 [c0] = some y0 := by
      have := hf 0 _ rfl
      change DataW.trod enc Try.prog W base spare held m 3 (List.take (Try.prog.cellsOf 3) _) = _ at this
      rw [cells3] at this
      exact this
    have h1 : DataW.trod enc Try.prog W base spare held m 50 [c1, c2, c3, c4, c5, c6, c7, c8, c9, c10] = some y1 := by
      have := hf 1 _ rfl
      change DataW.trod enc Try.prog W base spare held m 50 (List.take (Try.prog.cellsOf 50) _) = _ at this
      rw [cells50] at this
      exact this
    obtain ⟨k, rfl, b1, b2⟩ := i_open h0
    obtain ⟨f, e, hok⟩ := fi_open h1
    refine ⟨⟨k, f⟩, ?_, hok, b1, b2⟩
    show _ = Value.int .i64 k :: f.c
    rw [← e]
theorem array11 {cs : Array Value} (h : cs.size = 11) : ∃ c0 c1 c2 c3 c4 c5 c6 c7 c8 c9 c10, cs = #[c0, c1, c2, c3, c4, c5, c6, c7, c8, c9, c10] := by
  obtain ⟨l⟩ := cs
  match l, h with
  | [c0, c1, c2, c3, c4, c5, c6, c7, c8, c9, c10], _ => exact ⟨c0, c1, c2, c3, c4, c5, c6, c7, c8, c9, c10, rfl⟩
end Go.Proofs.Ytkmpcheamdadcaa
