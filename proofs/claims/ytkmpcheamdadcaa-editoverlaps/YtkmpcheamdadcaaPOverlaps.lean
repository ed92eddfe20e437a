/-
  For every comparator, every version and every list of ranges the law EditOverlaps returns true and leaves its arguments as they read: a level's tables over a range are what the reference tells.
  Conditions: none beyond the form's own reach.
-/
import Derived.Test.YtkmpcheamdadcaaRows
import Derived.WalkKit
import Derived.ProofKit
import Derived.OpenShut
import Derived.ShutString
import Derived.ChangeOld
import Derived.Below
import Derived.SizedLaws
import Derived.Test.YtkmpcheamdadcaaFr
import Derived.Test.YtkmpcheamdadcaaXi
namespace Go.Proofs.Ytkmpcheamdadcaa.editOverlaps
open Go.ChangeShapes Go.WideShapes Go.ChangeAt Go.RowKit
open Go.ChangeMaps (open_string shut_string)
set_option linter.unusedVariables false
set_option linter.unusedSimpArgs false
theorem trod_array7 {H : Type} {enc : TypeId × Value → H} {P : Program} {w : World} {base : Nat} {spare : Nat → Bool} {held : Bool} {t e : TypeId} {fuel : Nat} {c0 c1 c2 c3 c4 c5 c6 : Value} {x : DataW H × List MemPlace} (ht : P.underlying t = some (.array 7 e)) (hce : P.cellsOf e = 1)
    (h : DataW.trod enc P w base spare held fuel t [c0, c1, c2, c3, c4, c5, c6] = some x) :
    ∃ (y0 y1 y2 y3 y4 y5 y6 : DataW H × List MemPlace) (n : Nat), x.1 = .agg [y0.1, y1.1, y2.1, y3.1, y4.1, y5.1, y6.1] ∧ DataW.trod enc P w base spare held n e [c0] = some y0 ∧ DataW.trod enc P w base spare held n e [c1] = some y1 ∧ DataW.trod enc P w base spare held n e [c2] = some y2 ∧ DataW.trod enc P w base spare held n e [c3] = some y3 ∧
      DataW.trod enc P w base spare held n e [c4] = some y4 ∧ DataW.trod enc P w base spare held n e [c5] = some y5 ∧ DataW.trod enc P w base spare held n e [c6] = some y6 := by
  cases fuel with
  | zero => simp [DataW.trod] at h
  | succ n =>
    unfold DataW.trod at h
    rw [ht] at h
    have r7 : List.range 7 = [0, 1, 2, 3, 4, 5, 6] := rfl
    simp [r7, hce] at h
    obtain ⟨_, h⟩ := h
    cases h0 : DataW.trod enc P w base spare held n e [c0] with
    | none => simp [h0] at h
    | some y0 =>
      cases h1 : DataW.trod enc P w base spare held n e [c1] with
      | none => simp [h0, h1] at h
      | some y1 =>
        cases h2 : DataW.trod enc P w base spare held n e [c2] with
        | none => simp [h0, h1, h2] at h
        | some y2 =>
          cases h3 : DataW.trod enc P w base spare held n e [c3] with
          | none => simp [h0, h1, h2, h3] at h
          | some y3 =>
            cases h4 : DataW.trod enc P w base spare held n e [c4] with
            | none => simp [h0, h1, h2, h3, h4] at h
            | some y4 =>
              cases h5 : DataW.trod enc P w base spare held n e [c5] with
              | none => simp [h0, h1, h2, h3, h4, h5] at h
              | some y5 =>
                cases h6 : DataW.trod enc P w base spare held n e [c6] with
                | none => simp [h0, h1, h2, h3, h4, h5, h6] at h
                | some y6 =>
                  simp [h0, h1, h2, h3, h4, h5, h6] at h
                  exact ⟨y0, y1, y2, y3, y4, y5, y6, n, by rw [← h], h0, h1, h2, h3, h4, h5, h6⟩
theorem bytes50 : Try.prog.bytesOf 50 = 96 := by kernel_rfl
set_option maxRecDepth 100000 in
theorem weights_in {H : Type} (es sp : List (DataW H)) : ∀ (ys : List (DataW H)), DataW.slice es sp ∈ ys → (es.length + sp.length) * 96 ∈ DataW.weightsAll Try.prog 38 ys
  | [], h => by cases h
  | y :: ys, h => by
    rw [DataW.weightsAll, List.mem_append]
    rcases List.mem_cons.1 h with e | e
    · left; subst e; simp [DataW.weights, Try.underlying38, bytes50]
    · right; exact weights_in es sp ys e
set_option maxRecDepth 100000 in
theorem ver_weights {H : Type} (es sp : List (DataW H)) (ys : List (DataW H)) (h : DataW.slice es sp ∈ ys) : (es.length + sp.length) * 96 ∈ DataW.weights Try.prog 41 (.agg [.agg ys]) := by
  have := weights_in es sp ys h
  simp [DataW.weights, DataW.weightsEach, Try.underlying41, Try.underlying39, this]
set_option maxRecDepth 100000 in
/-- A version, as the form reads it. -/
theorem ver_open {H : Type} {enc : TypeId × Value → H} {W : World} {v : Value} {d : DataW H} {p : List MemPlace} {r : Reach} {b0 : Nat} (hv : Value.okWide Try.prog W r b0 41 v) (h : DataW.Trod enc Try.prog W 0 (fun _ => true) true 41 v d p)
    (hw : ∀ n, n ∈ DataW.weights Try.prog 41 d → n ≤ reachBytes) : ∃ (V : Vn) (L : Nat → List Fi), v = .agg (verA V L) ∧ RdV W V L := by
  obtain ⟨cs, rfl, hsz⟩ := okWide_struct Try.underlying41 hv
  obtain ⟨c0, c1, c2, c3, c4, c5, c6, rfl⟩ := array7 (hsz.trans cells41)
  obtain ⟨fuel, hf⟩ := h
  obtain ⟨y, m, hx, _, g0⟩ := trod_struct1 Try.underlying41 hf
  have g1 : DataW.trod enc Try.prog W 0 (fun _ => true) true m 39 [c0, c1, c2, c3, c4, c5, c6] = some y := by
    simpa [Value.cells, cells39] using g0
  obtain ⟨y0, y1, y2, y3, y4, y5, y6, m', hy, k0, k1, k2, k3, k4, k5, k6⟩ := trod_array7 Try.underlying39 cells38 g1
  have hd : d = .agg [.agg [y0.1, y1.1, y2.1, y3.1, y4.1, y5.1, y6.1]] := by
    have := congrArg (·.1) hx
    simp only at this
    rw [this, hy]
  obtain ⟨a0, p0, l0, rfl, r0, n0, o0, b0'⟩ := files_open k0
  obtain ⟨a1, p1, l1, rfl, r1, n1, o1, b1⟩ := files_open k1
  obtain ⟨a2, p2, l2, rfl, r2, n2, o2, b2⟩ := files_open k2
  obtain ⟨a3, p3, l3, rfl, r3, n3, o3, b3⟩ := files_open k3
  obtain ⟨a4, p4, l4, rfl, r4, n4, o4, b4⟩ := files_open k4
  obtain ⟨a5, p5, l5, rfl, r5, n5, o5, b5⟩ := files_open k5
  obtain ⟨a6, p6, l6, rfl, r6, n6, o6, b6⟩ := files_open k6
  have hB : ∀ (l : List Fi) (z : DataW H), z ∈ [y0.1, y1.1, y2.1, y3.1, y4.1, y5.1, y6.1] → (l = [] ∨ ∃ es sp, z = .slice es sp ∧ es.length = l.length) → l.length * 96 ≤ 140737488355328 := by
    intro l z hz hh
    rcases hh with rfl | ⟨es, sp, rfl, e⟩
    · simp
    · have := hw _ (by rw [hd]; exact ver_weights es sp _ hz)
      simp only [reachBytes] at this
      omega
  refine ⟨⟨fun i => match i with | 0 => a0 | 1 => a1 | 2 => a2 | 3 => a3 | 4 => a4 | 5 => a5 | _ => a6, fun i => match i with | 0 => p0 | 1 => p1 | 2 => p2 | 3 => p3 | 4 => p4 | 5 => p5 | _ => p6⟩, fun i => match i with | 0 => l0 | 1 => l1 | 2 => l2 | 3 => l3 | 4 => l4 | 5 => l5 | _ => l6, rfl, ?_, ?_, ?_, ?_⟩
  all_goals (intro i hi; have hh : i = 0 ∨ i = 1 ∨ i = 2 ∨ i = 3 ∨ i = 4 ∨ i = 5 ∨ i = 6 := by omega)
  · rcases hh with rfl | rfl | rfl | rfl | rfl | rfl | rfl <;> assumption
  · rcases hh with rfl | rfl | rfl | rfl | rfl | rfl | rfl <;> assumption
  · rcases hh with rfl | rfl | rfl | rfl | rfl | rfl | rfl
    · exact hB l0 _ (by simp) b0'
    · exact hB l1 _ (by simp) b1
    · exact hB l2 _ (by simp) b2
    · exact hB l3 _ (by simp) b3
    · exact hB l4 _ (by simp) b4
    · exact hB l5 _ (by simp) b5
    · exact hB l6 _ (by simp) b6
  · rcases hh with rfl | rfl | rfl | rfl | rfl | rfl | rfl <;> assumption
theorem own : ownKnob Try.prog.godebug = none := by kernel_rfl
theorem laidOut : laidOutB Try.prog = true := by kernel_rfl
theorem asks_open {H : Type} {enc : TypeId × Value → H} {W : World} {n : Nat} {a : Option Addr} {len cap : Nat} {x : DataW H × List MemPlace} (h : DataW.trod enc Try.prog W 0 (fun _ => true) true n 57 [.slice a len cap] = some x) :
    ∃ l : List Ak, l.length = len ∧ RdK W a l ∧ (l = [] ∨ ∃ es sp, x.1 = .slice es sp ∧ es.length = l.length) := by
  obtain ⟨l, h1, h2, h3, h4⟩ := slice_open ak_k (by decide) Try.underlying57 cells61 (Ok := fun t _ => True) (fun m cs y hy => ask_open hy) h
  refine ⟨l, h1, h2, ?_⟩
  rcases h4 with rfl | ⟨es, sp, e1, e, _⟩
  · exact .inl rfl
  · exact .inr ⟨es, sp, e1, e⟩
set_option maxRecDepth 100000 in
theorem lifted (os : Os) (started : os.Started) (H : Type) (enc : TypeId × Value → H) :
    ReturnsInHanded {} Try.checked os 7 .any (Rows.editOverlapsSpec.pre6 enc Try.prog Try.f7 Rows.editOverlapsRow.domain false) (Rows.editOverlapsSpec.post enc Try.prog Try.f7 false true false false) := by
  refine returnsInHanded_of_change_sized (C := Try.checked) own started (by kernel_rfl) Try.func7
    (ChangeSpec.witness6 (enc := enc) (C := Try.checked) false ⟨#[], #[.int .i64 0, .agg #[.slice none 0 0, .slice none 0 0, .slice none 0 0, .slice none 0 0, .slice none 0 0, .slice none 0 0, .slice none 0 0], .slice none 0 0], []⟩ 8 (by kernel_rfl) (by kernel_rfl) (by kernel_rfl) (by kernel_rfl)) ?_
  intro W base args ds gs before hval0 hW hcnd hsz _
  have hval : ∀ (j : Nat) t v, Try.f7.params[j]? = some t → args[j]? = some v → Value.okWide Try.prog W .any base t v := hval0
  have hW' := hW
  obtain ⟨p, q, hA0, hV, rfl, hfz, hnd⟩ := hW
  have hA : DataW.TrodAll enc Try.prog W 0 (fun _ => true) true Try.f7.params.toList args.toList ds p := hA0
  rw [Try.params7] at hA hval
  obtain ⟨v0, vs0, d0, ds0, p0, q0, hargs, rfl, rfl, h0, r0⟩ := trodAll_cons hA
  obtain ⟨v1, vs1, d1, ds1, p1, q1, rfl, rfl, rfl, h1, r1⟩ := trodAll_cons r0
  obtain ⟨v2, vs2, d2, ds2, p2, q2, rfl, rfl, rfl, h2, r2⟩ := trodAll_cons r1
  obtain ⟨rfl, rfl, rfl⟩ := trodAll_nil r2
  obtain rfl : args = #[v0, v1, v2] := by cases args; simp_all
  obtain ⟨rfl, rfl⟩ := trodVars_none hV
  have hby : Try.checked.prog.bytesOf 61 = 40 := by kernel_rfl
  obtain ⟨s0, rfl, rfl, rfl, w0⟩ := open_int Try.underlying3 (hval 0 3 v0 rfl rfl) h0
  obtain ⟨a2, len2, cap2, rfl⟩ := okWide_slice Try.underlying57 (hval 2 57 v2 rfl rfl)
  have k1 := h1
  have lt1 : ∀ x ∈ p1, x.block < W.heap.size := by obtain ⟨m, hm⟩ := k1; exact DataW.trod_lt m _ _ _ hm
  have k2 := h2
  have lt2 : ∀ x ∈ p2, x.block < W.heap.size := by obtain ⟨m, hm⟩ := k2; exact DataW.trod_lt m _ _ _ hm
  obtain ⟨V, L, rfl, hRd⟩ := ver_open (hval 1 41 v1 rfl rfl) h1 (fun n hn => by
    have := List.all_eq_true.1 hsz _ (DataW.weights_mem_each (j := 1) (t := 41) rfl rfl n hn)
    simpa using this)
  obtain ⟨l2, e2, t2, b2⟩ : ∃ l : List Ak, l.length = len2 ∧ RdK W a2 l ∧ l.length * 40 ≤ 140737488355328 := by
    obtain ⟨fuel, hf⟩ := h2
    have hf' : DataW.trod enc Try.prog W 0 (fun _ => true) true fuel 57 [.slice a2 len2 cap2] = some (d2, p2) := hf
    obtain ⟨l, q1, q2, q4⟩ := asks_open hf'
    refine ⟨l, q1, q2, ?_⟩
    rcases q4 with rfl | ⟨es, sp, hx, he⟩
    · simp
    · have hx' : d2 = .slice es sp := hx
      subst hx'
      have hs := sized_slice hsz (j := 2) (t := 57) (e := 61) rfl rfl Try.underlying57
      rw [hby] at hs
      simp only [reachBytes] at hs
      omega
  clear hA0 hval0
  subst e2
  refine (overlaps_walk (cap := cap2) hRd t2 b2 s0).mono fun e W' ⟨he, bel⟩ => ?_
  subst he
  exact ⟨_, rfl, _, _, _, [], _, [], hW', trodAll_mk1 (shut_bool Try.underlying4 _), (trodAll_cons_mk (shut_int Try.underlying3 w0) (trodAll_cons_mk (Below.trod laidOut (by kernel_rfl) (of_decide_eq_true (by kernel_rfl)) k1 bel lt1) (trodAll_cons_mk (Below.trod laidOut (by kernel_rfl) (of_decide_eq_true (by kernel_rfl)) k2 bel lt2) trodAll_mk0))), rfl, bel.frame _, fun h => by cases h⟩

theorem over : Rows.editOverlapsRow.holds Try.pinned (OpenSpec.ofChange Rows.editOverlapsSpec) :=
  OpenClaim.holds_of_wide 7 Try.f7 rfl rfl rfl rfl rfl rfl rfl ⟨rfl, rfl, rfl, rfl, rfl⟩ rfl rfl rfl rfl rfl (by kernel_rfl) Try.func7 (by kernel_rfl)
    (of_decide_eq_true (by kernel_rfl)) (by unfold Func.isWrapper; first | (rw [if_pos (by decide +kernel)]; kernel_rfl) | (rw [if_neg (by decide +kernel)]; exact ⟨rfl, rfl⟩))
    (fun os started H enc _ => lifted os started H enc)

end Go.Proofs.Ytkmpcheamdadcaa.editOverlaps
namespace Go.Proofs.Ytkmpcheamdadcaa
/-- The statement. -/
theorem editOverlaps_holds : Rows.EditOverlapsSaid := editOverlaps.over
#print axioms editOverlaps_holds
end Go.Proofs.Ytkmpcheamdadcaa
