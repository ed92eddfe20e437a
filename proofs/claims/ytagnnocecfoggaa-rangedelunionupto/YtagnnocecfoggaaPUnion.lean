/-
  For every comparator, any two lists of tombstones and every key that are together of bulk at most 1048576 the law RangedelUnion returns true and leaves its arguments as they read: of two lists of tombstones put together the greatest number over a key is the greater one of both.
  Conditions: the form's own bound on what is read ('uptoSmall').
-/
import Derived.Test.YtagnnocecfoggaaRows
import Derived.WalkKit
import Derived.ProofKit
import Derived.OpenShut
import Derived.ShutString
import Derived.ChangeOld
import Derived.Below
import Derived.JoinedCond
import Derived.Test.YtagnnocecfoggaaFr
import Derived.Test.YtagnnocecfoggaaUn
namespace Go.Proofs.Ytagnnocecfoggaa.rangedelUnion
open Go.ChangeShapes Go.WideShapes Go.ChangeAt Go.RowKit
open Go.ChangeMaps (open_string shut_string)
set_option linter.unusedVariables false

theorem own : ownKnob Try.prog.godebug = none := by kernel_rfl
theorem laidOut : laidOutB Try.prog = true := by kernel_rfl

set_option maxRecDepth 100000 in
theorem contract (H : Type) (enc : TypeId × Value → H) (W : World) (base : Nat) (args : Array Value) (ds gs : List (DataW H)) (before : List MemPlace)
    (hval0 : ∀ (j : Nat) t v, Try.f6.params[j]? = some t → args[j]? = some v → Value.okWide Try.prog W .any base t v)
    (hW : DataW.Whole enc Try.prog Try.f6.params.toList Rows.rangedelUnionSpec.vars false W args.toList ds gs before) (hk : Rows.uptoSmall H (ds ++ gs) = true) :
    Calls Try.prog 6 args W fun e W' => ∃ v, e = .returned v ∧ Rows.rangedelUnionSpec.post enc Try.prog Try.f6 false true false false W args v W' := by
  have hval : ∀ (j : Nat) t v, Try.f6.params[j]? = some t → args[j]? = some v → Value.okWide Try.prog W .any base t v := hval0
  have hW' := hW
  obtain ⟨p, q, hA0, hV, rfl, hfz, hnd⟩ := hW
  have hA : DataW.TrodAll enc Try.prog W 0 (fun _ => true) true Try.f6.params.toList args.toList ds p := hA0
  rw [Try.params6] at hA hval
  obtain ⟨v0, vs0, d0, ds0, p0, q0, hargs, rfl, rfl, h0, r0⟩ := trodAll_cons hA
  obtain ⟨v1, vs1, d1, ds1, p1, q1, rfl, rfl, rfl, h1, r1⟩ := trodAll_cons r0
  obtain ⟨v2, vs2, d2, ds2, p2, q2, rfl, rfl, rfl, h2, r2⟩ := trodAll_cons r1
  obtain ⟨rfl, rfl, rfl⟩ := trodAll_nil r2
  obtain rfl : args = #[v0, v1, v2] := by cases args; simp_all
  obtain ⟨rfl, rfl⟩ := trodVars_none hV
  have hk' : Rows.uptoBulkAll [d0, d1, d2] ≤ 1048576 := of_decide_eq_true hk
  simp only [Rows.uptoBulkAll] at hk'
  obtain ⟨s0, rfl, rfl, rfl, w0⟩ := open_int Try.underlying3 (hval 0 3 v0 rfl rfl) h0
  obtain ⟨a1, len1, cap1, rfl⟩ := okWide_slice Try.underlying22 (hval 1 22 v1 rfl rfl)
  have k1 := h1
  have lt1 : ∀ x ∈ p1, x.block < W.heap.size := by obtain ⟨m, hm⟩ := k1; exact DataW.trod_lt m _ _ _ hm
  have k2 := h2
  have lt2 : ∀ x ∈ p2, x.block < W.heap.size := by obtain ⟨m, hm⟩ := k2; exact DataW.trod_lt m _ _ _ hm
  obtain ⟨l1, e1, t1, n1, g1, b1⟩ : ∃ l : List Tm, l.length = len1 ∧ RdT W a1 l ∧ (a1 = none → cap1 = 0) ∧ (∀ t ∈ l, 0 ≤ t.s) ∧ l.length ≤ 1048576 := by
    obtain ⟨fuel, hf⟩ := h1
    have hf' : DataW.trod enc Try.prog W 0 (fun _ => true) true fuel 22 [.slice a1 len1 cap1] = some (d1, p1) := hf
    obtain ⟨l, q1, q2, q3, q4, q5⟩ := tombs_open hf'
    refine ⟨l, q1, q2, q3, q4, ?_⟩
    rcases q5 with rfl | ⟨es, sp, hx, he⟩
    · simp
    · have hx' : d1 = .slice es sp := hx
      subst hx'
      have := bulk_slice es sp
      omega
  obtain ⟨v20, v21, y0, y1, m2, rfl, hd2, _, f0, f1⟩ := Go.Joins.open_agg2 Try.underlying67 (by kernel_rfl) (by kernel_rfl) (hval 2 67 v2 rfl rfl) h2
  have f0' : DataW.trod enc Try.prog W 0 (fun _ => true) true m2 22 [v20] = some y0 := f0
  have f1' : DataW.trod enc Try.prog W 0 (fun _ => true) true m2 9 [v21] = some y1 := f1
  obtain ⟨key, ek, _, _⟩ := DataW.trod_string Try.underlying9 f1'
  simp at ek
  subst ek
  obtain ⟨a2, len2, cap2, rfl⟩ : ∃ a n c, v20 = .slice a n c := by
    rcases Go.Deep.open_slice Try.underlying22 f0' with ⟨h0, _⟩ | ⟨a', len', cap', m, n', D, Pl, hcs, _⟩
    · simp at h0; exact ⟨_, _, _, h0⟩
    · simp at hcs; exact ⟨_, _, _, hcs⟩
  obtain ⟨l2, e2, t2, n2, g2, b2⟩ : ∃ l : List Tm, l.length = len2 ∧ RdT W a2 l ∧ (a2 = none → cap2 = 0) ∧ (∀ t ∈ l, 0 ≤ t.s) ∧ l.length ≤ 1048576 := by
    obtain ⟨l, q1, q2, q3, q4, q5⟩ := tombs_open f0'
    refine ⟨l, q1, q2, q3, q4, ?_⟩
    rcases q5 with rfl | ⟨es, sp, hx, he⟩
    · simp
    · rw [hd2, hx] at hk'
      simp only [Rows.uptoBulk, Rows.uptoBulkAll] at hk'
      have := bulk_ge es
      omega
  clear hA0 hval0
  subst e1 e2
  refine (union_walk (how := s0) (key := key) t1 n1 t2 n2 (by omega) (by omega) g1 g2).mono fun e W' ⟨he, bel⟩ => ?_
  subst he
  exact ⟨_, rfl, _, _, _, [], _, [], hW', trodAll_mk1 (shut_bool Try.underlying4 _), (trodAll_cons_mk (shut_int Try.underlying3 w0) (trodAll_cons_mk (Below.trod laidOut (by kernel_rfl) (of_decide_eq_true (by kernel_rfl)) k1 bel lt1) (trodAll_cons_mk (Below.trod laidOut (by kernel_rfl) (of_decide_eq_true (by kernel_rfl)) k2 bel lt2) trodAll_mk0))), rfl, bel.frame _, fun h => by cases h⟩

set_option maxRecDepth 100000 in
theorem lifted (os : Os) (started : os.Started) (H : Type) (enc : TypeId × Value → H) (F : Stop.Interp) :
    ReturnsInHanded {} Try.checked os 6 .any ((Rows.OpenSpec.upto Rows.rangedelUnionSpec).pre6 enc Try.prog Try.f6 Rows.rangedelUnionUptoRow.domain false) (((Rows.OpenSpec.upto Rows.rangedelUnionSpec).at F).post enc Try.prog Try.f6 false true false false) := by
  refine returnsInHanded_of_cond (C := Try.checked) (s := Rows.OpenSpec.upto Rows.rangedelUnionSpec) (k := Rows.uptoSmall) rfl own started (by kernel_rfl) Try.func6
    (OpenSpec.witness (enc := enc) (C := Try.checked) (s := Rows.OpenSpec.upto Rows.rangedelUnionSpec) (k := Rows.uptoSmall) rfl false ⟨#[], #[.int .i64 0, .slice none 0 0, .agg #[.slice none 0 0, .string ByteArray.empty]], []⟩ 8 (by kernel_rfl) (by kernel_rfl) (by kernel_rfl)
      (x := ([.lit (.int .i64 0), .nil, .agg [.nil, .lit (.string [])]], [], [])) (by kernel_rfl) rfl (by kernel_rfl)) ?_
  intro W base args ds gs before hval hW _ hk _
  exact contract H enc W base args ds gs before hval hW hk

theorem over : Rows.RangedelUnionUptoSaid :=
  OpenClaim.holds_of_cond 6 Try.f6 rfl rfl rfl rfl rfl rfl rfl ⟨rfl, rfl, rfl, rfl, rfl⟩ rfl rfl rfl rfl rfl (by kernel_rfl) Try.func6 (by kernel_rfl)
    (of_decide_eq_true (by kernel_rfl)) (by unfold Func.isWrapper; first | (rw [if_pos (by decide +kernel)]; kernel_rfl) | (rw [if_neg (by decide +kernel)]; exact ⟨rfl, rfl⟩))
    (fun os started H enc _ F => lifted os started H enc F)
end Go.Proofs.Ytagnnocecfoggaa.rangedelUnion
namespace Go.Proofs.Ytagnnocecfoggaa
/-- The statement. -/
theorem rangedelUnionUpto_holds : Rows.RangedelUnionUptoSaid := rangedelUnion.over
#print axioms rangedelUnionUpto_holds
end Go.Proofs.Ytagnnocecfoggaa
