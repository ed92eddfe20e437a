/-
  For every comparator, every list of tombstones and every list of what is asked the law RangedelSets returns true and leaves its arguments as they read: a set of tombstones is refused as the reference refuses it, or answers Most, Covers, Whole, Next and Cut of every key and number as the reference's tombstones and fragments, one by one, do, and tells the reference's fragments.
  Conditions: none beyond the form's own reach.
-/
import Derived.Test.YtagnnocecfoggaaRows
import Derived.WalkKit
import Derived.ProofKit
import Derived.OpenShut
import Derived.ShutString
import Derived.ChangeOld
import Derived.Below
import Derived.SizedLaws
import Derived.Test.YtagnnocecfoggaaFr
import Derived.Test.YtagnnocecfoggaaFs
import Derived.Test.YtagnnocecfoggaaFa
import Derived.Test.YtagnnocecfoggaaLt
namespace Go.Proofs.Ytagnnocecfoggaa.rangedelSets
open Go.ChangeShapes Go.WideShapes Go.ChangeAt Go.RowKit
open Go.ChangeMaps (open_string shut_string)
set_option linter.unusedVariables false

theorem own : ownKnob Try.prog.godebug = none := by kernel_rfl
theorem laidOut : laidOutB Try.prog = true := by kernel_rfl

set_option maxRecDepth 100000 in
theorem lifted (os : Os) (started : os.Started) (H : Type) (enc : TypeId × Value → H) :
    ReturnsInHanded {} Try.checked os 4 .any (Rows.rangedelSetsSpec.pre6 enc Try.prog Try.f4 Rows.rangedelSetsRow.domain false) (Rows.rangedelSetsSpec.post enc Try.prog Try.f4 false true false false) := by
  refine returnsInHanded_of_change_sized (C := Try.checked) own started (by kernel_rfl) Try.func4
    (ChangeSpec.witness6 (enc := enc) (C := Try.checked) false ⟨#[], #[.int .i64 0, .slice none 0 0, .slice none 0 0], []⟩ 8 (by kernel_rfl) (by kernel_rfl) (by kernel_rfl) (by kernel_rfl)) ?_
  intro W base args ds gs before hval0 hW hcnd hsz _
  have hval : ∀ (j : Nat) t v, Try.f4.params[j]? = some t → args[j]? = some v → Value.okWide Try.prog W .any base t v := hval0
  have hW' := hW
  obtain ⟨p, q, hA0, hV, rfl, hfz, hnd⟩ := hW
  have hA : DataW.TrodAll enc Try.prog W 0 (fun _ => true) true Try.f4.params.toList args.toList ds p := hA0
  rw [Try.params4] at hA hval
  obtain ⟨v0, vs0, d0, ds0, p0, q0, hargs, rfl, rfl, h0, r0⟩ := trodAll_cons hA
  obtain ⟨v1, vs1, d1, ds1, p1, q1, rfl, rfl, rfl, h1, r1⟩ := trodAll_cons r0
  obtain ⟨v2, vs2, d2, ds2, p2, q2, rfl, rfl, rfl, h2, r2⟩ := trodAll_cons r1
  obtain ⟨rfl, rfl, rfl⟩ := trodAll_nil r2
  obtain rfl : args = #[v0, v1, v2] := by cases args; simp_all
  obtain ⟨rfl, rfl⟩ := trodVars_none hV
  have hby : Try.checked.prog.bytesOf 56 = 40 := by kernel_rfl
  have hby2 : Try.checked.prog.bytesOf 42 = 80 := by kernel_rfl
  obtain ⟨s0, rfl, rfl, rfl, w0⟩ := open_int Try.underlying3 (hval 0 3 v0 rfl rfl) h0
  obtain ⟨a1, len1, cap1, rfl⟩ := okWide_slice Try.underlying22 (hval 1 22 v1 rfl rfl)
  obtain ⟨a2, len2, cap2, rfl⟩ := okWide_slice Try.underlying34 (hval 2 34 v2 rfl rfl)
  have k1 := h1
  have lt1 : ∀ x ∈ p1, x.block < W.heap.size := by obtain ⟨m, hm⟩ := k1; exact DataW.trod_lt m _ _ _ hm
  have k2 := h2
  have lt2 : ∀ x ∈ p2, x.block < W.heap.size := by obtain ⟨m, hm⟩ := k2; exact DataW.trod_lt m _ _ _ hm
  obtain ⟨l1, e1, t1, n1, z1, b1⟩ : ∃ l : List Tm, l.length = len1 ∧ RdT W a1 l ∧ (a1 = none → cap1 = 0) ∧ (∀ t ∈ l, 0 ≤ t.s) ∧ l.length * 40 ≤ 140737488355328 := by
    obtain ⟨fuel, hf⟩ := h1
    have hf' : DataW.trod enc Try.prog W 0 (fun _ => true) true fuel 22 [.slice a1 len1 cap1] = some (d1, p1) := hf
    obtain ⟨l, q1, q2, q3, q4, q5⟩ := tombs_open hf'
    refine ⟨l, q1, q2, q3, q4, ?_⟩
    rcases q5 with rfl | ⟨es, sp, hx, he⟩
    · simp
    · have hx' : d1 = .slice es sp := hx
      subst hx'
      have hs := sized_slice hsz (j := 1) (t := 22) (e := 56) rfl rfl Try.underlying22
      rw [hby] at hs
      simp only [reachBytes] at hs
      omega
  obtain ⟨l2, e2, t2, b2, c2⟩ : ∃ l : List Ak, l.length = len2 ∧ Rd Ak.c 7 W a2 l ∧ l.length ≤ 140737488355328 ∧ ∀ x ∈ l, 0 ≤ x.s ∧ 0 ≤ x.lo ∧ 0 ≤ x.n := by
    obtain ⟨fuel, hf⟩ := h2
    have hf' : DataW.trod enc Try.prog W 0 (fun _ => true) true fuel 34 [.slice a2 len2 cap2] = some (d2, p2) := hf
    obtain ⟨l, q1, q2, q3, q5⟩ := askeds_open hf'
    refine ⟨l, q1, q2, ?_, q3⟩
    rcases q5 with rfl | ⟨es, sp, hx, he⟩
    · simp
    · have hx' : d2 = .slice es sp := hx
      subst hx'
      have hs := sized_slice hsz (j := 2) (t := 34) (e := 42) rfl rfl Try.underlying34
      rw [hby2] at hs
      simp only [reachBytes] at hs
      omega
  clear hA0 hval0
  subst e1 e2
  refine (sets_walk (how := s0) (cb := cap2) t1 n1 t2 b1 b2 z1 c2).mono fun e W' ⟨he, bel⟩ => ?_
  subst he
  exact ⟨_, rfl, _, _, _, [], _, [], hW', trodAll_mk1 (shut_bool Try.underlying4 _), (trodAll_cons_mk (shut_int Try.underlying3 w0) (trodAll_cons_mk (Below.trod laidOut (by kernel_rfl) (of_decide_eq_true (by kernel_rfl)) k1 bel lt1) (trodAll_cons_mk (Below.trod laidOut (by kernel_rfl) (of_decide_eq_true (by kernel_rfl)) k2 bel lt2) trodAll_mk0))), rfl, bel.frame _, fun h => by cases h⟩

theorem over : Rows.rangedelSetsRow.holds Try.pinned (OpenSpec.ofChange Rows.rangedelSetsSpec) :=
  OpenClaim.holds_of_wide 4 Try.f4 rfl rfl rfl rfl rfl rfl rfl ⟨rfl, rfl, rfl, rfl, rfl⟩ rfl rfl rfl rfl rfl (by kernel_rfl) Try.func4 (by kernel_rfl)
    (of_decide_eq_true (by kernel_rfl)) (by unfold Func.isWrapper; first | (rw [if_pos (by decide +kernel)]; kernel_rfl) | (rw [if_neg (by decide +kernel)]; exact ⟨rfl, rfl⟩))
    (fun os started H enc _ => lifted os started H enc)

end Go.Proofs.Ytagnnocecfoggaa.rangedelSets
namespace Go.Proofs.Ytagnnocecfoggaa
/-- The statement. -/
theorem rangedelSets_holds : Rows.RangedelSetsSaid := rangedelSets.over
#print axioms rangedelSets_holds
end Go.Proofs.Ytagnnocecfoggaa
