/-
  For every number and every list of records the law BatchEncodes returns true and leaves its arguments as they read: the bytes are those of the reference, and they are read back as they were.
  Conditions: none beyond the form's own reach.
-/
import Derived.Test.YtkpijoogaicodaaRows
import Derived.WalkKit
import Derived.ProofKit
import Derived.OpenShut
import Derived.ShutString
import Derived.ChangeOld
import Derived.Below
import Derived.SizedLaws
import Derived.Test.YtkpijoogaicodaaFe
import Derived.Test.YtkpijoogaicodaaFd
namespace Go.Proofs.Ytkpijoogaicodaa.batchEncodes
open Go.ChangeShapes Go.WideShapes Go.ChangeAt Go.RowKit
open Go.ChangeMaps (open_string shut_string)
set_option linter.unusedVariables false

theorem own : ownKnob Try.prog.godebug = none := by kernel_rfl
theorem laidOut : laidOutB Try.prog = true := by kernel_rfl

set_option maxRecDepth 100000 in
theorem lifted (os : Os) (started : os.Started) (H : Type) (enc : TypeId × Value → H) :
    ReturnsInHanded {} Try.checked os 3 .any (Rows.batchEncodesSpec.pre6 enc Try.prog Try.f3 Rows.batchEncodesRow.domain false) (Rows.batchEncodesSpec.post enc Try.prog Try.f3 false true false false) := by
  refine returnsInHanded_of_change_sized (C := Try.checked) own started (by kernel_rfl) Try.func3
    (ChangeSpec.witness6 (enc := enc) (C := Try.checked) false ⟨#[], #[.int .u64 0, .slice none 0 0], []⟩ 8 (by kernel_rfl) (by kernel_rfl) (by kernel_rfl) (by kernel_rfl)) ?_
  intro W base args ds gs before hval0 hW hcnd hsz _
  have hval : ∀ (j : Nat) t v, Try.f3.params[j]? = some t → args[j]? = some v → Value.okWide Try.prog W .any base t v := hval0
  have hW' := hW
  obtain ⟨p, q, hA0, hV, rfl, hfz, hnd⟩ := hW
  have hA : DataW.TrodAll enc Try.prog W 0 (fun _ => true) true Try.f3.params.toList args.toList ds p := hA0
  rw [Try.params3] at hA hval
  obtain ⟨v0, vs0, d0, ds0, p0, q0, hargs, rfl, rfl, h0, r0⟩ := trodAll_cons hA
  obtain ⟨v1, vs1, d1, ds1, p1, q1, rfl, rfl, rfl, h1, r1⟩ := trodAll_cons r0
  obtain ⟨rfl, rfl, rfl⟩ := trodAll_nil r1
  obtain rfl : args = #[v0, v1] := by cases args; simp_all
  obtain ⟨rfl, rfl⟩ := trodVars_none hV
  have hby : Try.checked.prog.bytesOf 31 = 48 := by kernel_rfl
  obtain ⟨s0, rfl, rfl, rfl, w0⟩ := open_int Try.underlying22 (hval 0 22 v0 rfl rfl) h0
  obtain ⟨a1, len1, cap1, rfl⟩ := okWide_slice Try.underlying23 (hval 1 23 v1 rfl rfl)
  have k1 := h1
  have lt1 : ∀ x ∈ p1, x.block < W.heap.size := by obtain ⟨m, hm⟩ := k1; exact DataW.trod_lt m _ _ _ hm
  obtain ⟨l1, w1, g1, g2, n1⟩ : ∃ l, RdR W (.slice a1 len1 cap1) l ∧ Fam l ∧ (∀ r ∈ l, (r.val.size : Int) ≤ 9223372036854775807) ∧ (([] : List Rec).length + l.length) * 48 ≤ 140737488355328 := by
    obtain ⟨fuel, hf⟩ := h1
    have hf' : DataW.trod enc Try.prog W 0 (fun _ => true) true fuel 23 [.slice a1 len1 cap1] = some (d1, p1) := hf
    obtain ⟨l, q1, q2, q3, q4⟩ := recs_open2 hf'
    refine ⟨l, q1, q2, q3, ?_⟩
    rcases q4 with rfl | ⟨es, sp, hx, he⟩
    · simp
    · have hx' : d1 = .slice es sp := hx
      subst hx'
      have hs := sized_slice hsz (j := 1) (t := 23) (e := 31) rfl rfl Try.underlying23
      rw [hby] at hs
      simp only [reachBytes] at hs
      simp only [List.length_nil]
      omega
  clear hA0 hval0
  refine (encodes_walk s0 w1 g1 g2 n1 (bounds_u64 w0).1 (by have := (bounds_u64 w0).2; omega)).mono fun e W' ⟨he, bel⟩ => ?_
  subst he
  exact ⟨_, rfl, _, _, _, [], _, [], hW', trodAll_mk1 (shut_bool Try.underlying4 _), (trodAll_cons_mk (shut_int Try.underlying22 w0) (trodAll_cons_mk (Below.trod laidOut (by kernel_rfl) (of_decide_eq_true (by kernel_rfl)) k1 bel lt1) trodAll_mk0)), rfl, bel.frame _, fun h => by cases h⟩

theorem over : Rows.batchEncodesRow.holds Try.pinned (OpenSpec.ofChange Rows.batchEncodesSpec) :=
  OpenClaim.holds_of_wide 3 Try.f3 rfl rfl rfl rfl rfl rfl rfl ⟨rfl, rfl, rfl, rfl, rfl⟩ rfl rfl rfl rfl rfl (by kernel_rfl) Try.func3 (by kernel_rfl)
    (of_decide_eq_true (by kernel_rfl)) (by unfold Func.isWrapper; first | (rw [if_pos (by decide +kernel)]; kernel_rfl) | (rw [if_neg (by decide +kernel)]; exact ⟨rfl, rfl⟩))
    (fun os started H enc _ => lifted os started H enc)

end Go.Proofs.Ytkpijoogaicodaa.batchEncodes
namespace Go.Proofs.Ytkpijoogaicodaa
/-- The statement. -/
theorem batchEncodes_holds : Rows.BatchEncodesSaid := batchEncodes.over
#print axioms batchEncodes_holds
end Go.Proofs.Ytkpijoogaicodaa
