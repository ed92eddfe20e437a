/-
  For all keys, every number of bits and all numbers of bits more the law BloomNone returns true and leaves its arguments as they read: a filter never misses a key that was put into it, however many bits more are set.
  Conditions: none beyond the form's own reach.
-/
import Derived.Test.YtbmljdeenbokmaaRows
import Derived.WalkKit
import Derived.ProofKit
import Derived.OpenShut
import Derived.ShutString
import Derived.ChangeOld
import Derived.Below
import Derived.SizedLaws
import Derived.Test.YtbmljdeenbokmaaFr
import Derived.Test.YtbmljdeenbokmaaI
namespace Go.Proofs.Ytbmljdeenbokmaa.bloomNone
open Go.ChangeShapes Go.WideShapes Go.ChangeAt Go.RowKit
open Go.ChangeMaps (open_string shut_string)
set_option linter.unusedVariables false

theorem own : ownKnob Try.prog.godebug = none := by kernel_rfl
theorem laidOut : laidOutB Try.prog = true := by kernel_rfl
theorem walk (a : Option Addr) (cap : Nat) (ks : List ByteArray) (b : Int) (ma : Option Addr) (mc : Nat) (ms : List Int) (w : World) (hS : Strs w a ks) (hl : ks.length * 16 ≤ 140737488351232) (hb0 : 0 ≤ b) (hb1 : b < 256) (hM : Arg16 w ma ms) :
    Calls Try.prog 4 #[.slice a ks.length cap, .int .u8 b, .slice ma ms.length mc] w fun e w' => e = .returned (.bool true) ∧ Below w.heap.size w w' := by
  by_cases h : ks.length ≤ 1048576
  · exact none_main a cap ks b ma mc ms w hS hl hb0 hb1 h hM
  · exact none_long a cap ks b ma ms.length mc w hS hl hb0 hb1 (by omega)

set_option maxRecDepth 100000 in
theorem lifted (os : Os) (started : os.Started) (H : Type) (enc : TypeId × Value → H) :
    ReturnsInHanded {} Try.checked os 4 .any (Rows.bloomNoneSpec.pre6 enc Try.prog Try.f4 Rows.bloomNoneRow.domain false) (Rows.bloomNoneSpec.post enc Try.prog Try.f4 false true false false) := by
  refine returnsInHanded_of_change_sized (C := Try.checked) own started (by kernel_rfl) Try.func4
    (ChangeSpec.witness6 (enc := enc) (C := Try.checked) false ⟨#[], #[.slice none 0 0, .int .u8 0, .slice none 0 0], []⟩ 8 (by kernel_rfl) (by kernel_rfl) (by kernel_rfl) (by kernel_rfl)) ?_
  intro W base args ds gs before hval0 hW hcnd hsz _
  have hval : ∀ (j : Nat) t v, Try.f4.params[j]? = some t → args[j]? = some v → Value.okWide Try.prog W .any base t v := hval0
  have hW' := hW
  obtain ⟨p, q, hA0, hV, rfl, hfz, hnd⟩ := hW
  have hA : DataW.TrodAll enc Try.prog W 0 (fun _ => true) true Try.f4.params.toList args.toList ds p := hA0
  rw [Try.params4] at hA hval
  obtain ⟨v0, vs0, d0, ds0, p0, q0, hargs, rfl, rfl, h0, r0⟩ := trodAll_cons hA
  obtain ⟨v1, vs1, d1, ds1, p1, q1, rfl, rfl, rfl, h1, r1⟩ := trodAll_cons r0
  obtain ⟨v2, vs2, d2, ds2, p2, q2, rfl, rfl, rfl, h2, r2⟩ := trodAll_cons r1
  obtain ⟨rfl, rfl, rfl⟩ := trodAll_nil r2
  obtain rfl : args = #[v0, v1, v2] := by cases args; simp_all
  obtain ⟨rfl, rfl⟩ := trodVars_none hV
  obtain ⟨a0, len0, cap0, rfl⟩ := okWide_slice Try.underlying22 (hval 0 22 v0 rfl rfl)
  obtain ⟨a2, len2, cap2, rfl⟩ := okWide_slice Try.underlying37 (hval 2 37 v2 rfl rfl)
  have k0 := h0
  have k2 := h2
  have lt0 : ∀ x ∈ p0, x.block < W.heap.size := by obtain ⟨m, hm⟩ := k0; exact DataW.trod_lt m _ _ _ hm
  have lt2 : ∀ x ∈ p2, x.block < W.heap.size := by obtain ⟨m, hm⟩ := k2; exact DataW.trod_lt m _ _ _ hm
  obtain ⟨ks, w0, e0, g0⟩ : ∃ ks, Strs W a0 ks ∧ ks.length = len0 ∧ ks.length * 16 ≤ 140737488351232 := by
    obtain ⟨fuel, hf⟩ := h0
    rcases Go.Deep.open_strs Try.underlying22 Try.underlying9 (by kernel_rfl) hf with ⟨hcs, _⟩ | ⟨x, l, c, m, Sx, hcs, _, hl, hm, hmm, hx, hcell⟩
    · simp [Value.cells] at hcs
      obtain ⟨rfl, rfl, rfl⟩ := hcs
      exact ⟨[], ⟨by simp, .inl rfl⟩, rfl, by simp⟩
    · simp [Value.cells] at hcs
      obtain ⟨rfl, rfl, rfl⟩ := hcs
      have hlm : len0 ≤ m := by rw [hmm]; split <;> omega
      refine ⟨(List.range len0).map Sx, strs_open hlm hcell, by simp, ?_⟩
      have hd : d0 = _ := congrArg Prod.fst hx
      subst hd
      have hs := sized_slice hsz (j := 0) (t := 22) (e := 9) rfl rfl Try.underlying22
      have hby : Try.checked.prog.bytesOf 9 = 16 := by kernel_rfl
      rw [hby] at hs
      simp [reachBytes] at hs
      simp
      omega
  obtain ⟨a1, rfl, rfl, rfl, w1⟩ := open_int Try.underlying5 (hval 1 5 v1 rfl rfl) h1
  obtain ⟨ms, w2, e2⟩ : ∃ ms, Arg16 W a2 ms ∧ ms.length = len2 := by
    obtain ⟨fuel, hf⟩ := h2
    rcases open_ints Try.underlying37 Try.underlying39 (by kernel_rfl) hf with ⟨hcs, _⟩ | ⟨x, l, c, zs, hcs, _, hl, hm, hz, hx, hcell, hwz⟩
    · simp [Value.cells] at hcs
      obtain ⟨rfl, rfl, rfl⟩ := hcs
      exact ⟨[], ⟨by simp, by simp, .inl rfl⟩, rfl⟩
    · simp [Value.cells] at hcs
      obtain ⟨rfl, rfl, rfl⟩ := hcs
      have hz' : zs.length = cap2 := by simpa using hz
      refine ⟨zs.take len2, arg16_open hl hz' hcell hwz ?_, by simp; omega⟩
      have hd : d2 = .slice (lits .u16 (zs.take len2)) (lits .u16 (zs.drop len2)) := congrArg Prod.fst hx
      subst hd
      have hs := sized_slice hsz (j := 2) (t := 37) (e := 39) rfl rfl Try.underlying37
      have hby : Try.checked.prog.bytesOf 39 = 2 := by kernel_rfl
      rw [hby] at hs
      simp [lits, reachBytes] at hs
      omega
  clear hA0 hval0
  subst e0
  subst e2
  refine (walk a0 cap0 ks a1 a2 cap2 ms W w0 g0 (u8_bd w1).1 (u8_bd w1).2 w2).mono fun e W' ⟨he, bel⟩ => ?_
  subst he
  exact ⟨_, rfl, _, _, _, [], _, [], hW', trodAll_mk1 (shut_bool Try.underlying4 _), (trodAll_cons_mk (Below.trod laidOut (by kernel_rfl) (of_decide_eq_true (by kernel_rfl)) k0 bel lt0) (trodAll_cons_mk (shut_int Try.underlying5 w1) (trodAll_cons_mk (Below.trod laidOut (by kernel_rfl) (of_decide_eq_true (by kernel_rfl)) k2 bel lt2) trodAll_mk0))), rfl, bel.frame _, fun h => by cases h⟩

theorem over : Rows.bloomNoneRow.holds Try.pinned (OpenSpec.ofChange Rows.bloomNoneSpec) :=
  OpenClaim.holds_of_wide 4 Try.f4 rfl rfl rfl rfl rfl rfl rfl ⟨rfl, rfl, rfl, rfl, rfl⟩ rfl rfl rfl rfl rfl (by kernel_rfl) Try.func4 (by kernel_rfl)
    (of_decide_eq_true (by kernel_rfl)) (by unfold Func.isWrapper; first | (rw [if_pos (by decide +kernel)]; kernel_rfl) | (rw [if_neg (by decide +kernel)]; exact ⟨rfl, rfl⟩))
    (fun os started H enc _ => lifted os started H enc)

end Go.Proofs.Ytbmljdeenbokmaa.bloomNone
namespace Go.Proofs.Ytbmljdeenbokmaa
/-- The statement. -/
theorem bloomNone_holds : Rows.BloomNoneSaid := bloomNone.over
#print axioms bloomNone_holds
end Go.Proofs.Ytbmljdeenbokmaa
