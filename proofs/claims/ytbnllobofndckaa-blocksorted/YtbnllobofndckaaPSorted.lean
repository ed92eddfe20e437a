/-
  For every comparator, every list of entries, every key and every number the law BlockSorted returns true and leaves its arguments as they read: a block that Build makes is a sorted list, however many entries are written whole: Seek, Get and All find what a search through all entries finds.
  Conditions: none beyond the form's own reach.
-/
import Derived.Test.YtbnllobofndckaaRows
import Derived.WalkKit
import Derived.ProofKit
import Derived.OpenShut
import Derived.ShutString
import Derived.ChangeOld
import Derived.Below
import Derived.SizedLaws
import Derived.Test.YtbnllobofndckaaFr
import Derived.Test.YtbnllobofndckaaSw
namespace Go.Proofs.Ytbnllobofndckaa.blockSorted
open Go.ChangeShapes Go.WideShapes Go.ChangeAt Go.RowKit
open Go.ChangeMaps (open_string shut_string)
set_option linter.unusedVariables false

theorem list3 {cs : Array Value} (h : cs.size = 3) : ∃ c0 c1 c2, cs = #[c0, c1, c2] := by
  obtain ⟨l⟩ := cs
  match l, h with
  | [c0, c1, c2], _ => exact ⟨c0, c1, c2, rfl⟩
set_option maxRecDepth 100000 in
/-- A key, as the form reads it. -/
theorem key_open {H : Type} {enc : TypeId × Value → H} {W : World} {r : Reach} {b0 base : Nat} {spare : Nat → Bool} {held : Bool} {v : Value} {d : DataW H} {p : List MemPlace}
    (hv : Value.okWide Try.prog W r b0 33 v) (h : DataW.Trod enc Try.prog W base spare held 33 v d p) :
    ∃ (u : ByteArray) (s k : Int), v = .agg #[.string u, .int .u64 s, .int .i64 k] := by
  obtain ⟨cs, rfl, hsz⟩ := okWide_struct Try.underlying33 hv
  obtain ⟨c0, c1, c2, rfl⟩ := list3 (hsz.trans cells33)
  obtain ⟨fuel, hf⟩ := h
  have hf' : DataW.trod enc Try.prog W base spare held fuel 33 [c0, c1, c2] = some (d, p) := hf
  obtain ⟨u, s, k, rfl, rfl, rfl, _⟩ := keycells_open hf'
  exact ⟨u, s, k, rfl⟩

theorem own : ownKnob Try.prog.godebug = none := by kernel_rfl
theorem laidOut : laidOutB Try.prog = true := by kernel_rfl

set_option maxRecDepth 100000 in
theorem lifted (os : Os) (started : os.Started) (H : Type) (enc : TypeId × Value → H) :
    ReturnsInHanded {} Try.checked os 6 .any (Rows.blockSortedSpec.pre6 enc Try.prog Try.f6 Rows.blockSortedRow.domain false) (Rows.blockSortedSpec.post enc Try.prog Try.f6 false true false false) := by
  refine returnsInHanded_of_change_sized (C := Try.checked) own started (by kernel_rfl) Try.func6
    (ChangeSpec.witness6 (enc := enc) (C := Try.checked) false ⟨#[], #[.int .i64 0, .slice none 0 0, .agg #[.string ⟨#[]⟩, .int .u64 0, .int .i64 0], .int .u16 0], []⟩ 8 (by kernel_rfl) (by kernel_rfl) (by kernel_rfl) (by kernel_rfl)) ?_
  intro W base args ds gs before hval0 hW hcnd hsz _
  have hval : ∀ (j : Nat) t v, Try.f6.params[j]? = some t → args[j]? = some v → Value.okWide Try.prog W .any base t v := hval0
  have hW' := hW
  obtain ⟨p, q, hA0, hV, rfl, hfz, hnd⟩ := hW
  have hA : DataW.TrodAll enc Try.prog W 0 (fun _ => true) true Try.f6.params.toList args.toList ds p := hA0
  rw [Try.params6] at hA hval
  obtain ⟨v0, vs0, d0, ds0, p0, q0, hargs, rfl, rfl, h0, r0⟩ := trodAll_cons hA
  obtain ⟨v1, vs1, d1, ds1, p1, q1, rfl, rfl, rfl, h1, r1⟩ := trodAll_cons r0
  obtain ⟨v2, vs2, d2, ds2, p2, q2, rfl, rfl, rfl, h2, r2⟩ := trodAll_cons r1
  obtain ⟨v3, vs3, d3, ds3, p3, q3, rfl, rfl, rfl, h3, r3⟩ := trodAll_cons r2
  obtain ⟨rfl, rfl, rfl⟩ := trodAll_nil r3
  obtain rfl : args = #[v0, v1, v2, v3] := by cases args; simp_all
  obtain ⟨rfl, rfl⟩ := trodVars_none hV
  have hby : Try.checked.prog.bytesOf 48 = 48 := by kernel_rfl
  obtain ⟨s0, rfl, rfl, rfl, w0⟩ := open_int Try.underlying3 (hval 0 3 v0 rfl rfl) h0
  obtain ⟨s3, rfl, rfl, rfl, w3⟩ := open_int Try.underlying46 (hval 3 46 v3 rfl rfl) h3
  obtain ⟨a1, len1, cap1, rfl⟩ := okWide_slice Try.underlying22 (hval 1 22 v1 rfl rfl)
  have k1 := h1
  have lt1 : ∀ x ∈ p1, x.block < W.heap.size := by obtain ⟨m, hm⟩ := k1; exact DataW.trod_lt m _ _ _ hm
  have k2 := h2
  have lt2 : ∀ x ∈ p2, x.block < W.heap.size := by obtain ⟨m, hm⟩ := k2; exact DataW.trod_lt m _ _ _ hm
  obtain ⟨u2, s2, kk2, rfl⟩ := key_open (hval 2 33 v2 rfl rfl) h2
  obtain ⟨l1, e1, w1, g1, c1, n1⟩ : ∃ l : List Ent, l.length = len1 ∧ RdE W a1 l ∧ (∀ e ∈ l, 0 ≤ e.s) ∧ l.length ≤ cap1 ∧ l.length * 48 ≤ 140737488355328 := by
    obtain ⟨fuel, hf⟩ := h1
    have hf' : DataW.trod enc Try.prog W 0 (fun _ => true) true fuel 22 [.slice a1 len1 cap1] = some (d1, p1) := hf
    have hlc : len1 ≤ cap1 := by
      rcases Go.Deep.open_slice Try.underlying22 hf' with ⟨hh, _⟩ | ⟨a', len', cap', m, n', D, Pl, hcs, hb, hl, hm, hmm, hx, hcell⟩
      · simp only [List.cons.injEq, Value.slice.injEq, and_true] at hh
        omega
      · simp only [List.cons.injEq, Value.slice.injEq, and_true] at hcs
        omega
    obtain ⟨l, q1, q2, q3, q4⟩ := ents_open hf'
    refine ⟨l, q1, q2, q3, by omega, ?_⟩
    rcases q4 with rfl | ⟨es, sp, hx, he⟩
    · simp
    · have hx' : d1 = .slice es sp := hx
      subst hx'
      have hs := sized_slice hsz (j := 1) (t := 22) (e := 48) rfl rfl Try.underlying22
      rw [hby] at hs
      simp only [reachBytes] at hs
      omega
  obtain ⟨rr, hrr, hrb⟩ : ∃ rr : Nat, s3 = rr ∧ rr < 65536 := by
    have hw := bounds_u16 w3
    exact ⟨s3.toNat, by omega, by omega⟩
  subst hrr
  clear hA0 hval0
  subst e1
  refine (sorted_walk w1 g1 s0 cap1 c1 n1 u2 s2 kk2 rr hrb).mono fun e W' ⟨he, bel⟩ => ?_
  subst he
  exact ⟨_, rfl, _, _, _, [], _, [], hW', trodAll_mk1 (shut_bool Try.underlying4 _), (trodAll_cons_mk (shut_int Try.underlying3 w0) (trodAll_cons_mk (Below.trod laidOut (by kernel_rfl) (of_decide_eq_true (by kernel_rfl)) k1 bel lt1) (trodAll_cons_mk (Below.trod laidOut (by kernel_rfl) (of_decide_eq_true (by kernel_rfl)) k2 bel lt2) (trodAll_cons_mk (shut_int Try.underlying46 w3) trodAll_mk0)))), rfl, bel.frame _, fun h => by cases h⟩

theorem over : Rows.blockSortedRow.holds Try.pinned (OpenSpec.ofChange Rows.blockSortedSpec) :=
  OpenClaim.holds_of_wide 6 Try.f6 rfl rfl rfl rfl rfl rfl rfl ⟨rfl, rfl, rfl, rfl, rfl⟩ rfl rfl rfl rfl rfl (by kernel_rfl) Try.func6 (by kernel_rfl)
    (of_decide_eq_true (by kernel_rfl)) (by unfold Func.isWrapper; first | (rw [if_pos (by decide +kernel)]; kernel_rfl) | (rw [if_neg (by decide +kernel)]; exact ⟨rfl, rfl⟩))
    (fun os started H enc _ => lifted os started H enc)

end Go.Proofs.Ytbnllobofndckaa.blockSorted
namespace Go.Proofs.Ytbnllobofndckaa
/-- The statement. -/
theorem blockSorted_holds : Rows.BlockSortedSaid := blockSorted.over
#print axioms blockSorted_holds
end Go.Proofs.Ytbnllobofndckaa
