/-
  The reference's key.
-/
import Derived.Test.YtkmpcheamdadcaaZf
namespace Go.Proofs.Ytkmpcheamdadcaa
open Go.RowKit
set_option linter.unusedVariables false
set_option linter.unusedSimpArgs false
set_option maxRecDepth 100000 in
set_option maxHeartbeats 2000000 in
theorem rkey_any {w : World} {base : Nat} {v : Value} {l : List Int} (h : OwnB w base v l) (hb : base ≤ w.heap.size) {k : Ky} (hk : kOk k) (hs : 0 ≤ k.s) (hl : l.length ≤ 500000000) :
    Calls Try.prog 38 #[v, .agg #[.string k.u, .int .u64 k.s, .int .i64 k.k]] w fun e w' => ∃ v', e = .returned v' ∧ AppB w w' base v v' (l ++ kt k) := by
  obtain ⟨i0, hi, hz0, hz1, hz2⟩ := info_parts info5
  have HO : Hid (OwnB w base v l) := h
  have HK : Hid (∀ W, Calls Try.prog 74 #[.agg #[.string k.u, .int .u64 k.s, .int .i64 k.k]] W fun e w' => ∃ v, e = .returned (.tuple #[v, .int .i64 0]) ∧ OwnB w' W.heap.size v (kb k) ∧ Below W.heap.size W w') := fun W => rencode_yes k.u k.s k.k W hk hs
  obtain ⟨N, hN⟩ : ∃ N, Hid ((kb k).length = N) := ⟨_, rfl⟩
  have hN0 : 0 < N ∧ N ≤ 1032 := by
    have h1 := kb_len k
    have h2 := hk.size
    rw [hN.out] at h1
    omega
  have hw : IntKind.u64.wrap (N : Int) = N := by rw [IntKind.wrap_u64]; omega
  have HE : Hid (l ++ nbs [(N : Int)] ++ kb k = l ++ kt k) := by
    show _ = _
    simp [kt, hN.out, nbs]
  have HL : Hid ((l ++ nbs [(N : Int)]).length + (kb k).length ≤ 140737488355328) := by
    show _ ≤ _
    have := one_len (N : Int)
    rw [List.length_append, hN.out]
    omega
  generalize l ++ kt k = l2 at *
  generalize kb k = kk at *
  obtain ⟨ku, ks, kx⟩ := k
  clear h
  go_enter Try.func38, Try.ntmps38
  go_wp2_with (first
    | (go_at_call 74
       refine (HK.out _).mono ?_
       rintro en w2 ⟨v2, rfl, ho2, hb2⟩
       obtain ⟨b2, o2, c2, rfl⟩ := ho2.form (by rw [hN.out]; exact hN0.1)
       rw [hN.out] at ho2 ⊢
       have HB2 : Hid (Below w.heap.size w w2) := bstep (al1 _ _) hb2
       have HO2 : Hid (OwnB w2 (w.heap.size + 1) (.slice (some ⟨b2, o2, none⟩) N c2) kk) := by
         rw [World.size_alloc] at ho2
         exact ho2
       clear ho2 hb2)
    | (go_at_call 37
       have t := numbers_new (W := w2.alloc (.cells #[.int .u64 (N : Int)] 23)) ((HO.out.below HB2.out (Nat.le_refl _)).alloc _) (by have := HB2.out.size; simp; omega) [(N : Int)] (Blk.new w2 23 [.int .u64 (N : Int)]) (fun e => by have := (HO.out.lt _ e).2; have := HB2.out.size; omega) (fun n hn => by simp at hn; subst hn; omega) (by omega) (by simp) 1
       refine t.mono ?_
       clear t
       rintro en w3 ⟨v3, rfl, A3⟩
       have HA3 : Hid (AppB w w3 base v v3 (l ++ nbs [(N : Int)])) := AppB.pre (bal0 HB2.out) A3
       have HX3 : Hid (OwnB w3 (w.heap.size + 1) (.slice (some ⟨b2, o2, none⟩) N c2) kk) := (HO2.out.alloc _).upd A3.upd (fun j hj e => by have h1 := (HO.out.lt _ e).2; have h2 := (HO2.out.lt _ hj).1; omega)
       clear A3)
    | (at_builtin
       have hq := HX3
       clear hq
       refine OwnB.wpList_append rfl _ _ 28 28 rfl rfl (base := base) (l := l ++ nbs [(N : Int)]) HA3.out.own i0 Try.underlying28 hi hz0 hz1 hz2 (.slice (some ⟨b2, o2, none⟩) N c2) rfl kk HX3.out.src (by have := HA3.out.upd.size; omega) HL.out ?_
       intro v4 w4 ho4 hg4 hl4
       have HA4 : Hid (AppB w w4 base v v4 (l ++ nbs [(N : Int)] ++ kk)) := HA3.out.trans (AppB.grow ho4 hg4 hl4)
       clear ho4 hg4 hl4))
  go_ret
  exact ⟨_, rfl, by rw [← HE.out]; exact HA4.out⟩
end Go.Proofs.Ytkmpcheamdadcaa
