/-
  areMany, Join; the reference's long, can.
-/
import Derived.Test.YtagnnocecfoggaaJd
import Derived.Test.YtagnnocecfoggaaSt
namespace Go.Proofs.Ytagnnocecfoggaa
open Go.RowKit
set_option linter.unusedVariables false
set_option linter.unusedSimpArgs false
def manyB (L : List Fg) : Bool := decide (2048 < L.length) || L.any (fun f => longB f.b f.e) || decide (1048576 < cntQ L)
noncomputable def jnE (how : Int) (L : List Fg) : Int := if manyB L = true then 2 else if (isHowB how && canB how L) = true then 0 else 1
noncomputable def jL (how : Int) (L : List Fg) : List Tm := if jnE how L = 0 then jnT L else []
theorem any_false_take {L : List Fg} {k : Nat} {f : Fg} (h : L[k]? = some f) (h1 : ∀ (i : Nat) (g : Fg), i < k → L[i]? = some g → longB g.b g.e = false) (h2 : longB f.b f.e = false) : ∀ (i : Nat) (g : Fg), i < k + 1 → L[i]? = some g → longB g.b g.e = false := by
  intro i g hi hg
  by_cases e : i = k
  · subst e; rw [h] at hg; cases hg; exact h2
  · exact h1 i g (by omega) hg
theorem any_false {L : List Fg} (h : ∀ (i : Nat) (g : Fg), L[i]? = some g → longB g.b g.e = false) : L.any (fun f => longB f.b f.e) = false := by
  rw [Bool.eq_false_iff]
  intro e
  rw [List.any_eq_true] at e
  obtain ⟨f, hf, hl⟩ := e
  obtain ⟨i, hi, rfl⟩ := List.getElem_of_mem hf
  rw [h i _ (List.getElem?_eq_getElem hi)] at hl
  cases hl
set_option maxRecDepth 100000 in
set_option maxHeartbeats 1000000 in
theorem aremany_any {w : World} {a : Option Addr} {c : Nat} {L : List Fg} (h : RdF w a L) (hl : L.length ≤ 140737488355328) (hq : ∀ f ∈ L, f.q.length ≤ 140737488355328) :
    Calls Try.prog 36 #[.slice a L.length c] w fun e w' => e = .returned (.bool (manyB L)) ∧ Below w.heap.size w w' := by
  have H : Hid (RdF w a L) := h
  have HQ : Hid (∀ f ∈ L, f.q.length ≤ 140737488355328) := hq
  obtain ⟨R, hR⟩ : ∃ R, Hid (manyB L = R) := ⟨_, rfl⟩
  rw [hR.out]
  have HCt : Hid (L.length ≤ 2048 → ∀ W, Below w.heap.size w W → Calls Try.prog 57 #[.slice a L.length c] W fun e w' => e = .returned (.int .i64 (cntQ L)) ∧ Below W.heap.size W w') := fun hl W hb => count_any (h.below hb) (by omega) hq
  obtain ⟨N, hN⟩ : ∃ N, Hid (L.length = N) := ⟨_, rfl⟩
  rw [hN.out] at hl HCt ⊢
  clear h hq
  by_cases hN1 : 2048 < N
  · have hNz : (2048 : Int) < N := by omega
    have HRt : Hid (true = R) := by show _ = _; rw [← hR.out]; unfold manyB; rw [hN.out]; simp [hN1]
    go_enter Try.func36, Try.ntmps36
    go_wp2_with fail
    go_ret
    exact ⟨by rw [← HRt.out]; rfl, Below.refl _ _⟩
  · have hNz : ¬ (2048 : Int) < N := by omega
    have HC0 := HCt.out (by omega)
    go_enter Try.func36, Try.ntmps36
    go_wp2_with fail
    go_loopw [10] (fun s wr => ∃ k : Nat, k ≤ N ∧ s = .int .i64 k ∧ Hid (Below w.heap.size w wr ∧ ∀ (i : Nat) (g : Fg), i < k → L[i]? = some g → longB g.b g.e = false)) (fun s _ => ((N : Int) - intOf s).toNat)
    case atStart => exact ⟨0, Nat.zero_le _, rfl, Below.refl _ _, fun i g hi => absurd hi (Nat.not_lt_zero _)⟩
    case round =>
      obtain ⟨k, hk, rfl, HB⟩ := hrel
      rcases Nat.lt_or_ge k N with hkN | hkN
      · have hkz : (k : Int) < N := by omega
        obtain ⟨f, hf⟩ : ∃ f, L[k]? = some f := ⟨_, List.getElem?_eq_getElem (by rw [hN.out]; exact hkN)⟩
        obtain ⟨g, o, pa, pk, rfl, t0, t1, t2, _⟩ := (H.out.below HB.out.1).at_ hf
        have HF : Hid (L[k]? = some f) := hf
        have HB2 : Hid (Below w.heap.size w (wr.alloc (.cells #[.string f.b, .string f.e, .slice pa f.q.length pk] 63))) := HB.out.1.alloc HB.out.1.size _
        have HLo := fun W => islong_any f.b f.e W
        clear hf
        cases hlg : longB f.b f.e
        · rw [hlg] at HLo
          go_wp2_with (go_at_call 31; refine (HLo _).mono ?_; rintro e w1 ⟨rfl, hw⟩; have hw' := hw.symm; subst hw')
          go_roundw
          case rel => exact ⟨k + 1, by omega, by go_num, HB2.out, any_false_take HF.out HB.out.2 hlg⟩
          case measure => simp [intOf]; omega
        · rw [hlg] at HLo
          go_wp2_with (go_at_call 31; refine (HLo _).mono ?_; rintro e w1 ⟨rfl, hw⟩; have hw' := hw.symm; subst hw')
          go_ret
          refine ⟨?_, HB2.out⟩
          have : true = R := by
            rw [← hR.out]; unfold manyB
            have : L.any (fun f => longB f.b f.e) = true := List.any_eq_true.2 ⟨f, List.mem_of_getElem? HF.out, hlg⟩
            simp [this]
          rw [← this]; rfl
      · obtain rfl : k = N := by omega
        have hz : ¬ ((k : Int) < k) := by omega
        have HRc : Hid (decide ((1048576 : Int) < (cntQ L : Int)) = R) := by
          show _ = _
          rw [← hR.out]; unfold manyB
          rw [any_false (fun i g hg => HB.out.2 i g (by rw [← hN.out]; exact (List.getElem?_eq_some_iff.1 hg).1) hg), hN.out]
          rw [show decide (2048 < k) = false by simp; omega]
          simp only [Bool.false_or]
          rw [decide_eq_decide]; omega
        have HC1 := HC0 wr HB.out.1
        generalize cntQ L = CN at HRc HC1
        go_wp2_with (go_at_call 57; refine HC1.mono ?_; rintro e w1 ⟨rfl, hb1⟩; have HB3 : Hid (Below w.heap.size w w1) := HB.out.1.trans (hb1.mono HB.out.1.size); clear hb1)
        go_ret
        exact ⟨by rw [← HRc.out]; rfl, HB3.out⟩
set_option maxRecDepth 100000 in
set_option maxHeartbeats 1000000 in
theorem Join_any {w : World} {a : Option Addr} {c : Nat} {L : List Fg} (h : RdF w a L) (how : Int) (hl : L.length ≤ 140737488355328) (hq : ∀ f ∈ L, f.q.length ≤ 140737488355328) :
    Calls Try.prog 10 #[.int .i64 how, .slice a L.length c] w fun e w' => ∃ a' c', e = .returned (.tuple #[.slice a' (jL how L).length c', .int .i64 (jnE how L)]) ∧ RdT w' a' (jL how L) ∧ Below w.heap.size w w' := by
  have HMa := aremany_any (c := c) h hl hq
  have HSm : Hid (manyB L = false → L.length ≤ 2048 ∧ cntQ L ≤ 1048576) := fun hm => by
    unfold manyB at hm
    simp only [Bool.or_eq_false_iff, decide_eq_false_iff_not] at hm
    omega
  have HCa : Hid (manyB L = false → ∀ W, Below w.heap.size w W → Calls Try.prog 37 #[.int .i64 how, .slice a L.length c] W fun e w' => e = .returned (.bool (canB how L)) ∧ Below W.heap.size W w') := fun hm W hb => canbe_any (h.below hb) how (by have := (HSm.out hm).1; omega) hq
  have HTo : Hid (manyB L = false → ∀ W, Below w.heap.size w W → Calls Try.prog 38 #[.slice a L.length c] W fun e w' => ∃ v, e = .returned v ∧ RowT w' W.heap.size v (jnT L) ∧ Below W.heap.size W w') := fun hm W hb => tombstones_any (h.below hb) (by have := (HSm.out hm).1; omega) (by have := (HSm.out hm).2; omega)
  have HIs := fun W => ishow_any how W
  obtain ⟨N, hN⟩ : ∃ N, Hid (L.length = N) := ⟨_, rfl⟩
  rw [hN.out] at HMa HCa HTo ⊢
  obtain ⟨E, hE⟩ : ∃ E, Hid (jnE how L = E) := ⟨_, rfl⟩
  obtain ⟨LR, hLR⟩ : ∃ LR, Hid (jL how L = LR) := ⟨_, rfl⟩
  rw [hE.out, hLR.out]
  have HNo : Hid (E ≠ 0 → LR = []) := fun h0 => by rw [← hLR.out]; unfold jL; rw [hE.out, if_neg h0]
  have HYe : Hid (E = 0 → LR = jnT L) := fun h0 => by rw [← hLR.out]; unfold jL; rw [hE.out, if_pos h0]
  clear h hl hq
  cases hm : manyB L
  · rw [hm] at HMa
    have HCa' := HCa.out hm
    have HTo' := HTo.out hm
    cases hh : isHowB how
    · have hE1 : 1 = E := by rw [← hE.out]; simp [jnE, hm, hh]
      subst hE1
      rw [hh] at HIs
      clear HCa HTo HSm HCa' HTo'
      go_enter Try.func10, Try.ntmps10
      go_wp2_with (first
        | (go_at_call 36; refine HMa.mono ?_; rintro e w1 ⟨rfl, hb1⟩; have HB1 : Hid (Below w.heap.size w w1) := hb1; clear hb1)
        | (go_at_call 30; refine (HIs _).mono ?_; rintro e w2 ⟨rfl, hw⟩; have hw' := hw.symm; subst hw'))
      go_ret2
      rw [HNo.out (by decide)]
      first | exact ⟨none, 0, rfl, .inl rfl, HB1.out⟩ | exact ⟨none, ⟨0, rfl⟩, .inl rfl, HB1.out⟩
    · rw [hh] at HIs
      cases hcb : canB how L
      · have hE1 : 1 = E := by rw [← hE.out]; simp [jnE, hm, hh, hcb]
        subst hE1
        rw [hcb] at HCa'
        clear HCa HTo HSm HTo'
        go_enter Try.func10, Try.ntmps10
        go_wp2_with (first
          | (go_at_call 36; refine HMa.mono ?_; rintro e w1 ⟨rfl, hb1⟩; have HB1 : Hid (Below w.heap.size w w1) := hb1; have HC1 := HCa' w1 hb1; clear hb1)
          | (go_at_call 30; refine (HIs _).mono ?_; rintro e w2 ⟨rfl, hw⟩; have hw' := hw.symm; subst hw')
          | (go_at_call 37; refine HC1.mono ?_; rintro e w3 ⟨rfl, hb3⟩; have HB3 : Hid (Below w.heap.size w w3) := HB1.out.trans (hb3.mono HB1.out.size); clear hb3))
        go_ret2
        rw [HNo.out (by decide)]
        first | exact ⟨none, 0, rfl, .inl rfl, HB3.out⟩ | exact ⟨none, ⟨0, rfl⟩, .inl rfl, HB3.out⟩
      · have hE1 : 0 = E := by rw [← hE.out]; simp [jnE, hm, hh, hcb]
        subst hE1
        rw [hcb] at HCa'
        have hLRe := HYe.out rfl
        rw [← hLRe] at HTo'
        clear HCa HTo HSm HNo HYe hLRe
        obtain ⟨RN, hRN⟩ : ∃ RN, Hid (LR.length = RN) := ⟨_, rfl⟩
        rw [hRN.out]
        go_enter Try.func10, Try.ntmps10
        go_wp2_with (first
          | (go_at_call 36; refine HMa.mono ?_; rintro e w1 ⟨rfl, hb1⟩; have HB1 : Hid (Below w.heap.size w w1) := hb1; have HC1 := HCa' w1 hb1; clear hb1)
          | (go_at_call 30; refine (HIs _).mono ?_; rintro e w2 ⟨rfl, hw⟩; have hw' := hw.symm; subst hw')
          | (go_at_call 37; refine HC1.mono ?_; rintro e w3 ⟨rfl, hb3⟩; have HB3 : Hid (Below w.heap.size w w3) := HB1.out.trans (hb3.mono HB1.out.size); have HT3 := HTo' w3 HB3.out; clear hb3)
          | (go_at_call 38; refine HT3.mono ?_; rintro e w4 ⟨v4, rfl, r1, r2⟩
             obtain ⟨a4, c4, hv4, _, hrd, _⟩ := row_rd tm_k r1
             have HB4 : Hid (RdT w4 a4 LR ∧ Below w.heap.size w w4) := ⟨hrd, HB3.out.trans (r2.mono HB3.out.size)⟩
             rw [hRN.out] at hv4
             subst hv4
             clear r1 r2 hrd))
        go_ret2
        first | exact ⟨a4, c4, rfl, HB4.out⟩ | exact ⟨a4, ⟨c4, rfl⟩, HB4.out⟩
  · have hE1 : 2 = E := by rw [← hE.out]; simp [jnE, hm]
    subst hE1
    rw [hm] at HMa
    clear HCa HTo HSm
    go_enter Try.func10, Try.ntmps10
    go_wp2_with (go_at_call 36; refine HMa.mono ?_; rintro e w1 ⟨rfl, hb1⟩; have HB1 : Hid (Below w.heap.size w w1) := hb1; clear hb1)
    go_ret2
    rw [HNo.out (by decide)]
    first | exact ⟨none, 0, rfl, .inl rfl, HB1.out⟩ | exact ⟨none, ⟨0, rfl⟩, .inl rfl, HB1.out⟩
end Go.Proofs.Ytagnnocecfoggaa
