/-
  The reference's Join.
-/
import Derived.Test.YtagnnocecfoggaaJf
namespace Go.Proofs.Ytagnnocecfoggaa
open Go.RowKit
set_option linter.unusedVariables false
set_option linter.unusedSimpArgs false
set_option maxRecDepth 100000 in
set_option maxHeartbeats 1500000 in
theorem rJoin_any {w : World} {a : Option Addr} {c : Nat} {L : List Fg} (h : RdF w a L) (how : Int) (hl : L.length ≤ 140737488355328) (hq : ∀ f ∈ L, f.q.length ≤ 140737488355328) :
    Calls Try.prog 11 #[.int .i64 how, .slice a L.length c] w fun e w' => ∃ a' c', e = .returned (.tuple #[.slice a' (jL how L).length c', .int .i64 (jnE how L)]) ∧ RdT w' a' (jL how L) ∧ Below w.heap.size w w' := by
  have H : Hid (RdF w a L) := h
  have HMa := long_any (c := c) h hl hq
  have HSm : Hid (manyB L = false → L.length ≤ 2048 ∧ cntQ L ≤ 1048576) := fun hm => by
    unfold manyB at hm
    simp only [Bool.or_eq_false_iff, decide_eq_false_iff_not] at hm
    omega
  have HCa : Hid (manyB L = false → Calls Try.prog 40 #[.int .i64 how, .slice a L.length c] w fun e w' => e = .returned (.bool (canB how L)) ∧ Below w.heap.size w w') := fun hm => can_any h how (by have := (HSm.out hm).1; omega) hq
  obtain ⟨N, hN⟩ : ∃ N, Hid (L.length = N) := ⟨_, rfl⟩
  rw [hN.out] at HMa HCa HSm ⊢
  obtain ⟨E, hE⟩ : ∃ E, Hid (jnE how L = E) := ⟨_, rfl⟩
  obtain ⟨LR, hLR⟩ : ∃ LR, Hid (jL how L = LR) := ⟨_, rfl⟩
  rw [hE.out, hLR.out]
  have HNo : Hid (E ≠ 0 → LR = []) := fun h0 => by rw [← hLR.out]; unfold jL; rw [hE.out, if_neg h0]
  have HYe : Hid (E = 0 → LR = jnT L) := fun h0 => by rw [← hLR.out]; unfold jL; rw [hE.out, if_pos h0]
  clear h hl hq
  cases hm : manyB L
  · rw [hm] at HMa
    have HCa' := HCa.out hm
    obtain ⟨hN1, hC1⟩ := HSm.out hm
    cases hh : isHowB how
    · have hE1 : 1 = E := by rw [← hE.out]; simp [jnE, hm, hh]
      subst hE1
      have hh0 : (how != 0) = true := by simp [isHowB] at hh; simp [hh.1]
      have hh1 : (how != 1) = true := by simp [isHowB] at hh; simp [hh.2]
      clear HCa HSm HCa'
      go_enter Try.func11, Try.ntmps11
      go_wp2_with (go_at_call 39; refine HMa.mono ?_; rintro e w1 ⟨rfl, hw⟩; have hw' := hw.symm; subst hw')
      go_ret2
      rw [HNo.out (by decide)]
      first | exact ⟨none, 0, rfl, .inl rfl, Below.refl _ _⟩ | exact ⟨none, ⟨0, rfl⟩, .inl rfl, Below.refl _ _⟩
    · have hhow : ((how != 0) && (how != 1)) = false := by
        simp [isHowB] at hh
        rcases hh with rfl | rfl <;> rfl
      have key : ∀ (hh0 : Bool), (how != 0) = hh0 → (hh0 = true → (how != 1) = false) → Calls Try.prog 11 #[.int .i64 how, .slice a N c] w fun e w' => ∃ a' c', e = .returned (.tuple #[.slice a' LR.length c', .int .i64 E]) ∧ RdT w' a' LR ∧ Below w.heap.size w w' := by
        intro b hb hb1
        have hb1' : b = false ∨ (how != 1) = false := by cases b; exact .inl rfl; exact .inr (hb1 rfl)
        clear hb1 hhow
        cases hcb : canB how L
        · have hE1 : 1 = E := by rw [← hE.out]; simp [jnE, hm, hh, hcb]
          subst hE1
          rw [hcb] at HCa'
          clear HCa HSm
          cases b
          all_goals
            first | (have hb2 : (how != 1) = false := by simpa using hb1') | skip
            clear hb1'
            go_enter Try.func11, Try.ntmps11
            go_wp2_with (first
              | (go_at_call 39; refine HMa.mono ?_; rintro e w1 ⟨rfl, hw⟩; have hw' := hw.symm; subst hw')
              | (go_at_call 40; refine HCa'.mono ?_; rintro e w3 ⟨rfl, hb3⟩; have HB3 : Hid (Below w.heap.size w w3) := hb3; clear hb3))
            go_ret2
            rw [HNo.out (by decide)]
            first | exact ⟨none, 0, rfl, .inl rfl, HB3.out⟩ | exact ⟨none, ⟨0, rfl⟩, .inl rfl, HB3.out⟩
        · have hE1 : 0 = E := by rw [← hE.out]; simp [jnE, hm, hh, hcb]
          subst hE1
          rw [hcb] at HCa'
          have hLRe := HYe.out rfl
          have HLe : Hid (LR = jnT L) := hLRe
          have HQ : Hid (∀ (k : Nat) (f : Fg), L[k]? = some f → cntQ (L.take k) + f.q.length ≤ 10000000) := fun k f hf => by
            have h1 := cntQ_take hf
            have h2 := cntQ_mono (L := L) (k + 1)
            omega
          clear HCa HSm HNo HYe hLRe hC1
          have HS0 : Hid (∀ W, Below w.heap.size w W → RowT (W.alloc (.cells #[] 56)) w.heap.size (.slice (some ⟨W.heap.size, 0, none⟩) 0 0) [] ∧ Below w.heap.size w (W.alloc (.cells #[] 56))) := fun W hb => by
            have := World.ownsRow_made (base := w.heap.size) (e := 56) (size := 3) W #[] 0 hb.size (by unfold maxLen; omega) rfl
            exact ⟨this, hb.alloc hb.size _⟩
          cases b
          all_goals
            first | (have hb2 : (how != 1) = false := by simpa using hb1') | skip
            clear hb1'
            go_enter Try.func11, Try.ntmps11
            go_wp2_with (first
              | (go_at_call 39; refine HMa.mono ?_; rintro e w1 ⟨rfl, hw⟩; have hw' := hw.symm; subst hw')
              | (go_at_call 40; refine HCa'.mono ?_; rintro e w3 ⟨rfl, hb3⟩; have HB3 := HS0.out w3 hb3; have HB4 : Hid (RowT (w3.alloc (.cells #[] 56)) w.heap.size (.slice (some ⟨w3.heap.size, 0, none⟩) 0 0) [] ∧ Below w.heap.size w (w3.alloc (.cells #[] 56))) := HB3; clear hb3 HB3))
            clear HS0
            go_loopw [6, 7] (fun s6 s7 wr => ∃ (k : Nat) (va : Option Addr) (vn vc : Nat), k ≤ N ∧ s7 = .int .i64 k ∧ s6 = .slice va vn vc ∧ Hid (RowT wr w.heap.size (.slice va vn vc) (jnT (L.take k)) ∧ Below w.heap.size w wr)) (fun _ s7 _ => ((N : Int) - intOf s7).toNat)
            case atStart => exact ⟨0, _, _, _, Nat.zero_le _, rfl, rfl, HB4.out⟩
            case round =>
              clear HB4
              obtain ⟨k, va, vn, vc, hk, rfl, rfl, HB⟩ := hrel
              rcases Nat.lt_or_ge k N with hkN | hkN
              · have hkz : (k : Int) < N := by omega
                obtain ⟨f, hf⟩ : ∃ f, L[k]? = some f := ⟨_, List.getElem?_eq_getElem (by rw [hN.out]; exact hkN)⟩
                obtain ⟨g, o, pa, pk, rfl, t0w, t1w, t2w, t3⟩ := H.out.at_ hf
                have HT3 : Hid (Rd uc 1 w pa f.q) := t3
                have hql := HQ.out k f hf
                have HJ : Hid (jnT (L.take (k + 1)) = jnT (L.take k) ++ f.q.map (fun s => (⟨f.b, f.e, s⟩ : Tm)) ∧ (jnT (L.take k)).length = cntQ (L.take k)) := ⟨jnT_take hf, jnT_len _⟩
                obtain ⟨QN, hQN⟩ : ∃ QN, Hid (f.q.length = QN) := ⟨_, rfl⟩
                rw [hQN.out] at t2w hql
                clear hf t3
                obtain ⟨W0, rfl⟩ : ∃ W0, W0 = wr := ⟨_, rfl⟩
                go_wp2_with fail
                go_loopw [6, 8] (fun s6 s8 wr => ∃ (m : Nat) (va : Option Addr) (vn vc : Nat), m ≤ QN ∧ s8 = .int .i64 m ∧ s6 = .slice va vn vc ∧ Hid (RowT wr w.heap.size (.slice va vn vc) (jnT (L.take k) ++ (f.q.take m).map (fun s => (⟨f.b, f.e, s⟩ : Tm))) ∧ Below w.heap.size w wr)) (fun _ s8 _ => ((QN : Int) - intOf s8).toNat)
                case atStart => exact ⟨0, _, _, _, Nat.zero_le _, rfl, rfl, (by have h := HB.out; refine ⟨?_, h.2⟩; simpa using h.1)⟩
                case round =>
                  clear HB
                  obtain ⟨m, va, vn, vc, hm', rfl, rfl, HM⟩ := hrel
                  have t0 := cell_below HM.out.2 t0w
                  have t1 := cell_below HM.out.2 t1w
                  have t2 := cell_below HM.out.2 t2w
                  rcases Nat.lt_or_ge m QN with hmN | hmN
                  · have hmz : (m : Int) < QN := by omega
                    obtain ⟨x, hx⟩ : ∃ x, f.q[m]? = some x := ⟨_, List.getElem?_eq_getElem (by rw [hQN.out]; exact hmN)⟩
                    obtain ⟨pg, po, rfl, hat⟩ := (HT3.out.below HM.out.2).at_ hx
                    have x0 := hat.u1
                    rw [Nat.mul_one] at x0
                    have hll : (jnT (L.take k) ++ (f.q.take m).map (fun s => (⟨f.b, f.e, s⟩ : Tm))).length ≤ 10000000 := by
                      have h1 := HJ.out.2
                      rw [List.length_append, h1, List.length_map, List.length_take]; omega
                    have hbx : Below wr.heap.size wr (wr.drew.alloc (.cells #[.string f.b, .string f.e, .int .u64 x] 56)) := (Below.refl _ _).drew.alloc (Nat.le_refl _) _
                    obtain ⟨v9, w9, hr9, g1, g2, g3, _⟩ := push_tm (base := w.heap.size) (x := ⟨f.b, f.e, x⟩) (rowt_below HM.out.1 hbx) (by have := HM.out.2.size; simp; omega) (Blk.new wr.drew 56 (Tm.c ⟨f.b, f.e, x⟩)) 22 hll
                    have HP : Hid (RowT w9 w.heap.size v9 (jnT (L.take k) ++ (f.q.take (m + 1)).map (fun s => (⟨f.b, f.e, s⟩ : Tm))) ∧ Below w.heap.size w w9) := by
                      have U : Upd (fun k => (Value.slice va vn vc).ownBlock = some k) wr w9 := (Upd.ofBelow hbx).then g2 (fun _ _ h => h)
                      refine ⟨?_, HM.out.2.trans (U.below (fun k hk => Nat.lt_of_lt_of_le hk HM.out.2.size) (fun j hj => (row_blk HM.out.1 j hj).1))⟩
                      have e : (f.q.take (m + 1)).map (fun s => (⟨f.b, f.e, s⟩ : Tm)) = (f.q.take m).map (fun s => (⟨f.b, f.e, s⟩ : Tm)) ++ [⟨f.b, f.e, x⟩] := by rw [List.take_add_one, hx]; simp
                      rw [e, ← List.append_assoc]; exact g1
                    obtain ⟨v9a, v9c, hv9⟩ := row_slice g1
                    generalize hMN : (jnT (L.take k) ++ (f.q.take m).map (fun s => (⟨f.b, f.e, s⟩ : Tm)) ++ [(⟨f.b, f.e, x⟩ : Tm)]).length = MN at hv9
                    subst hv9
                    clear hx hat hll hbx g1 g2 g3 hMN
                    go_wp2_with fail
                    go_region_law (first | (refine step_append_run (by rfl) _ _ _ _ (by rfl) (by rfl) (by rfl) (by rfl) hr9 ?_; skip))
                    all_goals
                      go_wp2_with fail
                      go_roundw
                      case rel => exact ⟨m + 1, v9a, MN, v9c, by omega, by go_num, rfl, HP.out⟩
                      case measure => simp [intOf]; omega
                  · obtain rfl : m = QN := by omega
                    have hz : ¬ ((m : Int) < m) := by omega
                    go_wp2_with fail
                    go_roundw
                    case rel =>
                      refine ⟨k + 1, va, vn, vc, by omega, by go_num, rfl, ?_, HM.out.2⟩
                      rw [HJ.out.1]
                      have := HM.out.1
                      rw [show f.q.take m = f.q from List.take_of_length_le (by rw [hQN.out]; omega)] at this
                      exact this
                    case measure => simp [intOf]; omega
              · obtain rfl : k = N := by omega
                have hz : ¬ ((k : Int) < k) := by omega
                have HE := HB.out
                rw [List.take_of_length_le (by rw [hN.out]; omega), ← HLe.out] at HE
                obtain ⟨a4, c4, hv4, _, hrd, _⟩ := row_rd tm_k HE.1
                obtain ⟨RN, hRN⟩ : ∃ RN, Hid (LR.length = RN) := ⟨_, rfl⟩
                rw [hRN.out] at hv4
                injection hv4 with e1 e2 e3
                subst e1 e2 e3
                have HB4 : Hid (RdT wr va LR ∧ Below w.heap.size w wr) := ⟨hrd, HE.2⟩
                clear HE hrd
                go_wp2_with fail
                go_ret2
                rw [hRN.out]
                first | exact ⟨va, vc, rfl, HB4.out⟩ | exact ⟨va, ⟨vc, rfl⟩, HB4.out⟩
      exact key _ rfl (fun h0 => by rw [h0] at hhow; simpa using hhow)
  · have hE1 : 2 = E := by rw [← hE.out]; simp [jnE, hm]
    subst hE1
    rw [hm] at HMa
    clear HCa HSm
    go_enter Try.func11, Try.ntmps11
    go_wp2_with (go_at_call 39; refine HMa.mono ?_; rintro e w1 ⟨rfl, hw⟩; have hw' := hw.symm; subst hw')
    go_ret2
    rw [HNo.out (by decide)]
    first | exact ⟨none, 0, rfl, .inl rfl, Below.refl _ _⟩ | exact ⟨none, ⟨0, rfl⟩, .inl rfl, Below.refl _ _⟩
end Go.Proofs.Ytagnnocecfoggaa
