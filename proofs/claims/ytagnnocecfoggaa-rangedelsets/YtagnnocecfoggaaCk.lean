/-
  The reference's Check and Over.
-/
import Derived.Test.YtagnnocecfoggaaLv
namespace Go.Proofs.Ytagnnocecfoggaa
open Go.RowKit
set_option linter.unusedVariables false
set_option linter.unusedSimpArgs false
set_option maxRecDepth 100000 in
set_option maxHeartbeats 1000000 in
theorem rcheck_any {w : World} {a : Option Addr} {cap : Nat} {l : List Tm} (h : RdT w a l) (how : Int) :
    Calls Try.prog 28 #[.int .i64 how, .slice a l.length cap] w fun e w' => e = .returned (.int .i64 (splE how l)) ∧ w' = w := by
  have H : Hid (RdT w a l) := h
  clear h
  obtain ⟨ER, hER⟩ : ∃ ER, Hid (splE how l = ER) := ⟨_, rfl⟩
  rw [hER.out]
  obtain ⟨N, hN⟩ : ∃ N, Hid (N = l.length) := ⟨_, rfl⟩
  rw [← hN.out]
  cases hh : isHowB how
  · have HE : Hid (1 = ER) := by show _ = _; rw [← hER.out]; simp [splE, hh]
    have hh0 : (how != 0) = true := by simp [isHowB] at hh; simp [hh.1]
    have hh1 : (how != 1) = true := by simp [isHowB] at hh; simp [hh.2]
    go_enter Try.func28, Try.ntmps28
    go_wp2_with fail
    go_ret
    rw [← HE.out]
    exact ⟨rfl, rfl⟩
  · have hhow : ((how != 0) && (how != 1)) = false := by
      simp [isHowB] at hh
      rcases hh with rfl | rfl <;> rfl
    rcases Nat.lt_or_ge 1024 N with hN1 | hN1
    · have HE : Hid (2 = ER) := by show _ = _; rw [← hER.out]; simp [splE, hh, ← hN.out, hN1]
      have hNz : (1024 : Int) < N := by omega
      cases hh0 : (how != 0)
      · clear hhow
        go_enter Try.func28, Try.ntmps28
        go_wp2_with fail
        go_ret
        rw [← HE.out]
        exact ⟨rfl, rfl⟩
      · have hh1 : (how != 1) = false := by rw [hh0] at hhow; simpa using hhow
        clear hhow
        go_enter Try.func28, Try.ntmps28
        go_wp2_with fail
        go_ret
        rw [← HE.out]
        exact ⟨rfl, rfl⟩
    · have hNz : ¬ (1024 : Int) < N := by omega
      have HE : Hid (chkE l = ER) := by show _ = _; rw [← hER.out]; unfold splE; rw [if_pos hh, ← hN.out, if_neg (by omega)]
      have key : ∀ (hh0 : Bool), (how != 0) = hh0 → (hh0 = true → (how != 1) = false) → Calls Try.prog 28 #[.int .i64 how, .slice a N cap] w fun e w' => e = .returned (.int .i64 ER) ∧ w' = w := by
        intro b hb hb1
        cases b
        all_goals
          first | (have hb1' := hb1 rfl; clear hb1) | clear hb1
          clear hhow
          go_enter Try.func28, Try.ntmps28
          go_wp2_with fail
          go_loopw [5] (fun i wr => ∃ k : Nat, k ≤ N ∧ i = .int .i64 k ∧ Hid (wr = w ∧ chkE (l.drop k) = ER)) (fun i _ => ((N : Int) - intOf i).toNat)
          case atStart => exact ⟨0, Nat.zero_le _, rfl, rfl, HE.out⟩
          case round =>
            obtain ⟨k, hk, rfl, HB⟩ := hrel
            obtain ⟨rfl, hck⟩ := HB.out
            rcases Nat.lt_or_ge k N with hkN | hkN
            · have hkz : (k : Int) < N := by omega
              obtain ⟨t, ht⟩ : ∃ t, l[k]? = some t := ⟨l[k]'(by rw [← hN.out]; omega), List.getElem?_eq_getElem _⟩
              obtain ⟨g, o, rfl, hat⟩ := H.out.at_ ht
              obtain ⟨t0, t1, t2⟩ := hat.t
              have HD : Hid ((if 72057594037927935 < t.s then 1 else if longB t.b t.e = true then 2 else chkE (l.drop (k + 1))) = ER) := (chkE_drop ht).symm.trans hck
              clear hat ht hck
              by_cases hs : 72057594037927935 < t.s
              · go_wp2_with fail
                go_ret
                exact ⟨by rw [← HD.out, if_pos hs]; rfl, rfl⟩
              · by_cases hlb : 1024 < t.b.size
                · have hz1 : (1024 : Int) < t.b.size := by omega
                  go_wp2_with fail
                  go_ret
                  exact ⟨by rw [← HD.out, if_neg (by omega), if_pos (by simp [longB, hlb])]; rfl, rfl⟩
                · have hz1 : ¬ (1024 : Int) < t.b.size := by omega
                  by_cases hle : 1024 < t.e.size
                  · have hz2 : (1024 : Int) < t.e.size := by omega
                    go_wp2_with fail
                    go_ret
                    exact ⟨by rw [← HD.out, if_neg (by omega), if_pos (by simp [longB, hle])]; rfl, rfl⟩
                  · have hz2 : ¬ (1024 : Int) < t.e.size := by omega
                    go_wp2_with fail
                    go_roundw
                    case rel =>
                      refine ⟨k + 1, by omega, by go_num, (by first | rfl | trivial), ?_⟩
                      rw [← HD.out, if_neg (by omega), if_neg (by simp [longB]; omega)]
                    case measure => simp [intOf]; omega
            · obtain rfl : k = N := by omega
              have hz : ¬ ((k : Int) < k) := by omega
              have e0 : (0 : Int) = ER := by rw [← hck, List.drop_eq_nil_of_le (by rw [← hN.out]; omega)]; rfl
              go_wp2_with fail
              go_ret
              exact ⟨by rw [← e0]; rfl, rfl⟩
      exact key _ rfl (fun h0 => by rw [h0] at hhow; simpa using hhow)
set_option maxHeartbeats 1000000 in
theorem over_any (how : Int) (t : Tm) (k : ByteArray) (w : World) :
    Calls Try.prog 29 #[.int .i64 how, t.v, .string k] w fun e w' => e = .returned (.bool (ovr how t k)) ∧ Below w.heap.size w w' := by
  obtain ⟨R, hR⟩ : ∃ R, Hid (ovr how t k = R) := ⟨_, rfl⟩
  rw [hR.out]
  have HB : Hid (Below w.heap.size w (w.alloc (.cells #[.string t.b, .string t.e, .int .u64 t.s] 56))) := (Below.refl _ _).alloc (Nat.le_refl _) _
  by_cases h1 : cmpH how t.b k ≤ 0
  · have hk1 : kle how t.b k = true := kle_iff.2 h1
    by_cases h2 : cmpH how k t.e < 0
    · have HE : Hid (true = R) := by show _ = _; rw [← hR.out]; unfold ovr; rw [hk1, kl_iff.2 h2]; rfl
      clear hk1
      go_enter Try.func29, Try.ntmps29
      go_wp2_with (go_at_call 26; refine (rcmp_any _ _ _ _).mono ?_; rintro e w1 ⟨rfl, hw⟩; have hw' := hw.symm; subst hw')
      go_ret
      exact ⟨by rw [← HE.out]; rfl, HB.out⟩
    · have HE : Hid (false = R) := by
        show _ = _
        rw [← hR.out]; unfold ovr
        have : kl how k t.e = false := by simp [kl]; omega
        rw [hk1, this]; rfl
      have hd2 : decide (cmpH how k t.e < 0) = false := by simpa using h2
      clear hk1
      go_enter Try.func29, Try.ntmps29
      go_wp2_with (go_at_call 26; refine (rcmp_any _ _ _ _).mono ?_; rintro e w1 ⟨rfl, hw⟩; have hw' := hw.symm; subst hw')
      go_ret
      exact ⟨by rw [← HE.out]; rfl, HB.out⟩
  · have HE : Hid (false = R) := by
      show _ = _
      rw [← hR.out]; unfold ovr
      have : kle how t.b k = false := by
        cases e : kle how t.b k
        · rfl
        · exact absurd (kle_iff.1 e) h1
      rw [this]; rfl
    go_enter Try.func29, Try.ntmps29
    go_wp2_with (go_at_call 26; refine (rcmp_any _ _ _ _).mono ?_; rintro e w1 ⟨rfl, hw⟩; have hw' := hw.symm; subst hw')
    go_ret
    exact ⟨by rw [← HE.out]; rfl, HB.out⟩
end Go.Proofs.Ytagnnocecfoggaa
