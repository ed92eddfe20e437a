/-
  The reference's long, can.
-/
import Derived.Test.YtagnnocecfoggaaJe
namespace Go.Proofs.Ytagnnocecfoggaa
open Go.RowKit
set_option linter.unusedVariables false
set_option linter.unusedSimpArgs false
set_option maxRecDepth 100000 in
set_option maxHeartbeats 1000000 in
theorem long_any {w : World} {a : Option Addr} {c : Nat} {L : List Fg} (h : RdF w a L) (hl : L.length ≤ 140737488355328) (hq : ∀ f ∈ L, f.q.length ≤ 140737488355328) :
    Calls Try.prog 39 #[.slice a L.length c] w fun e w' => e = .returned (.bool (manyB L)) ∧ w' = w := by
  have H : Hid (RdF w a L) := h
  have HQ : Hid (∀ f ∈ L, f.q.length ≤ 140737488355328) := hq
  obtain ⟨R, hR⟩ : ∃ R, Hid (manyB L = R) := ⟨_, rfl⟩
  rw [hR.out]
  have HYe : Hid ((∃ f ∈ L, longB f.b f.e = true) ∨ 1048576 < cntQ L → true = R) := fun hh => by
    rw [← hR.out]; unfold manyB
    rcases hh with ⟨f, hf, hlg⟩ | hh
    · have : L.any (fun f => longB f.b f.e) = true := List.any_eq_true.2 ⟨f, hf, hlg⟩
      simp [this]
    · simp [hh]
  obtain ⟨N, hN⟩ : ∃ N, Hid (L.length = N) := ⟨_, rfl⟩
  rw [hN.out] at hl ⊢
  clear h hq
  go_enter Try.func39, Try.ntmps39
  go_wp2_with fail
  go_loopw [3, 4] (fun s3 s4 wr => ∃ (k C : Nat), k ≤ N ∧ C ≤ 1048576 ∧ s4 = .int .i64 k ∧ s3 = .int .i64 C ∧ Hid (wr = w ∧ C = cntQ (L.take k) ∧ ∀ (i : Nat) (g : Fg), i < k → L[i]? = some g → longB g.b g.e = false)) (fun _ s4 _ => ((N : Int) - intOf s4).toNat)
  case atStart => exact ⟨0, 0, Nat.zero_le _, Nat.zero_le _, rfl, rfl, rfl, rfl, fun i g hi => absurd hi (Nat.not_lt_zero _)⟩
  case round =>
    obtain ⟨k, C, hk, hC, rfl, rfl, HB⟩ := hrel
    have hwr := HB.out.1.symm
    have HB' : Hid (C = cntQ (L.take k) ∧ ∀ (i : Nat) (g : Fg), i < k → L[i]? = some g → longB g.b g.e = false) := HB.out.2
    clear HB
    subst hwr
    rcases Nat.lt_or_ge k N with hkN | hkN
    · have hkz : (k : Int) < N := by omega
      obtain ⟨f, hf⟩ : ∃ f, L[k]? = some f := ⟨_, List.getElem?_eq_getElem (by rw [hN.out]; exact hkN)⟩
      obtain ⟨g, o, pa, pk, rfl, t0, t1, t2, _⟩ := H.out.at_ hf
      have HF : Hid (L[k]? = some f ∧ cntQ (L.take (k + 1)) = cntQ (L.take k) + f.q.length) := ⟨hf, cntQ_take hf⟩
      have hql := HQ.out f (List.mem_of_getElem? hf)
      obtain ⟨QN, hQN⟩ : ∃ QN, Hid (f.q.length = QN) := ⟨_, rfl⟩
      rw [hQN.out] at t2 hql HF
      clear hf
      by_cases hb1 : 1024 < f.b.size
      · have hz1 : (1024 : Int) < f.b.size := by omega
        have HRt : Hid (true = R) := HYe.out (.inl ⟨f, List.mem_of_getElem? HF.out.1, by simp [longB, hb1]⟩)
        go_wp2_with fail
        go_ret
        exact ⟨by rw [← HRt.out]; rfl, rfl⟩
      · have hz1 : ¬ (1024 : Int) < f.b.size := by omega
        by_cases he1 : 1024 < f.e.size
        · have hz2 : (1024 : Int) < f.e.size := by omega
          have HRt : Hid (true = R) := HYe.out (.inl ⟨f, List.mem_of_getElem? HF.out.1, by simp [longB, he1]⟩)
          go_wp2_with fail
          go_ret
          exact ⟨by rw [← HRt.out]; rfl, rfl⟩
        · have hz2 : ¬ (1024 : Int) < f.e.size := by omega
          have hlg : longB f.b f.e = false := by simp [longB]; omega
          by_cases hs : 1048576 < C + QN
          · have hz3 : (1048576 : Int) < (C : Int) + QN := by omega
            have HRt : Hid (true = R) := HYe.out (.inr (by
              have h1 := HF.out.2
              have h2 := HB'.out.1
              have h3 := cntQ_mono (L := L) (k + 1)
              omega))
            go_wp2_with fail
            go_ret
            exact ⟨by rw [← HRt.out]; rfl, rfl⟩
          · have hz3 : ¬ (1048576 : Int) < (C : Int) + QN := by omega
            go_wp2_with fail
            go_roundw
            case rel => exact ⟨k + 1, C + QN, by omega, by omega, by go_num, by go_num, (by first | rfl | exact True.intro), by rw [HF.out.2, ← HB'.out.1], any_false_take HF.out.1 HB'.out.2 hlg⟩
            case measure => simp [intOf]; omega
    · obtain rfl : k = N := by omega
      have hz : ¬ ((k : Int) < k) := by omega
      have HRc : Hid (decide ((2048 : Int) < (k : Int)) = R) := by
        show _ = _
        rw [← hR.out]; unfold manyB
        have hc := HB'.out.1
        rw [List.take_of_length_le (by rw [hN.out]; omega)] at hc
        rw [any_false (fun i g hg => HB'.out.2 i g (by rw [← hN.out]; exact (List.getElem?_eq_some_iff.1 hg).1) hg), hN.out]
        rw [show decide (1048576 < cntQ L) = false by simp; omega]
        simp only [Bool.or_false]
        rw [decide_eq_decide]; omega
      go_wp2_with fail
      go_ret
      exact ⟨by rw [← HRc.out]; rfl, rfl⟩
set_option maxRecDepth 100000 in
set_option maxHeartbeats 2000000 in
theorem can_any {w : World} {a : Option Addr} {c : Nat} {L : List Fg} (h : RdF w a L) (how : Int) (hl : L.length ≤ 10000) (hq : ∀ f ∈ L, f.q.length ≤ 140737488355328) :
    Calls Try.prog 40 #[.int .i64 how, .slice a L.length c] w fun e w' => e = .returned (.bool (canB how L)) ∧ Below w.heap.size w w' := by
  have H : Hid (RdF w a L) := h
  have HQ : Hid (∀ f ∈ L, f.q.length ≤ 140737488355328) := hq
  obtain ⟨N, hN⟩ : ∃ N, Hid (L.length = N) := ⟨_, rfl⟩
  rw [hN.out] at hl ⊢
  clear h hq
  obtain ⟨R, hR⟩ : ∃ R, Hid (canB how L = R) := ⟨_, rfl⟩
  rw [hR.out]
  have HNo : Hid (¬ CanP how L → false = R) := fun hn => by rw [← hR.out, canB_no hn]
  go_enter Try.func40, Try.ntmps40
  go_wp2_with fail
  go_loopw [5] (fun s wr => ∃ k : Nat, k ≤ N ∧ s = .int .i64 k ∧ Hid (Below w.heap.size w wr ∧ ∀ (i : Nat) (f : Fg), i < k → L[i]? = some f → kl how f.b f.e = true ∧ FallP f.q ∧ (∀ g, 0 < i → L[i - 1]? = some g → kle how g.e f.b = true))) (fun s _ => ((N : Int) - intOf s).toNat)
  case atStart => exact ⟨0, Nat.zero_le _, rfl, Below.refl _ _, fun j f h => absurd h (Nat.not_lt_zero _)⟩
  case round =>
    obtain ⟨k, hk, rfl, HB⟩ := hrel
    rcases Nat.lt_or_ge k N with hkN | hkN
    · have hkz : (k : Int) < N := by omega
      obtain ⟨f, hf⟩ : ∃ f, L[k]? = some f := ⟨_, List.getElem?_eq_getElem (by rw [hN.out]; exact hkN)⟩
      obtain ⟨g, o, pa, pk, ha, t0, t1, t2, t3⟩ := (H.out.below HB.out.1).at_ hf
      have HF : Hid (L[k]? = some f) := hf
      have HT3 : Hid (Rd uc 1 wr pa f.q) := t3
      have hql := HQ.out f (List.mem_of_getElem? hf)
      obtain ⟨QN, hQN⟩ : ∃ QN, Hid (f.q.length = QN) := ⟨_, rfl⟩
      rw [hQN.out] at t2 hql
      have HBn : Hid (∀ n, Below w.heap.size w (wr.drewN n)) := fun n => belN HB.out.1 n
      have HUp : Hid (∀ f', 0 < k → L[k - 1]? = some f' → wr.cell? ⟨g, o + (k - 1) * 3 + 1, none⟩ = some (.string f'.e)) := fun f' hk0 hf' => by
        obtain ⟨g', o', pa', pk', e', _, u1, _, _⟩ := (H.out.below HB.out.1).at_ hf'
        rw [ha] at e'
        cases e'
        exact u1
      clear hf t3
      subst ha
      cases hbe : kl how f.b f.e
      · have hd1 : decide (0 ≤ cmpH how f.b f.e) = true := by rw [ge_of]; simp [kle, hbe]
        have HRf : Hid (false = R) := HNo.out (fun hc => by have := hc.be k f HF.out; rw [hbe] at this; cases this)
        go_wp2_with fail
        go_quiet ((go_at_call 26; exact Calls.quiet_of_same (rcmp_any _ _ _ _)))
        go_wp2_with fail
        go_ret
        exact ⟨by rw [← HRf.out]; rfl, HBn.out _⟩
      · have hd1 : decide (0 ≤ cmpH how f.b f.e) = false := by rw [ge_of]; simp [kle, hbe]
        -- the first test behind k = 0 or k > 0
        have key : (∀ f', 0 < k → L[k - 1]? = some f' → kle how f'.e f.b = true) → ∀ (W : World), Below w.heap.size w W → Below wr.heap.size wr W → True := fun _ _ _ _ => trivial
        clear key
        rcases Nat.eq_zero_or_pos QN with hq0 | hq0
        · have hqz : ((QN : Int) == 0) = true := by simp; omega
          have HRf : Hid (false = R) := HNo.out (fun hc => (hc.q k f HF.out).ne (List.eq_nil_of_length_eq_zero (by rw [hQN.out]; exact hq0)))
          clear hq0
          rcases Nat.eq_zero_or_pos k with hk0 | hk0
          · have hkp : ¬ (0 : Int) < k := by omega
            have hkd : decide ((0 : Int) < (k : Int)) = false := by simpa using hkp
            have hkd2 : decide (0 < k) = false := by simp; omega
            clear hk0
            go_wp2_with fail
            go_quiet ((go_at_call 26; exact Calls.quiet_of_same (rcmp_any _ _ _ _)))
            go_wp2_with fail
            go_ret
            exact ⟨by rw [← HRf.out]; rfl, HBn.out _⟩
          · obtain ⟨j, hj⟩ : ∃ j, k = j + 1 := ⟨k - 1, by omega⟩
            obtain ⟨f', hf'⟩ : ∃ f', L[k - 1]? = some f' := ⟨_, List.getElem?_eq_getElem (by rw [hN.out]; omega)⟩
            have hkp : (0 : Int) < k := by omega
            have hjz : (k : Int) - 1 = j := by omega
            have hwj : IntKind.i64.wrap (j : Int) = j := by rw [IntKind.wrap_i64]; omega
            have hwk : IntKind.i64.wrap ((k : Int) - 1) = j := by rw [IntKind.wrap_i64]; omega
            have hjN : (j : Int) < N := by omega
            have u1 := HUp.out f' hk0 hf'
            rw [show k - 1 = j by omega] at u1
            clear hf' hj
            cases hup : kl how f.b f'.e
            · have hd2 : decide (cmpH how f.b f'.e < 0) = false := hup
              go_wp2_with fail
              go_quiet ((go_at_call 26; exact Calls.quiet_of_same (rcmp_any _ _ _ _)))
              go_wp2_with fail
              go_ret
              exact ⟨by rw [← HRf.out]; rfl, HBn.out _⟩
            · have hd2 : decide (cmpH how f.b f'.e < 0) = true := hup
              go_wp2_with fail
              go_quiet ((go_at_call 26; exact Calls.quiet_of_same (rcmp_any _ _ _ _)))
              go_wp2_with fail
              go_ret
              exact ⟨by rw [← HRf.out]; rfl, HBn.out _⟩
        · have hqz : ((QN : Int) == 0) = false := by simp; omega
          -- behind the test: the inner loop
          obtain ⟨OKU, hOKU⟩ : ∃ OKU : Prop, Hid (OKU ↔ ∀ f', 0 < k → L[k - 1]? = some f' → kle how f'.e f.b = true) := ⟨_, Iff.rfl⟩
          obtain ⟨W0, rfl⟩ : ∃ W0, W0 = wr := ⟨_, rfl⟩
          go_wp2_with fail
          go_cut [54] (fun s54 W => ∃ B : Bool, s54 = .bool B ∧ Hid ((B = true → false = R) ∧ (B = false → OKU) ∧ Below w.heap.size w W ∧ Below W0.heap.size W0 W))
          case first =>
            rcases Nat.eq_zero_or_pos k with hk0 | hk0
            · have hkp : ¬ (0 : Int) < k := by omega
              have hkd : decide ((0 : Int) < (k : Int)) = false := by simpa using hkp
              have hkd2 : decide (0 < k) = false := by simp; omega
              have HK0 : Hid (k = 0) := hk0
              clear hk0
              go_quiet ((go_at_call 26; exact Calls.quiet_of_same (rcmp_any _ _ _ _)))
              go_wp2_with fail
              go_meet
              exact ⟨false, rfl, fun e => (by cases e), fun _ => hOKU.out.2 (fun f' h0 => by have := HK0.out; omega), HBn.out _, belN (Below.refl _ _) _⟩
            · obtain ⟨j, hj⟩ : ∃ j, k = j + 1 := ⟨k - 1, by omega⟩
              obtain ⟨f', hf'⟩ : ∃ f', L[k - 1]? = some f' := ⟨_, List.getElem?_eq_getElem (by rw [hN.out]; omega)⟩
              have HF' : Hid (L[k - 1]? = some f' ∧ k - 1 + 1 = k) := ⟨hf', by omega⟩
              have hkp : (0 : Int) < k := by omega
              have hjz : (k : Int) - 1 = j := by omega
              have hwj : IntKind.i64.wrap (j : Int) = j := by rw [IntKind.wrap_i64]; omega
              have hwk : IntKind.i64.wrap ((k : Int) - 1) = j := by rw [IntKind.wrap_i64]; omega
              have hjN : (j : Int) < N := by omega
              have u1 := HUp.out f' hk0 hf'
              rw [show k - 1 = j by omega] at u1
              clear hf' hj
              cases hup : kl how f.b f'.e
              · have hd2 : decide (cmpH how f.b f'.e < 0) = false := hup
                go_quiet ((go_at_call 26; exact Calls.quiet_of_same (rcmp_any _ _ _ _)))
                go_wp2_with fail
                go_meet
                exact ⟨false, rfl, fun e => (by cases e), fun _ => hOKU.out.2 (fun f'' _ hf'' => by rw [HF'.out.1] at hf''; cases hf''; simp [kle, hup]), HBn.out _, belN (Below.refl _ _) _⟩
              · have hd2 : decide (cmpH how f.b f'.e < 0) = true := hup
                have HRf : Hid (false = R) := HNo.out (fun hc => by have := hc.up (k - 1) f' f HF'.out.1 (by rw [HF'.out.2]; exact HF.out); simp [kle, hup] at this)
                go_quiet ((go_at_call 26; exact Calls.quiet_of_same (rcmp_any _ _ _ _)))
                go_wp2_with fail
                go_meet
                exact ⟨true, rfl, fun _ => HRf.out, fun e => (by cases e), HBn.out _, belN (Below.refl _ _) _⟩
          case rest =>
            obtain ⟨B, rfl, HC⟩ := hcut
            cases B
            · have HC' : Hid (OKU ∧ Below w.heap.size w _ ∧ Below W0.heap.size W0 _) := ⟨HC.out.2.1 rfl, HC.out.2.2⟩
              clear HC
              go_wp2_with fail
              go_loopw [6] (fun s W => ∃ m : Nat, m ≤ QN ∧ s = .int .i64 m ∧ Hid (Below w.heap.size w W ∧ Below W0.heap.size W0 W ∧ ∀ (i : Nat) (x : Int), i < m → f.q[i]? = some x → x ≤ 72057594037927935 ∧ (∀ y, 0 < i → f.q[i - 1]? = some y → x < y))) (fun s _ => ((QN : Int) - intOf s).toNat)
              case atStart => exact ⟨0, Nat.zero_le _, rfl, HC'.out.2.1, HC'.out.2.2, fun i x h => absurd h (Nat.not_lt_zero _)⟩
              case round =>
                obtain ⟨m, hm, rfl, HM⟩ := hrel
                have c2 := cell_below HM.out.2.1 t2
                rcases Nat.lt_or_ge m QN with hmN | hmN
                · have hmz : (m : Int) < QN := by omega
                  obtain ⟨x, hx⟩ : ∃ x, f.q[m]? = some x := ⟨_, List.getElem?_eq_getElem (by rw [hQN.out]; exact hmN)⟩
                  obtain ⟨pg, po, hpa, hat⟩ := (HT3.out.below HM.out.2.1).at_ hx
                  have x0 := hat.u1
                  rw [Nat.mul_one] at x0
                  have HX : Hid (f.q[m]? = some x) := hx
                  have HMn : Hid (∀ n, Below w.heap.size w (wr.drewN n) ∧ Below W0.heap.size W0 (wr.drewN n)) := fun n => ⟨belN HM.out.1 n, belN HM.out.2.1 n⟩
                  by_cases hbig : 72057594037927935 < x
                  · have hbd : decide (72057594037927935 < x) = true := by simpa using hbig
                    have HRf : Hid (false = R) := HNo.out (fun hc => by have := (hc.q k f HF.out).all m x HX.out; omega)
                    subst hpa
                    clear hx hat
                    go_wp2_with fail
                    go_quiet (fail)
                    go_wp2_with fail
                    go_ret
                    exact ⟨by rw [← HRf.out]; rfl, (HMn.out _).1⟩
                  · have hbd : decide (72057594037927935 < x) = false := by simpa using hbig
                    rcases Nat.eq_zero_or_pos m with hm0 | hm0
                    · have hmp : ¬ (0 : Int) < m := by omega
                      have hmd : decide ((0 : Int) < (m : Int)) = false := by simpa using hmp
                      have hmd2 : decide (0 < m) = false := by simp; omega
                      have HM0 : Hid (m = 0) := hm0
                      subst hpa
                      clear hx hat hm0
                      go_wp2_with fail
                      go_quiet (fail)
                      go_wp2_with fail
                      go_roundw
                      case rel =>
                        refine ⟨m + 1, by omega, by go_num, (HMn.out _).1, (HMn.out _).2, fun i x' hi hx' => ?_⟩
                        have h0 := HM0.out
                        have : i = m := by omega
                        subst this
                        rw [HX.out] at hx'; cases hx'
                        exact ⟨by omega, fun y hi0 => by omega⟩
                      case measure => simp [intOf]; omega
                    · obtain ⟨j2, hj2⟩ : ∃ j2, m = j2 + 1 := ⟨m - 1, by omega⟩
                      obtain ⟨y, hy⟩ : ∃ y, f.q[m - 1]? = some y := ⟨_, List.getElem?_eq_getElem (by rw [hQN.out]; omega)⟩
                      obtain ⟨pg', po', hpa', haty⟩ := (HT3.out.below HM.out.2.1).at_ hy
                      rw [hpa] at hpa'
                      cases hpa'
                      have y0 := haty.u1
                      rw [Nat.mul_one, show m - 1 = j2 by omega] at y0
                      have HY : Hid (f.q[m - 1]? = some y ∧ m - 1 + 1 = m) := ⟨hy, by omega⟩
                      have hmp : (0 : Int) < m := by omega
                      have hjz2 : (m : Int) - 1 = j2 := by omega
                      have hwj2 : IntKind.i64.wrap (j2 : Int) = j2 := by rw [IntKind.wrap_i64]; omega
                      have hwk2 : IntKind.i64.wrap ((m : Int) - 1) = j2 := by rw [IntKind.wrap_i64]; omega
                      have hjN2 : (j2 : Int) < QN := by omega
                      subst hpa
                      clear hx hat hy haty hj2
                      by_cases hxy : y ≤ x
                      · have hyd : decide (y ≤ x) = true := by simpa using hxy
                        have HRf : Hid (false = R) := HNo.out (fun hc => by have := (hc.q k f HF.out).dn (m - 1) y x HY.out.1 (by rw [HY.out.2]; exact HX.out); omega)
                        go_wp2_with fail
                        go_quiet (fail)
                        go_wp2_with fail
                        go_ret
                        exact ⟨by rw [← HRf.out]; rfl, (HMn.out _).1⟩
                      · have hyd : decide (y ≤ x) = false := by simpa using hxy
                        go_wp2_with fail
                        go_quiet (fail)
                        go_wp2_with fail
                        go_roundw
                        case rel =>
                          refine ⟨m + 1, by omega, by go_num, (HMn.out _).1, (HMn.out _).2, fun i x' hi hx' => ?_⟩
                          by_cases e : i = m
                          · subst e
                            rw [HX.out] at hx'; cases hx'
                            exact ⟨by omega, fun y' _ hy' => by rw [HY.out.1] at hy'; cases hy'; omega⟩
                          · exact HM.out.2.2 i x' (by omega) hx'
                        case measure => simp [intOf]; omega
                · obtain rfl : m = QN := by omega
                  have hz : ¬ ((m : Int) < m) := by omega
                  have HFa : Hid (FallP f.q) := by
                    have hlt : ∀ (i : Nat) (x : Int), f.q[i]? = some x → i < m := fun i x hx => by rw [← hQN.out]; exact (List.getElem?_eq_some_iff.1 hx).1
                    refine ⟨fun e => ?_, fun x hx => (HM.out.2.2 0 x (hlt _ _ hx) hx).1, fun i x y hx hy => (HM.out.2.2 (i + 1) y (hlt _ _ hy) hy).2 x (by omega) hx⟩
                    have := hQN.out; rw [e] at this; simp at this; omega
                  go_wp2_with fail
                  go_roundw
                  case rel =>
                    refine ⟨k + 1, by omega, by go_num, HM.out.1, fun i f' hi hf' => ?_⟩
                    by_cases e : i = k
                    · subst e
                      rw [HF.out] at hf'; cases hf'
                      exact ⟨hbe, HFa.out, hOKU.out.1 HC'.out.1⟩
                    · exact HB.out.2 i f' (by omega) hf'
                  case measure => simp [intOf]; omega
            · have HRf : Hid (false = R ∧ Below w.heap.size w _) := ⟨HC.out.1 rfl, HC.out.2.2.1⟩
              clear HC
              go_wp2_with fail
              go_ret
              exact ⟨by rw [← HRf.out.1]; rfl, HRf.out.2⟩
    · obtain rfl : k = N := by omega
      have hz : ¬ ((k : Int) < k) := by omega
      have HRt : Hid (true = R) := by
        show _ = _
        rw [← hR.out, canB_yes]
        have hlt : ∀ (i : Nat) (f : Fg), L[i]? = some f → i < k := fun i f hf => by rw [← hN.out]; exact (List.getElem?_eq_some_iff.1 hf).1
        exact ⟨fun i f hf => (HB.out.2 i f (hlt i f hf) hf).1, fun i f hf => (HB.out.2 i f (hlt i f hf) hf).2.1, fun i f g hf hg => (HB.out.2 (i + 1) g (hlt _ g hg) hg).2.2 f (by omega) hf⟩
      go_wp2_with fail
      go_ret
      exact ⟨by rw [← HRt.out]; rfl, HB.out.1⟩
end Go.Proofs.Ytagnnocecfoggaa
