/-
  The sort at uint32: pdqsort.
-/
import Derived.Test.YtkpijoogaicodaaHc
import Derived.Deep.CutBlock
import Derived.BigQuiet
namespace Go.Proofs.Ytkpijoogaicodaa
open Go.RowKit Go.Sort
set_option linter.unusedVariables false
set_option linter.unusedSimpArgs false
theorem hintC_two {h : Hint} : (hintC h = 2) ↔ h = .decreasing := by cases h <;> simp [hintC]
theorem eighth_of {x y p q : Nat} (h1 : q ≤ p) (h2 : y ≤ x) : decide (((x : Int) - (y : Int)) / 8 ≤ (p : Int) - (q : Int)) = decide (p - q ≥ (x - y) / 8) :=
  decide_eq_decide.2 ⟨fun h => by omega, fun h => by omega⟩
set_option maxRecDepth 1000000 in
set_option maxHeartbeats 16000000 in
theorem pdq_any : ∀ (K blk off cap a b lim : Nat) (d : Array Int) (w : World), b - a < K → Holds (Value.int .u32) w blk off d → blk < w.heap.size → a ≤ b → b ≤ d.size → d.size < 65536 → lim < 65536 → Go.Sort.Below ltInt a b d →
    Calls Try.prog 78 #[.slice (some ⟨blk, off, none⟩) d.size cap, .int .i64 a, .int .i64 b, .int .i64 lim] w fun e w' => e = .returned (.tuple #[]) ∧ Gw w blk off d.size (pdq ltInt d a b lim true true) w' := by
  intro K
  induction K with
  | zero => intro _ _ _ _ _ _ _ _ h; exact absurd h (Nat.not_lt_zero _)
  | succ K ih =>
    intro blk off cap a b lim d w hK h hblk hab hb hsz hlim hBel
    have IH : Hid _ := ih
    clear ih
    obtain ⟨N, hN⟩ : ∃ N, Hid (N = d.size) := ⟨_, rfl⟩
    obtain ⟨P, hP⟩ : ∃ P, Hid (pdq ltInt d a b lim true true = P) := ⟨_, rfl⟩
    have g0 : Hid (Go.Sort.Below ltInt a b d ∧ Gw w blk off N d w ∧ pdq ltInt d a b lim true true = P) := ⟨hBel, hN.out ▸ Gw.start h, hP.out⟩
    rw [hP.out]
    rw [← hN.out] at hb hsz ⊢
    clear h hBel hP
    go_enter Try.func78, Try.ntmps78
    go_wp2
    go_loopg [1, 2, 3, 8, 9] (b - a) (fun k s1 s2 s3 s8 s9 wr => ∃ (a' b' lm : Nat) (wb wp : Bool) (dk : Array Int), s1 = .int .i64 a' ∧ s2 = .int .i64 b' ∧ s3 = .int .i64 lm ∧ s8 = .bool wb ∧ s9 = .bool wp ∧
      a' ≤ b' ∧ b' ≤ N ∧ b' - a' ≤ k ∧ k ≤ b - a ∧ lm ≤ lim ∧ Hid (Go.Sort.Below ltInt a' b' dk ∧ Gw w blk off N dk wr ∧ pdq ltInt dk a' b' lm wb wp = P))
    case atStart => exact ⟨a, b, lim, true, true, d, rfl, rfl, rfl, rfl, rfl, hab, hb, Nat.le_refl _, Nat.le_refl _, Nat.le_refl _, g0⟩
    case round =>
      clear g0
      obtain ⟨a', b', lm, wb, wp, dk, rfl, rfl, rfl, rfl, rfl, hab', hb', hk, hkN, hlm, hr⟩ := hrel
      have hsz' : Hid (dk.size = N) := hr.out.2.1.size
      by_cases h12 : b' - a' ≤ 12
      · have h12z : (b' : Int) - (a' : Int) ≤ 12 := by omega
        have hc := ins_any blk off cap a' b' dk wr hr.out.2.1.holds hab' (by rw [hsz'.out]; exact hb') (by rw [hsz'.out]; omega)
        rw [hsz'.out] at hc
        go_wp2_with (go_at_call 82; refine hc.mono ?_; rintro e w1 ⟨rfl, hw1⟩)
        (try simp only [Exit.inBlock, Exit.then]); refine bodyPost_ret (results_none rfl _ _ _) rfl ?_
        refine ⟨rfl, ?_⟩
        rw [← hr.out.2.2, pdq_small h12]
        exact hr.out.2.1.rw hw1
      · have h12z : ¬ ((b' : Int) - (a' : Int) ≤ 12) := by omega
        by_cases hl0 : lm = 0
        · subst hl0
          have hc := heap_any blk off cap a' b' dk wr hr.out.2.1.holds hab' (by rw [hsz'.out]; exact hb') (by rw [hsz'.out]; omega)
          rw [hsz'.out] at hc
          go_wp2_with (go_at_call 83; refine hc.mono ?_; rintro e w1 ⟨rfl, hw1⟩)
          (try simp only [Exit.inBlock, Exit.then]); refine bodyPost_ret (results_none rfl _ _ _) rfl ?_
          refine ⟨rfl, ?_⟩
          rw [← hr.out.2.2, pdq_heap h12 rfl]
          exact hr.out.2.1.rw hw1
        · have hl0z : ¬ ((lm : Int) = 0) := by omega
          obtain ⟨d1, lm1, c1, c2, d2, pv, hint, d3, done, hRD⟩ := round_of dk a' b' lm wb wp h12 hl0 (by rw [hsz'.out]; exact hb') hr.out.1
          have RD : Hid _ := hRD
          have hpa := hRD.pva
          have hpb := hRD.pvb
          have hca := hRD.c1a
          have hcb := hRD.c1b
          have hll := hRD.lim_le
          clear hRD
          go_upto_if 35 with fail
          go_cut [3] from 19 to 133 (fun s3 wc => s3 = .int .i64 lm1 ∧ Hid (Gw w blk off N d1 wc))
          case first =>
            cases wb
            · have hc := break_any blk off cap a' b' dk wr hr.out.2.1.holds (Nat.lt_of_lt_of_le hblk hr.out.2.1.grown.size) (by omega) (by rw [hsz'.out]; exact hb') (by rw [hsz'.out]; omega)
              rw [hsz'.out] at hc
              have hl1 : (lm : Int) - 1 = (lm1 : Int) := by rw [(RD.out.brk rfl).2]; omega
              go_wp2_with (go_at_call 84; refine hc.mono ?_; rintro e w1 ⟨rfl, hw1⟩)
              go_meet
              case rel => exact ⟨rfl, by rw [(RD.out.brk rfl).1]; exact hr.out.2.1.gw hw1⟩
            · go_wp2_with fail
              go_meet
              case rel => exact ⟨by rw [(RD.out.bal rfl).2], by rw [(RD.out.bal rfl).1]; exact hr.out.2.1⟩
          case rest =>
            obtain ⟨rfl, gw1⟩ := hcut
            have hc85 : Calls Try.prog 85 #[.slice (some ⟨blk, off, none⟩) N cap, .int .i64 a', .int .i64 b'] wc fun e w' => e = .returned (.tuple #[.int .i64 c1, .int .i64 (hintC c2)]) ∧ Go.RowKit.Below wc.heap.size wc w' := by
              have hs := gw1.out.size
              have := pivot_any blk off cap a' b' d1 wc gw1.out.holds (Nat.lt_of_lt_of_le hblk gw1.out.grown.size) (by omega) (by rw [hs]; exact hb') (by rw [hs]; omega)
              rw [hs, RD.out.piv] at this
              exact this
            go_upto_if 50 with (go_at_call 85; refine hc85.mono ?_; rintro e w2 ⟨rfl, hw2⟩)
            have gw2 : Hid (Gw w blk off N d1 w2) := gw1.out.below hblk hw2
            clear hc85 gw1 hw2
            go_cut [11, 12] from 19 to 133 (fun s11 s12 wc => s11 = .int .i64 pv ∧ s12 = .int .i64 (hintC hint) ∧ Hid (Gw w blk off N d2 wc))
            case first =>
              by_cases hh : c2 = .decreasing
              · have hcode : hintC c2 = 2 := hintC_two.2 hh
                obtain ⟨e2, epv, eht⟩ := RD.out.dec hh
                have hpz : (b' : Int) - 1 - ((c1 : Int) - (a' : Int)) = (pv : Int) := by rw [epv]; omega
                have hs := gw2.out.size
                have hc86 := rev_any blk off cap a' b' d1 w2 gw2.out.holds (by omega) (by rw [hs]; exact hb') (by rw [hs]; omega)
                rw [hs, ← e2] at hc86
                have E : Hid (hint = .increasing) := eht
                clear e2 epv eht hs
                go_wp2_with (go_at_call 86; refine hc86.mono ?_; rintro e w3 ⟨rfl, hw3⟩)
                go_meet
                case rel => exact ⟨rfl, by rw [E.out]; rfl, gw2.out.rw hw3⟩
              · have hcode : ¬ (hintC c2 = 2) := fun e => hh (hintC_two.1 e)
                have E : Hid _ := RD.out.ndec hh
                go_wp2_with fail
                go_meet
                case rel => exact ⟨by rw [E.out.2.1], by rw [E.out.2.2], by rw [E.out.1]; exact gw2⟩
            case rest =>
              obtain ⟨rfl, rfl, gw3⟩ := hcut
              clear gw2
              go_upto_region 15 with fail
              go_cut [12, 68] from 19 to 133 (fun s12 s68 wx => s12 = .int .i64 (hintC hint) ∧ s68 = .bool (wb && wp && decide (hint = .increasing)) ∧ wx = wc)
              case first =>
                clear RD gw3 hr hsz'
                cases wb <;> cases wp <;> cases hint <;>
                  (simp only [hintC]
                   go_wp2_with fail
                   go_meet
                   exact ⟨rfl, rfl, rfl⟩)
              case rest =>
                obtain ⟨rfl, rfl, rfl⟩ := hcut
                obtain ⟨z, hz⟩ : ∃ z, (wb && wp && decide (hint = .increasing)) = z := ⟨_, rfl⟩
                rw [hz]
                have HZ : Hid ((wb && wp && decide (hint = .increasing)) = z) := hz
                clear hz
                go_upto_if 68 with fail
                go_cut [] from 19 to 133 (fun wx => Hid (done = false ∧ Gw w blk off N d3 wx))
                case first =>
                  cases z
                  · go_wp2_with fail
                    go_meet
                    case rel => exact ⟨(RD.out.no HZ.out).2, by rw [(RD.out.no HZ.out).1]; exact gw3.out⟩
                  · have hs := gw3.out.size
                    have hc87 := partial_any blk off cap a' b' d2 wc gw3.out.holds (by omega) (by rw [hs]; exact hb') (by rw [hs]; omega)
                    rw [hs, RD.out.yes HZ.out] at hc87
                    dsimp only at hc87
                    clear hs
                    have HFIN : Hid (done = true → d3 = P) := fun e => by rw [← hr.out.2.2]; exact (RD.out.fin e).symm
                    clear RD HZ
                    cases done
                    · go_wp2_with (go_at_call 87; refine hc87.mono ?_; rintro e w4 ⟨rfl, hw4⟩)
                      go_meet
                      case rel => exact ⟨by trivial, gw3.out.rw hw4⟩
                    · have HF2 : Hid (d3 = P) := HFIN.out rfl
                      clear HFIN
                      go_wp2_with (go_at_call 87; refine hc87.mono ?_; rintro e w4 ⟨rfl, hw4⟩)
                      (try simp only [Exit.inBlock, Exit.then]); refine bodyPost_ret (results_none rfl _ _ _) rfl ?_
                      exact ⟨rfl, by rw [← HF2.out]; exact gw3.out.rw hw4⟩
                case rest =>
                  have gw5 := hcut
                  clear hcut
                  obtain ⟨G, HG⟩ : ∃ G : Nat → Int, Hid (∀ t, G t = d3[t]!) := ⟨fun t => d3[t]!, fun _ => rfl⟩
                  have hcw : ∀ t, t < N → wc.cell? ⟨blk, off + t, none⟩ = some (.int .u32 (G t)) := fun t ht => by rw [HG.out]; exact (gw5.out.2.holds t (by rw [gw5.out.2.size]; exact ht)).1
                  obtain ⟨z2, hz2⟩ : ∃ z2, Hid ((decide (a' > 0) && !ltInt d3[a' - 1]! d3[pv]!) = z2) := ⟨_, rfl⟩
                  go_upto_region 17 with fail
                  go_cut [87] from 19 to 133 (fun s87 wx => s87 = .bool z2 ∧ Hid (done = false ∧ Gw w blk off N d3 wx))
                  case first =>
                    by_cases ha0 : a' = 0
                    · have ha0z : decide ((a' : Int) > 0) = false := decide_eq_false (by omega)
                      go_big_quiet (first | (go_at_call 88; refine Calls.quiet_of_same (less_any _ _ _)))
                      go_wp2_with fail
                      go_meet
                      case rel => exact ⟨by rw [← hz2.out]; simp [ha0], gw5.out.1, gw5.out.2.drawn nq⟩
                    · have ha0z : (a' : Int) > 0 := by omega
                      have ha0n : 0 < a' := by omega
                      obtain ⟨x, hx⟩ : ∃ x, a' - 1 = x := ⟨_, rfl⟩
                      have haN : x < N := by omega
                      have haz : (a' : Int) - 1 = (x : Int) := by omega
                      have hpN : pv < N := by omega
                      obtain ⟨y, hy⟩ : ∃ y, ltInt (G x) (G pv) = y := ⟨_, rfl⟩
                      have HY : Hid ((!y) = z2) := by show _ = _; rw [← hz2.out, ← hy, HG.out, HG.out, hx]; simp; omega
                      clear hx
                      go_big_quiet (first | (go_at_call 88; refine Calls.quiet_of_same (less_any _ _ _)))
                      go_wp2_with fail
                      go_meet
                      case rel => exact ⟨by rw [← HY.out], gw5.out.1, gw5.out.2.drawn nq⟩
                  case rest =>
                    obtain ⟨rfl, gw6⟩ := hcut
                    clear hcw gw5
                    cases z2
                    · obtain ⟨mid, ap, d4, hx⟩ : ∃ mid ap d4, partition ltInt d3 a' b' pv = (mid, ap, d4) := ⟨_, _, _, rfl⟩
                      have hs := gw6.out.2.size
                      obtain ⟨r1, r2, r3, r4, r5, r6, r7⟩ := round_part swo_ltInt (partition_holds _) hpa hpb (by rw [hs]; exact hb') RD.out.below hx
                      have hc90 := part_any blk off cap a' b' pv d3 wc gw6.out.2.holds (by omega) (by rw [hs]; exact hb') (by rw [hs]; omega) (by rw [hs]; omega)
                      rw [hs, hx] at hc90
                      dsimp only at hc90
                      have R4 : Hid _ := r4
                      have R5 : Hid _ := r5
                      have R6 : Hid _ := r6
                      have R7 : Hid _ := r7
                      have HLEFT : Hid _ := RD.out.left gw6.out.1 hz2.out mid ap d4 hx ⟨r1, r2⟩
                      have HRIGHT : Hid _ := RD.out.right gw6.out.1 hz2.out mid ap d4 hx ⟨r1, r2⟩
                      have gw6' : Hid (Gw w blk off N d3 wc) := gw6.out.2
                      clear hx hs r3 r4 r5 r6 r7 gw6 HZ
                      go_upto_if 113 with (go_at_call 90; refine hc90.mono ?_; rintro e w7 ⟨rfl, hw7⟩)
                      have gw7 : Hid (Gw w blk off N d4 w7) := gw6'.out.rw hw7
                      clear hc90 hw7 gw6'
                      by_cases h4 : mid - a' < b' - mid
                      · have h4z : (mid : Int) - (a' : Int) < (b' : Int) - (mid : Int) := by omega
                        have hih := IH.out blk off cap a' mid lm1 d4 w7 (by omega) gw7.out.holds (Nat.lt_of_lt_of_le hblk gw7.out.grown.size) r1 (by rw [gw7.out.size]; omega) (by rw [gw7.out.size]; omega) (by omega) R4.out
                        have pL := pdq_sorts ltInt swo_ltInt d4 a' mid lm1 true true r1 (by rw [gw7.out.size]; omega) R4.out
                        have HB2 : Hid (Go.Sort.Below ltInt (mid + 1) b' (pdq ltInt d4 a' mid lm1 true true)) := (R6.out _ pL.1 pL.2).1
                        have HE : Hid _ := HLEFT.out h4
                        clear pL
                        rw [gw7.out.size] at hih
                        generalize pdq ltInt d4 a' mid lm1 true true = d5 at hih HB2 HE
                        obtain ⟨m1, hm1⟩ : ∃ m1, m1 = mid + 1 := ⟨_, rfl⟩
                        have hm1z : (mid : Int) + 1 = (m1 : Int) := by omega
                        rw [← hm1] at HB2 HE
                        clear hm1
                        go_wp2_with (go_at_call 78; refine hih.mono ?_; rintro e w8 ⟨rfl, hw8⟩)
                        go_roundg (b' - m1)
                        case measure => omega
                        case rel =>
                          refine ⟨m1, b', lm1, decide (mid - a' ≥ (b' - a') / 8), ap, d5, by first | rfl | simp, rfl, rfl, ?_, rfl, by omega, by omega, Nat.le_refl _, by omega, by omega, HB2.out, gw7.out.gw hw8, ?_⟩
                          · exact congrArg Value.bool (eighth_of r1 hab')
                          · rw [← hr.out.2.2, HE.out]
                      · have h4z : ¬ ((mid : Int) - (a' : Int) < (b' : Int) - (mid : Int)) := by omega
                        obtain ⟨m1, hm1⟩ : ∃ m1, m1 = mid + 1 := ⟨_, rfl⟩
                        have hm1z : (mid : Int) + 1 = (m1 : Int) := by omega
                        rw [← hm1] at R5 R7 HRIGHT
                        have hih := IH.out blk off cap m1 b' lm1 d4 w7 (by omega) gw7.out.holds (Nat.lt_of_lt_of_le hblk gw7.out.grown.size) (by omega) (by rw [gw7.out.size]; omega) (by rw [gw7.out.size]; omega) (by omega) R5.out
                        have pL := pdq_sorts ltInt swo_ltInt d4 m1 b' lm1 true true (by omega) (by rw [gw7.out.size]; omega) R5.out
                        have HB2 : Hid (Go.Sort.Below ltInt a' mid (pdq ltInt d4 m1 b' lm1 true true)) := (R7.out _ pL.1 pL.2).1
                        have HE : Hid _ := HRIGHT.out h4
                        clear pL
                        rw [gw7.out.size] at hih
                        generalize pdq ltInt d4 m1 b' lm1 true true = d5 at hih HB2 HE
                        clear hm1
                        go_wp2_with (go_at_call 78; refine hih.mono ?_; rintro e w8 ⟨rfl, hw8⟩)
                        go_roundg (mid - a')
                        case measure => omega
                        case rel =>
                          refine ⟨a', mid, lm1, decide (b' - mid ≥ (b' - a') / 8), ap, d5, rfl, rfl, rfl, ?_, rfl, by omega, by omega, Nat.le_refl _, by omega, by omega, HB2.out, gw7.out.gw hw8, ?_⟩
                          · exact congrArg Value.bool (eighth_of (by omega) hab')
                          · rw [← hr.out.2.2, HE.out]
                    · have hz2' := hz2.out
                      simp only [Bool.and_eq_true, decide_eq_true_eq, Bool.not_eq_true'] at hz2'
                      obtain ⟨mid, d4, hx⟩ : ∃ mid d4, partitionEqual ltInt d3 a' b' pv = (mid, d4) := ⟨_, _, rfl⟩
                      have hs := gw6.out.2.size
                      obtain ⟨r1, r2, r3, r4, _⟩ := round_eq swo_ltInt (partitionEqual_holds _) hz2'.1 hpa hpb (by rw [hs]; exact hb') RD.out.below hz2'.2 hx
                      have hc89 := parteq_any blk off cap a' b' pv d3 wc gw6.out.2.holds (by omega) (by rw [hs]; exact hb') (by rw [hs]; omega) (by rw [hs]; omega)
                      rw [hs, hx] at hc89
                      dsimp only at hc89
                      have R4 : Hid _ := r4
                      have HE : Hid _ := RD.out.eql gw6.out.1 hz2.out mid d4 hx ⟨r1, r2⟩
                      have gw6' : Hid (Gw w blk off N d3 wc) := gw6.out.2
                      clear hx hs r3 r4 gw6 HZ hz2'
                      go_wp2_with (go_at_call 89; refine hc89.mono ?_; rintro e w7 ⟨rfl, hw7⟩)
                      go_roundg (b' - mid)
                      case measure => omega
                      case rel =>
                        exact ⟨mid, b', lm1, wb, wp, d4, rfl, rfl, rfl, rfl, rfl, r2, hb', Nat.le_refl _, by omega, by omega, R4.out, gw6'.out.rw hw7, by rw [← hr.out.2.2, HE.out]⟩
end Go.Proofs.Ytkpijoogaicodaa
