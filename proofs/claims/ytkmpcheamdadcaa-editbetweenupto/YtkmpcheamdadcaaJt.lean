/-
  The sort at uint64: pdqsort.
  The sort at uint64: slices.Sort.
  Families in order, each once: sorted and then thinned, or put in one by one.
  The library's slices.Compact at uint64, laid in plain words.
  The program's Families.
-/
import Derived.Test.YtkmpcheamdadcaaJc
import Derived.Deep.CutBlock
import Derived.BigQuiet
import Derived.Test.YtkmpcheamdadcaaVd
import Derived.Deep.RegionLaw
import Derived.Lib.SlicesCompact
import Derived.Shelf.SlicesE.Compact
import Derived.Deep.DeepCutAuto
namespace Go.Proofs.Ytkmpcheamdadcaa.Srt
open Go.RowKit Go.Sort
set_option linter.unusedVariables false
set_option linter.unusedSimpArgs false
theorem hintC_two {h : Hint} : (hintC h = 2) ↔ h = .decreasing := by cases h <;> simp [hintC]
theorem eighth_of {x y p q : Nat} (h1 : q ≤ p) (h2 : y ≤ x) : decide (((x : Int) - (y : Int)) / 8 ≤ (p : Int) - (q : Int)) = decide (p - q ≥ (x - y) / 8) :=
  decide_eq_decide.2 ⟨fun h => by omega, fun h => by omega⟩
set_option maxRecDepth 1000000 in
set_option maxHeartbeats 16000000 in
theorem pdq_any : ∀ (K blk off cap a b lim : Nat) (d : Array Int) (w : World), b - a < K → Holds (Value.int .u64) w blk off d → blk < w.heap.size → a ≤ b → b ≤ d.size → d.size < 16777216 → lim < 16777216 → Go.Sort.Below ltInt a b d →
    Calls Try.prog 95 #[.slice (some ⟨blk, off, none⟩) d.size cap, .int .i64 a, .int .i64 b, .int .i64 lim] w fun e w' => e = .returned (.tuple #[]) ∧ Gw w blk off d.size (pdq ltInt d a b lim true true) w' := by
  intro K
  induction K with
  | zero => intro _ _ _ _ _ _ _ _ h; exact absurd h (Nat.not_lt_zero _)
  | succ K ih =>
    intro blk off cap a b lim d w hK h hblk hab hb hsz hlim hBel
    have IH : Hid _ := ih
    clear ih
    obtain ⟨N, hN⟩ : ∃ N, Hid (N = d.size) := ⟨_, rfl⟩
    obtain ⟨P, hP⟩ : ∃ P, Hid (pdq ltInt d a b lim true true = P) := ⟨_, rfl⟩
    have g0 : Hid (Go.Sort.Below ltInt a b d ∧ Gw w blk off N d w ∧ pdq ltInt d a b lim true true = P) := ⟨hBel, hN.out ▸ Gw.start h, hP.out⟩
    rw [hP.out]
    rw [← hN.out] at hb hsz ⊢
    clear h hBel hP
    go_enter Try.func95, Try.ntmps95
    go_wp2
    go_loopg [1, 2, 3, 8, 9] (b - a) (fun k s1 s2 s3 s8 s9 wr => ∃ (a' b' lm : Nat) (wb wp : Bool) (dk : Array Int), s1 = .int .i64 a' ∧ s2 = .int .i64 b' ∧ s3 = .int .i64 lm ∧ s8 = .bool wb ∧ s9 = .bool wp ∧
      a' ≤ b' ∧ b' ≤ N ∧ b' - a' ≤ k ∧ k ≤ b - a ∧ lm ≤ lim ∧ Hid (Go.Sort.Below ltInt a' b' dk ∧ Gw w blk off N dk wr ∧ pdq ltInt dk a' b' lm wb wp = P))
    case atStart => exact ⟨a, b, lim, true, true, d, rfl, rfl, rfl, rfl, rfl, hab, hb, Nat.le_refl _, Nat.le_refl _, Nat.le_refl _, g0⟩
    case round =>
      clear g0
      obtain ⟨a', b', lm, wb, wp, dk, rfl, rfl, rfl, rfl, rfl, hab', hb', hk, hkN, hlm, hr⟩ := hrel
      have hsz' : Hid (dk.size = N) := hr.out.2.1.size
      by_cases h12 : b' - a' ≤ 12
      · have h12z : (b' : Int) - (a' : Int) ≤ 12 := by omega
        have hc := ins_any blk off cap a' b' dk wr hr.out.2.1.holds hab' (by rw [hsz'.out]; exact hb') (by rw [hsz'.out]; omega)
        rw [hsz'.out] at hc
        go_wp2_with (go_at_call 112; refine hc.mono ?_; rintro e w1 ⟨rfl, hw1⟩)
        (try simp only [Exit.inBlock, Exit.then]); refine bodyPost_ret (results_none rfl _ _ _) rfl ?_
        refine ⟨rfl, ?_⟩
        rw [← hr.out.2.2, pdq_small h12]
        exact hr.out.2.1.rw hw1
      · have h12z : ¬ ((b' : Int) - (a' : Int) ≤ 12) := by omega
        by_cases hl0 : lm = 0
        · subst hl0
          have hc := heap_any blk off cap a' b' dk wr hr.out.2.1.holds hab' (by rw [hsz'.out]; exact hb') (by rw [hsz'.out]; omega)
          rw [hsz'.out] at hc
          go_wp2_with (go_at_call 113; refine hc.mono ?_; rintro e w1 ⟨rfl, hw1⟩)
          (try simp only [Exit.inBlock, Exit.then]); refine bodyPost_ret (results_none rfl _ _ _) rfl ?_
          refine ⟨rfl, ?_⟩
          rw [← hr.out.2.2, pdq_heap h12 rfl]
          exact hr.out.2.1.rw hw1
        · have hl0z : ¬ ((lm : Int) = 0) := by omega
          obtain ⟨d1, lm1, c1, c2, d2, pv, hint, d3, done, hRD⟩ := round_of dk a' b' lm wb wp h12 hl0 (by rw [hsz'.out]; exact hb') hr.out.1
          have RD : Hid _ := hRD
          have hpa := hRD.pva
          have hpb := hRD.pvb
          have hca := hRD.c1a
          have hcb := hRD.c1b
          have hll := hRD.lim_le
          clear hRD
          go_upto_if 35 with fail
          go_cut [3] from 19 to 133 (fun s3 wc => s3 = .int .i64 lm1 ∧ Hid (Gw w blk off N d1 wc))
          case first =>
            cases wb
            · have hc := break_any blk off cap a' b' dk wr hr.out.2.1.holds (Nat.lt_of_lt_of_le hblk hr.out.2.1.grown.size) (by omega) (by rw [hsz'.out]; exact hb') (by rw [hsz'.out]; omega)
              rw [hsz'.out] at hc
              have hl1 : (lm : Int) - 1 = (lm1 : Int) := by rw [(RD.out.brk rfl).2]; omega
              go_wp2_with (go_at_call 114; refine hc.mono ?_; rintro e w1 ⟨rfl, hw1⟩)
              go_meet
              case rel => exact ⟨rfl, by rw [(RD.out.brk rfl).1]; exact hr.out.2.1.gw hw1⟩
            · go_wp2_with fail
              go_meet
              case rel => exact ⟨by rw [(RD.out.bal rfl).2], by rw [(RD.out.bal rfl).1]; exact hr.out.2.1⟩
          case rest =>
            obtain ⟨rfl, gw1⟩ := hcut
            have hc85 : Calls Try.prog 115 #[.slice (some ⟨blk, off, none⟩) N cap, .int .i64 a', .int .i64 b'] wc fun e w' => e = .returned (.tuple #[.int .i64 c1, .int .i64 (hintC c2)]) ∧ Go.RowKit.Below wc.heap.size wc w' := by
              have hs := gw1.out.size
              have := pivot_any blk off cap a' b' d1 wc gw1.out.holds (Nat.lt_of_lt_of_le hblk gw1.out.grown.size) (by omega) (by rw [hs]; exact hb') (by rw [hs]; omega)
              rw [hs, RD.out.piv] at this
              exact this
            go_upto_if 50 with (go_at_call 115; refine hc85.mono ?_; rintro e w2 ⟨rfl, hw2⟩)
            have gw2 : Hid (Gw w blk off N d1 w2) := gw1.out.below hblk hw2
            clear hc85 gw1 hw2
            go_cut [11, 12] from 19 to 133 (fun s11 s12 wc => s11 = .int .i64 pv ∧ s12 = .int .i64 (hintC hint) ∧ Hid (Gw w blk off N d2 wc))
            case first =>
              by_cases hh : c2 = .decreasing
              · have hcode : hintC c2 = 2 := hintC_two.2 hh
                obtain ⟨e2, epv, eht⟩ := RD.out.dec hh
                have hpz : (b' : Int) - 1 - ((c1 : Int) - (a' : Int)) = (pv : Int) := by rw [epv]; omega
                have hs := gw2.out.size
                have hc86 := rev_any blk off cap a' b' d1 w2 gw2.out.holds (by omega) (by rw [hs]; exact hb') (by rw [hs]; omega)
                rw [hs, ← e2] at hc86
                have E : Hid (hint = .increasing) := eht
                clear e2 epv eht hs
                go_wp2_with (go_at_call 116; refine hc86.mono ?_; rintro e w3 ⟨rfl, hw3⟩)
                go_meet
                case rel => exact ⟨rfl, by rw [E.out]; rfl, gw2.out.rw hw3⟩
              · have hcode : ¬ (hintC c2 = 2) := fun e => hh (hintC_two.1 e)
                have E : Hid _ := RD.out.ndec hh
                go_wp2_with fail
                go_meet
                case rel => exact ⟨by rw [E.out.2.1], by rw [E.out.2.2], by rw [E.out.1]; exact gw2⟩
            case rest =>
              obtain ⟨rfl, rfl, gw3⟩ := hcut
              clear gw2
              go_upto_region 15 with fail
              go_cut [12, 68] from 19 to 133 (fun s12 s68 wx => s12 = .int .i64 (hintC hint) ∧ s68 = .bool (wb && wp && decide (hint = .increasing)) ∧ wx = wc)
              case first =>
                clear RD gw3 hr hsz'
                cases wb <;> cases wp <;> cases hint <;>
                  (simp only [hintC]
                   go_wp2_with fail
                   go_meet
                   exact ⟨rfl, rfl, rfl⟩)
              case rest =>
                obtain ⟨rfl, rfl, rfl⟩ := hcut
                obtain ⟨z, hz⟩ : ∃ z, (wb && wp && decide (hint = .increasing)) = z := ⟨_, rfl⟩
                rw [hz]
                have HZ : Hid ((wb && wp && decide (hint = .increasing)) = z) := hz
                clear hz
                go_upto_if 68 with fail
                go_cut [] from 19 to 133 (fun wx => Hid (done = false ∧ Gw w blk off N d3 wx))
                case first =>
                  cases z
                  · go_wp2_with fail
                    go_meet
                    case rel => exact ⟨(RD.out.no HZ.out).2, by rw [(RD.out.no HZ.out).1]; exact gw3.out⟩
                  · have hs := gw3.out.size
                    have hc87 := partial_any blk off cap a' b' d2 wc gw3.out.holds (by omega) (by rw [hs]; exact hb') (by rw [hs]; omega)
                    rw [hs, RD.out.yes HZ.out] at hc87
                    dsimp only at hc87
                    clear hs
                    have HFIN : Hid (done = true → d3 = P) := fun e => by rw [← hr.out.2.2]; exact (RD.out.fin e).symm
                    clear RD HZ
                    cases done
                    · go_wp2_with (go_at_call 117; refine hc87.mono ?_; rintro e w4 ⟨rfl, hw4⟩)
                      go_meet
                      case rel => exact ⟨by trivial, gw3.out.rw hw4⟩
                    · have HF2 : Hid (d3 = P) := HFIN.out rfl
                      clear HFIN
                      go_wp2_with (go_at_call 117; refine hc87.mono ?_; rintro e w4 ⟨rfl, hw4⟩)
                      (try simp only [Exit.inBlock, Exit.then]); refine bodyPost_ret (results_none rfl _ _ _) rfl ?_
                      exact ⟨rfl, by rw [← HF2.out]; exact gw3.out.rw hw4⟩
                case rest =>
                  have gw5 := hcut
                  clear hcut
                  obtain ⟨G, HG⟩ : ∃ G : Nat → Int, Hid (∀ t, G t = d3[t]!) := ⟨fun t => d3[t]!, fun _ => rfl⟩
                  have hcw : ∀ t, t < N → wc.cell? ⟨blk, off + t, none⟩ = some (.int .u64 (G t)) := fun t ht => by rw [HG.out]; exact (gw5.out.2.holds t (by rw [gw5.out.2.size]; exact ht)).1
                  obtain ⟨z2, hz2⟩ : ∃ z2, Hid ((decide (a' > 0) && !ltInt d3[a' - 1]! d3[pv]!) = z2) := ⟨_, rfl⟩
                  go_upto_region 17 with fail
                  go_cut [87] from 19 to 133 (fun s87 wx => s87 = .bool z2 ∧ Hid (done = false ∧ Gw w blk off N d3 wx))
                  case first =>
                    by_cases ha0 : a' = 0
                    · have ha0z : decide ((a' : Int) > 0) = false := decide_eq_false (by omega)
                      go_big_quiet (first | (go_at_call 118; refine Calls.quiet_of_same (less_any _ _ _)))
                      go_wp2_with fail
                      go_meet
                      case rel => exact ⟨by rw [← hz2.out]; simp [ha0], gw5.out.1, gw5.out.2.drawn nq⟩
                    · have ha0z : (a' : Int) > 0 := by omega
                      have ha0n : 0 < a' := by omega
                      obtain ⟨x, hx⟩ : ∃ x, a' - 1 = x := ⟨_, rfl⟩
                      have haN : x < N := by omega
                      have haz : (a' : Int) - 1 = (x : Int) := by omega
                      have hpN : pv < N := by omega
                      obtain ⟨y, hy⟩ : ∃ y, ltInt (G x) (G pv) = y := ⟨_, rfl⟩
                      have HY : Hid ((!y) = z2) := by show _ = _; rw [← hz2.out, ← hy, HG.out, HG.out, hx]; simp; omega
                      clear hx
                      go_big_quiet (first | (go_at_call 118; refine Calls.quiet_of_same (less_any _ _ _)))
                      go_wp2_with fail
                      go_meet
                      case rel => exact ⟨by rw [← HY.out], gw5.out.1, gw5.out.2.drawn nq⟩
                  case rest =>
                    obtain ⟨rfl, gw6⟩ := hcut
                    clear hcw gw5
                    cases z2
                    · obtain ⟨mid, ap, d4, hx⟩ : ∃ mid ap d4, partition ltInt d3 a' b' pv = (mid, ap, d4) := ⟨_, _, _, rfl⟩
                      have hs := gw6.out.2.size
                      obtain ⟨r1, r2, r3, r4, r5, r6, r7⟩ := round_part swo_ltInt (partition_holds _) hpa hpb (by rw [hs]; exact hb') RD.out.below hx
                      have hc90 := part_any blk off cap a' b' pv d3 wc gw6.out.2.holds (by omega) (by rw [hs]; exact hb') (by rw [hs]; omega) (by rw [hs]; omega)
                      rw [hs, hx] at hc90
                      dsimp only at hc90
                      have R4 : Hid _ := r4
                      have R5 : Hid _ := r5
                      have R6 : Hid _ := r6
                      have R7 : Hid _ := r7
                      have HLEFT : Hid _ := RD.out.left gw6.out.1 hz2.out mid ap d4 hx ⟨r1, r2⟩
                      have HRIGHT : Hid _ := RD.out.right gw6.out.1 hz2.out mid ap d4 hx ⟨r1, r2⟩
                      have gw6' : Hid (Gw w blk off N d3 wc) := gw6.out.2
                      clear hx hs r3 r4 r5 r6 r7 gw6 HZ
                      go_upto_if 113 with (go_at_call 120; refine hc90.mono ?_; rintro e w7 ⟨rfl, hw7⟩)
                      have gw7 : Hid (Gw w blk off N d4 w7) := gw6'.out.rw hw7
                      clear hc90 hw7 gw6'
                      by_cases h4 : mid - a' < b' - mid
                      · have h4z : (mid : Int) - (a' : Int) < (b' : Int) - (mid : Int) := by omega
                        have hih := IH.out blk off cap a' mid lm1 d4 w7 (by omega) gw7.out.holds (Nat.lt_of_lt_of_le hblk gw7.out.grown.size) r1 (by rw [gw7.out.size]; omega) (by rw [gw7.out.size]; omega) (by omega) R4.out
                        have pL := pdq_sorts ltInt swo_ltInt d4 a' mid lm1 true true r1 (by rw [gw7.out.size]; omega) R4.out
                        have HB2 : Hid (Go.Sort.Below ltInt (mid + 1) b' (pdq ltInt d4 a' mid lm1 true true)) := (R6.out _ pL.1 pL.2).1
                        have HE : Hid _ := HLEFT.out h4
                        clear pL
                        rw [gw7.out.size] at hih
                        generalize pdq ltInt d4 a' mid lm1 true true = d5 at hih HB2 HE
                        obtain ⟨m1, hm1⟩ : ∃ m1, m1 = mid + 1 := ⟨_, rfl⟩
                        have hm1z : (mid : Int) + 1 = (m1 : Int) := by omega
                        rw [← hm1] at HB2 HE
                        clear hm1
                        go_wp2_with (go_at_call 95; refine hih.mono ?_; rintro e w8 ⟨rfl, hw8⟩)
                        go_roundg (b' - m1)
                        case measure => omega
                        case rel =>
                          refine ⟨m1, b', lm1, decide (mid - a' ≥ (b' - a') / 8), ap, d5, by first | rfl | simp, rfl, rfl, ?_, rfl, by omega, by omega, Nat.le_refl _, by omega, by omega, HB2.out, gw7.out.gw hw8, ?_⟩
                          · exact congrArg Value.bool (eighth_of r1 hab')
                          · rw [← hr.out.2.2, HE.out]
                      · have h4z : ¬ ((mid : Int) - (a' : Int) < (b' : Int) - (mid : Int)) := by omega
                        obtain ⟨m1, hm1⟩ : ∃ m1, m1 = mid + 1 := ⟨_, rfl⟩
                        have hm1z : (mid : Int) + 1 = (m1 : Int) := by omega
                        rw [← hm1] at R5 R7 HRIGHT
                        have hih := IH.out blk off cap m1 b' lm1 d4 w7 (by omega) gw7.out.holds (Nat.lt_of_lt_of_le hblk gw7.out.grown.size) (by omega) (by rw [gw7.out.size]; omega) (by rw [gw7.out.size]; omega) (by omega) R5.out
                        have pL := pdq_sorts ltInt swo_ltInt d4 m1 b' lm1 true true (by omega) (by rw [gw7.out.size]; omega) R5.out
                        have HB2 : Hid (Go.Sort.Below ltInt a' mid (pdq ltInt d4 m1 b' lm1 true true)) := (R7.out _ pL.1 pL.2).1
                        have HE : Hid _ := HRIGHT.out h4
                        clear pL
                        rw [gw7.out.size] at hih
                        generalize pdq ltInt d4 m1 b' lm1 true true = d5 at hih HB2 HE
                        clear hm1
                        go_wp2_with (go_at_call 95; refine hih.mono ?_; rintro e w8 ⟨rfl, hw8⟩)
                        go_roundg (mid - a')
                        case measure => omega
                        case rel =>
                          refine ⟨a', mid, lm1, decide (b' - mid ≥ (b' - a') / 8), ap, d5, rfl, rfl, rfl, ?_, rfl, by omega, by omega, Nat.le_refl _, by omega, by omega, HB2.out, gw7.out.gw hw8, ?_⟩
                          · exact congrArg Value.bool (eighth_of (by omega) hab')
                          · rw [← hr.out.2.2, HE.out]
                    · have hz2' := hz2.out
                      simp only [Bool.and_eq_true, decide_eq_true_eq, Bool.not_eq_true'] at hz2'
                      obtain ⟨mid, d4, hx⟩ : ∃ mid d4, partitionEqual ltInt d3 a' b' pv = (mid, d4) := ⟨_, _, rfl⟩
                      have hs := gw6.out.2.size
                      obtain ⟨r1, r2, r3, r4, _⟩ := round_eq swo_ltInt (partitionEqual_holds _) hz2'.1 hpa hpb (by rw [hs]; exact hb') RD.out.below hz2'.2 hx
                      have hc89 := parteq_any blk off cap a' b' pv d3 wc gw6.out.2.holds (by omega) (by rw [hs]; exact hb') (by rw [hs]; omega) (by rw [hs]; omega)
                      rw [hs, hx] at hc89
                      dsimp only at hc89
                      have R4 : Hid _ := r4
                      have HE : Hid _ := RD.out.eql gw6.out.1 hz2.out mid d4 hx ⟨r1, r2⟩
                      have gw6' : Hid (Gw w blk off N d3 wc) := gw6.out.2
                      clear hx hs r3 r4 gw6 HZ hz2'
                      go_wp2_with (go_at_call 119; refine hc89.mono ?_; rintro e w7 ⟨rfl, hw7⟩)
                      go_roundg (b' - mid)
                      case measure => omega
                      case rel =>
                        exact ⟨mid, b', lm1, wb, wp, d4, rfl, rfl, rfl, rfl, rfl, r2, hb', Nat.le_refl _, by omega, by omega, R4.out, gw6'.out.rw hw7, by rw [← hr.out.2.2, HE.out]⟩
end Go.Proofs.Ytkmpcheamdadcaa.Srt
namespace Go.Proofs.Ytkmpcheamdadcaa.Srt
open Go.RowKit Go.Sort
set_option linter.unusedVariables false
set_option linter.unusedSimpArgs false
set_option maxRecDepth 100000 in
set_option maxHeartbeats 2000000 in
theorem sort_row (blk off cap : Nat) (d : Array Int) (w : World) (h : Holds (Value.int .u64) w blk off d) (hblk : blk < w.heap.size) (hsz : d.size < 16777216) :
    Calls Try.prog 65 #[.slice (some ⟨blk, off, none⟩) d.size cap] w fun e w' => e = .returned (.tuple #[]) ∧ Gw w blk off d.size (Sort.sort ltInt d) w' := by
  have hp : Hid (∀ W, W = w → Calls Try.prog 95 #[.slice (some ⟨blk, off, none⟩) d.size cap, .int .i64 (0 : Int), .int .i64 d.size, .int .i64 (Sort.bitsLen d.size)] W fun e w' => e = .returned (.tuple #[]) ∧ Gw w blk off d.size (Sort.sort ltInt d) w') := fun W e => by
    subst e
    exact pdq_any (d.size + 1) blk off cap 0 d.size (Sort.bitsLen d.size) d W (by omega) h hblk (by omega) (by omega) hsz (by have := bitsLen_le d.size hsz; omega) (.inl rfl)
  have hl : Hid (∀ W, Calls Try.prog 96 #[.int .u64 d.size] W fun e w' => e = .returned (.int .i64 (Sort.bitsLen d.size)) ∧ w' = W) := fun W => blen_any d.size W hsz
  obtain ⟨D, hD⟩ : ∃ D, Sort.sort ltInt d = D := ⟨_, rfl⟩
  rw [hD] at hp ⊢
  clear hD
  generalize Sort.bitsLen d.size = B at *
  generalize d.size = N at *
  clear h
  go_enter Try.func65, Try.ntmps65
  go_wp2_with (first
    | (go_at_call 95; refine (hp.out _ rfl).mono ?_; rintro e w4 ⟨rfl, hw4⟩)
    | (go_at_call 96; refine (hl.out _).mono ?_; rintro e w3 ⟨rfl, hw3⟩; have hw5 := hw3.symm; subst hw5; clear hw3))
  go_end0
  exact ⟨rfl, hw4⟩
set_option maxRecDepth 100000 in
set_option maxHeartbeats 2000000 in
theorem ins_nil (w : World) : Calls Try.prog 112 #[.slice none 0 0, .int .i64 0, .int .i64 0] w fun e w' => e = .returned (.tuple #[]) ∧ w' = w := by
  go_enter Try.func112, Try.ntmps112
  go_wp2
  go_loopw [6] (fun vi wr => vi = .int .i64 1 ∧ wr = w) (fun _ _ => 0)
  case atStart => exact ⟨rfl, rfl⟩
  case round =>
    obtain ⟨rfl, rfl⟩ := hrel
    go_wp2
    go_end0
    exact ⟨rfl, rfl⟩
set_option maxRecDepth 100000 in
set_option maxHeartbeats 2000000 in
theorem pdq_nil (B : Nat) (hB : B < 16777216) (w : World) : Calls Try.prog 95 #[.slice none 0 0, .int .i64 0, .int .i64 0, .int .i64 B] w fun e w' => e = .returned (.tuple #[]) ∧ w' = w := by
  go_enter Try.func95, Try.ntmps95
  go_wp2
  go_loopg [1, 2, 3, 8, 9] 0 (fun k s1 s2 s3 s8 s9 wr => s1 = .int .i64 0 ∧ s2 = .int .i64 0 ∧ s3 = .int .i64 B ∧ s8 = .bool true ∧ s9 = .bool true ∧ wr = w)
  case atStart => exact ⟨rfl, rfl, rfl, rfl, rfl, rfl⟩
  case round =>
    obtain ⟨rfl, rfl, rfl, rfl, rfl, rfl⟩ := hrel
    go_wp2_with (go_at_call 112; refine (ins_nil _).mono ?_; rintro e w1 ⟨rfl, rfl⟩)
    (try simp only [Exit.inBlock, Exit.then]); refine bodyPost_ret (results_none rfl _ _ _) rfl ?_
    exact ⟨rfl, rfl⟩
set_option maxRecDepth 100000 in
set_option maxHeartbeats 2000000 in
theorem sort_nil (w : World) : Calls Try.prog 65 #[.slice none 0 0] w fun e w' => e = .returned (.tuple #[]) ∧ w' = w := by
  have hl : Hid (∀ W, Calls Try.prog 96 #[.int .u64 (0 : Int)] W fun e w' => e = .returned (.int .i64 ((0 : Nat) : Int)) ∧ w' = W) := fun W => blen_any 0 W (by omega)
  go_enter Try.func65, Try.ntmps65
  go_wp2_with (first
    | (go_at_call 95; refine (pdq_nil 0 (by omega) _).mono ?_; rintro e w4 ⟨rfl, hw4⟩; have hw5 := hw4.symm; subst hw5; clear hw4)
    | (go_at_call 96; refine (hl.out _).mono ?_; rintro e w3 ⟨rfl, hw3⟩; have hw5 := hw3.symm; subst hw5; clear hw3))
  go_end0
  exact ⟨rfl, rfl⟩
theorem sort_merge (zs : List Int) : Sort.sort ltInt zs.toArray = (zs.mergeSort fun x y => decide (x ≤ y)).toArray := by
  rw [← sortInt zs]
end Go.Proofs.Ytkmpcheamdadcaa.Srt
namespace Go.Proofs.Ytkmpcheamdadcaa.Srt
open Go.RowKit
set_option linter.unusedVariables false
set_option linter.unusedSimpArgs false
/-- A row of families. -/
def uc (l : List Int) : List Value := l.map fun (n : Int) => .int .u64 n
theorem uc_len (l : List Int) : (uc l).length = l.length := by simp [uc]
theorem info23 : (Try.prog.info? 23).map (fun i => (i.zero, i.size, i.bytes)) = some (some (.int .u64 0), 1, 8) := by kernel_rfl
theorem urow_form {w : World} {base : Nat} {e : TypeId} {size : Nat} {v : Value} {n : Nat} {xs : List Value} (h : w.ownsRow base e size v n xs) : ∃ a c, v = .slice a n c ∧ n ≤ c := by
  rcases h.2 with ⟨rfl, rfl⟩ | ⟨g, cap, cur, rfl, _, _, hle, _⟩
  · exact ⟨_, _, rfl, Nat.le_refl _⟩
  · exact ⟨_, _, rfl, hle⟩
theorem umany_run {w : World} {N : Nat} {v : Value} {T : List Int} (ty : TypeId) (hown : w.ownsRow N 23 1 v T.length (uc T)) {p : Addr} {cap : Nat} {ys : List Int} (hc : ∀ (j : Nat) (y : Int), ys[j]? = some y → w.cell? (p.add j) = some (.int .u64 y)) (hl : T.length + ys.length ≤ 1000000000000) (hN : N ≤ w.heap.size) :
    ∃ av cv w', (Builtin.append_ #[54, 54] ty #[v, .slice (some p) ys.length cap]).run Try.prog w = .ok (.slice av (T.length + ys.length) cv) w' ∧ w'.ownsRow N 23 1 (.slice av (T.length + ys.length) cv) (T.length + ys.length) (uc (T ++ ys)) ∧ w.grownBy w' v.ownBlock ∧ (Value.ownBlock (.slice av (T.length + ys.length) cv) = v.ownBlock ∨ Value.ownBlock (.slice av (T.length + ys.length) cv) = some w.heap.size) := by
  obtain ⟨i0, hi, hz0, hz1, hz2⟩ := info_parts info23
  have e := run_append_own_at (P := Try.prog) w N 54 ty 23 i0 (.int .u64 0) 1 8 Try.underlying54 hi hz0 hz1 hz2 rfl (by decide) v T.length (uc T) hown p ys.length cap (uc ys) (by simp [uc]) (by
    intro j u hj
    unfold uc at hj
    rw [List.getElem?_map] at hj
    cases hy : ys[j]? with
    | none => rw [hy] at hj; cases hj
    | some y =>
      rw [hy] at hj
      cases hj
      exact hc j y hy) (by simp [uc, Value.oneCell']) (by unfold maxLen; omega) (by omega) hN
  obtain ⟨v', w', hr, h2, h3, h4, h5⟩ := e
  have e1 : uc T ++ uc ys = uc (T ++ ys) := by simp [uc]
  rw [e1] at h2
  obtain ⟨av, cv, rfl, _⟩ := urow_form h2
  exact ⟨av, cv, w', hr, h2, h3, h5⟩
/-- append of families, at a step of a region that draws its order. -/
theorem step_umany {ops : Array Oper} {o : Oper} {a : Act} {w : World} {K : Act → World → Prop} {Q : Exit → Act → World → Prop} {Ex : Prop} (hgd : o.guard = none) {d : Nat} (hd : o.dst = some d) (s x : Operand)
    (ho : o.op = .call { callee := .builtin .append, args := #[s, x], argTypes := #[54, 54] }) {N : Nat} {v : Value} {T : List Int} (hs : a.eval s = v) (hown : w.ownsRow N 23 1 v T.length (uc T)) {p : Addr} {cap : Nat} {ys : List Int} (hx : a.eval x = .slice (some p) ys.length cap) (hc : ∀ (j : Nat) (y : Int), ys[j]? = some y → w.cell? (p.add j) = some (.int .u64 y)) (hl : T.length + ys.length ≤ 1000000000000) (hN : N ≤ w.heap.size)
    (h : ∀ av cv w', w'.ownsRow N 23 1 (.slice av (T.length + ys.length) cv) (T.length + ys.length) (uc (T ++ ys)) → w.grownBy w' v.ownBlock → (Value.ownBlock (.slice av (T.length + ys.length) cv) = v.ownBlock ∨ Value.ownBlock (.slice av (T.length + ys.length) cv) = some w.heap.size) → K (a.put (some d) (.slice av (T.length + ys.length) cv)) w') :
    if Region.wanted o (yielded ops a.tmps) = true then Oper.wp Try.prog o a w K Q else Ex := by
  have hw : Region.wanted o (yielded ops a.tmps) = true := by simp [Region.wanted, hgd]
  rw [if_pos hw]
  obtain ⟨av, cv, w', hr, h2, h3, h5⟩ := umany_run o.type hown hc hl hN (cap := cap)
  unfold Oper.wp execOp
  simp only [ho, resolve, invoke, builtin, Sem.run_bind, Sem.run_pure, Result.andThen_ok, List.map_toArray, List.map_cons, List.map_nil, hs, hx, hr]
  show K (a.put o.dst _) w'
  rw [hd]
  exact h av cv w' h2 h3 h5
/-- A family goes to its place, if it is not there. -/
def plc (o : List Int) (x : Int) : Nat := (o.takeWhile fun y => decide (y < x)).length
def insU (o : List Int) (x : Int) : List Int := if o[plc o x]? = some x then o else o.take (plc o x) ++ [x] ++ o.drop (plc o x)
def famI (l : List Int) : List Int := l.foldl (fun o r => insU o r) []
theorem famI_succ (l : List Int) (k : Nat) (h : k < l.length) : famI (l.take (k + 1)) = insU (famI (l.take k)) l[k] := by
  unfold famI
  rw [List.take_succ_eq_append_getElem h, List.foldl_append]
  rfl
theorem plc_le (o : List Int) (x : Int) : plc o x ≤ o.length := (List.takeWhile_prefix _).length_le
theorem insU_len (o : List Int) (x : Int) : (insU o x).length ≤ o.length + 1 := by
  unfold insU
  have := plc_le o x
  split
  · omega
  · simp; omega
theorem famI_len (l : List Int) : (famI l).length ≤ l.length := by
  have H : ∀ (l : List Int) (o : List Int), (l.foldl (fun o r => insU o r) o).length ≤ o.length + l.length := by
    intro l
    induction l with
    | nil => intro o; simp
    | cons r l ih =>
      intro o
      have h1 := ih (insU o r)
      have h2 := insU_len o r
      simp only [List.foldl_cons, List.length_cons]
      omega
  simpa [famI] using H l []
/-- How far one has come. -/
theorem plc_go {o : List Int} {x : Int} {k : Nat} (h : (o.take k).all (fun y => decide (y < x)) = true) (hk : k < o.length) (hx : o[k] < x) : (o.take (k + 1)).all (fun y => decide (y < x)) = true := by
  rw [List.take_succ_eq_append_getElem hk, List.all_append, h]
  simp [hx]
theorem plc_end {o : List Int} {x : Int} {k : Nat} (h : (o.take k).all (fun y => decide (y < x)) = true) (hk : k ≤ o.length) (hx : ∀ h : k < o.length, ¬ o[k] < x) : plc o x = k := by
  unfold plc
  induction o generalizing k with
  | nil => simp at hk; simp [hk]
  | cons y o ih =>
    cases k with
    | zero =>
      have := hx (by simp)
      simp at this
      rw [List.takeWhile_cons, if_neg (by simpa using this)]
      rfl
    | succ k =>
      simp only [List.take_succ_cons, List.all_cons, Bool.and_eq_true] at h
      rw [List.takeWhile_cons, if_pos h.1]
      simp only [List.length_cons]
      have := ih h.2 (by simpa using hk) (fun h' => by have := hx (by simpa using h'); simpa using this)
      omega
end Go.Proofs.Ytkmpcheamdadcaa.Srt
namespace Go.Proofs.Ytkmpcheamdadcaa.Srt
open Go.RowKit Go.Lib
set_option linter.unusedVariables false
set_option linter.unusedSimpArgs false
theorem strict_ext : ∀ (l1 l2 : List Int), l1.Pairwise (· < ·) → l2.Pairwise (· < ·) → (∀ x, x ∈ l1 ↔ x ∈ l2) → l1 = l2 := by
  intro l1
  induction l1 with
  | nil =>
    intro l2 _ _ h
    cases l2 with
    | nil => rfl
    | cons y l2 => have := (h y).2 (by simp); simp at this
  | cons x l1 ih =>
    intro l2 h1 h2 h
    cases l2 with
    | nil => have := (h x).1 (by simp); simp at this
    | cons y l2 =>
      rw [List.pairwise_cons] at h1 h2
      have exy : x = y := by
        have a := (h x).1 (by simp)
        have b := (h y).2 (by simp)
        simp only [List.mem_cons] at a b
        rcases a with a | a
        · exact a
        · rcases b with b | b
          · exact b.symm
          · have := h1.1 y b; have := h2.1 x a; omega
      subst exy
      rw [ih l2 h1.2 h2.2 (fun z => ?_)]
      constructor
      · intro hz
        have := (h z).1 (by simp [hz])
        simp only [List.mem_cons] at this
        rcases this with e | this
        · have := h1.1 z hz; omega
        · exact this
      · intro hz
        have := (h z).2 (by simp [hz])
        simp only [List.mem_cons] at this
        rcases this with e | this
        · have := h2.1 z hz; omega
        · exact this
theorem plc_split (o : List Int) (x : Int) : o.take (plc o x) = o.takeWhile (fun y => decide (y < x)) ∧ o.drop (plc o x) = o.dropWhile (fun y => decide (y < x)) := by
  unfold plc
  induction o with
  | nil => simp
  | cons y o ih =>
    by_cases h : y < x
    · simp [List.takeWhile_cons, List.dropWhile_cons, h, ih.1, ih.2]
    · simp [List.takeWhile_cons, List.dropWhile_cons, h]
theorem insU_mem {o : List Int} {x : Int} (z : Int) : z ∈ insU o x ↔ z = x ∨ z ∈ o := by
  unfold insU
  have e := List.take_append_drop (plc o x) o
  split
  · rename_i h
    have hm : x ∈ o := List.mem_of_getElem? h
    constructor
    · exact .inr
    · rintro (rfl | h) <;> assumption
  · have : z ∈ o ↔ z ∈ o.take (plc o x) ∨ z ∈ o.drop (plc o x) := by rw [← List.mem_append, e]
    rw [this]
    simp only [List.mem_append, List.mem_singleton]
    constructor
    · rintro ((h | h) | h)
      · exact .inr (.inl h)
      · exact .inl h
      · exact .inr (.inr h)
    · rintro (h | h | h)
      · exact .inl (.inr h)
      · exact .inl (.inl h)
      · exact .inr h
theorem drop_ge {o : List Int} {x : Int} (h : o.Pairwise (· < ·)) : ∀ z ∈ o.dropWhile (fun y => decide (y < x)), x ≤ z := by
  induction o with
  | nil => simp
  | cons y o ih =>
    rw [List.pairwise_cons] at h
    by_cases hy : y < x
    · simpa [List.dropWhile_cons, hy] using ih h.2
    · intro z hz
      simp [List.dropWhile_cons, hy] at hz
      rcases hz with rfl | hz
      · omega
      · have := h.1 z hz; omega
theorem take_lt {o : List Int} {x : Int} : ∀ z ∈ o.takeWhile (fun y => decide (y < x)), z < x := fun z hz => by
  have := List.all_takeWhile (l := o) (p := fun y => decide (y < x))
  have := List.all_eq_true.1 this z hz
  simpa using this
theorem insU_strict {o : List Int} {x : Int} (h : o.Pairwise (· < ·)) : (insU o x).Pairwise (· < ·) := by
  unfold insU
  split
  · exact h
  · rename_i hx
    have e := List.take_append_drop (plc o x) o
    have hp := h
    rw [← e, List.pairwise_append] at hp
    obtain ⟨s1, s2⟩ := plc_split o x
    have hge : ∀ z ∈ o.drop (plc o x), x < z := fun z hz => by
      have h1 := drop_ge h z (s2 ▸ hz)
      rcases Int.lt_or_eq_of_le h1 with h2 | h2
      · exact h2
      · exfalso
        subst h2
        -- the first of what is dropped is x
        cases hd : o.drop (plc o x) with
        | nil => rw [hd] at hz; simp at hz
        | cons y t =>
          have hy : x ≤ y := drop_ge h y (by rw [← s2, hd]; simp)
          have hh : o[plc o x]? = some y := by
            have := List.getElem?_drop (xs := o) (i := plc o x) (j := 0)
            rw [hd] at this
            simpa using this.symm
          rw [hd] at hz hp
          rw [List.mem_cons] at hz
          rcases hz with rfl | hz
          · exact hx hh
          · have := (List.pairwise_cons.1 hp.2.1).1 x hz; omega
    rw [List.append_assoc, List.pairwise_append]
    refine ⟨hp.1, ?_, fun a ha b hb => ?_⟩
    · simp only [List.singleton_append, List.pairwise_cons]
      exact ⟨hge, hp.2.1⟩
    · simp only [List.singleton_append, List.mem_cons] at hb
      have hax : a < x := take_lt a (s1 ▸ ha)
      rcases hb with rfl | hb
      · exact hax
      · have := hge b hb; omega
theorem famI_facts (l : List Int) : (famI l).Pairwise (· < ·) ∧ ∀ z, z ∈ famI l ↔ z ∈ l := by
  have H : ∀ (l : List Int) (o : List Int), o.Pairwise (· < ·) → (l.foldl (fun o r => insU o r) o).Pairwise (· < ·) ∧ ∀ z, z ∈ l.foldl (fun o r => insU o r) o ↔ z ∈ o ∨ z ∈ l := by
    intro l
    induction l with
    | nil => intro o h; exact ⟨h, fun z => by simp⟩
    | cons r l ih =>
      intro o h
      obtain ⟨h1, h2⟩ := ih (insU o r) (insU_strict h)
      refine ⟨h1, fun z => ?_⟩
      rw [List.foldl_cons, h2 z, insU_mem]
      simp only [List.map_cons, List.mem_cons]
      constructor
      · rintro ((h | h) | h)
        · exact .inr (.inl h)
        · exact .inl h
        · exact .inr (.inr h)
      · rintro (h | h | h)
        · exact .inl (.inr h)
        · exact .inl (.inl h)
        · exact .inr h
  obtain ⟨h1, h2⟩ := H l [] List.Pairwise.nil
  exact ⟨h1, fun z => by rw [famI, h2 z]; simp⟩
theorem thin_facts (d : Array Int) (hs : ∀ i j, i ≤ j → j < d.size → d[i]! ≤ d[j]!) : ∀ m, m ≤ d.size → (compactUpTo d m).Pairwise (· < ·) ∧ (∀ z, z ∈ compactUpTo d m ↔ ∃ j, j < m ∧ d[j]! = z) := by
  intro m
  induction m with
  | zero => intro _; exact ⟨by simp [compactUpTo], fun z => by simp [compactUpTo]⟩
  | succ m ih =>
    intro hm
    obtain ⟨h1, h2⟩ := ih (by omega)
    rw [compactUpTo_succ]
    by_cases hk : keeps d m = true
    · rw [if_pos hk]
      have hlt : ∀ z ∈ compactUpTo d m, z < d[m]! := fun z hz => by
        obtain ⟨j, hj, rfl⟩ := (h2 z).1 hz
        have hne : d[m]! ≠ d[m - 1]! := by
          simp [keeps] at hk
          omega
        have a := hs j (m - 1) (by omega) (by omega)
        have b := hs (m - 1) m (by omega) (by omega)
        omega
      refine ⟨List.pairwise_append.2 ⟨h1, by simp, fun a ha b hb => by simp at hb; rw [hb]; exact hlt a ha⟩, fun z => ?_⟩
      rw [List.mem_append, h2 z]
      simp only [List.mem_singleton]
      constructor
      · rintro (⟨j, hj, e⟩ | rfl)
        · exact ⟨j, by omega, e⟩
        · exact ⟨m, by omega, rfl⟩
      · rintro ⟨j, hj, e⟩
        by_cases hjm : j = m
        · subst hjm; exact .inr e.symm
        · exact .inl ⟨j, by omega, e⟩
    · rw [if_neg hk]
      simp only [List.append_nil]
      refine ⟨h1, fun z => ?_⟩
      rw [h2 z]
      constructor
      · rintro ⟨j, hj, e⟩; exact ⟨j, by omega, e⟩
      · rintro ⟨j, hj, e⟩
        by_cases hjm : j = m
        · subst hjm
          simp [keeps] at hk
          exact ⟨j - 1, by omega, by rw [← hk.2]; exact e⟩
        · exact ⟨j, by omega, e⟩
theorem thin_fam (l : List Int) (zs : List Int) (hz : zs = l.mergeSort (fun x y => decide (x ≤ y))) : compactUpTo zs.toArray zs.length = famI l := by
  have hp : zs.Perm l := hz ▸ List.mergeSort_perm _ _
  have hsorted : zs.Pairwise (fun x y => decide (x ≤ y) = true) := by
    rw [hz]
    exact List.pairwise_mergeSort (fun a b c h1 h2 => by simp at *; omega) (fun a b => by simp; omega) _
  have hs : ∀ i j, i ≤ j → j < zs.toArray.size → zs.toArray[i]! ≤ zs.toArray[j]! := fun i j hij hj => by
    simp at hj
    rw [show zs.toArray[i]! = zs[i]'(by omega) by simp [show i < zs.length by omega], show zs.toArray[j]! = zs[j] by simp [hj]]
    rcases Nat.lt_or_ge i j with h | h
    · have := List.pairwise_iff_getElem.1 hsorted i j (by omega) hj h
      simpa using this
    · have : i = j := by omega
      subst this; exact Int.le_refl _
  obtain ⟨h1, h2⟩ := thin_facts zs.toArray hs zs.length (by simp)
  obtain ⟨h3, h4⟩ := famI_facts l
  refine strict_ext _ _ h1 h3 fun z => ?_
  rw [h2 z, h4 z, ← hp.mem_iff]
  constructor
  · rintro ⟨j, hj, e⟩
    rw [← e]
    simp [hj]
  · intro h
    obtain ⟨j, hj, e⟩ := List.getElem_of_mem h
    exact ⟨j, hj, by simp [hj, e]⟩
end Go.Proofs.Ytkmpcheamdadcaa.Srt
namespace Go.Proofs
open Go.Shelf
def Try.cmU_ren : Go.Shelf.Ren := ⟨fun | 43 => 66 | n => n, fun | 22 => 54 | n => n, fun n => n⟩
theorem Try.cmU : Go.Proofs.SlLaysE.n43 Try.prog Try.cmU_ren := {
  mixed := by kernel_rfl
  f43 := ⟨Try.f66.name, by decide, Try.func66.trans (congrArg some (by kernel_rfl))⟩
  t0 := Try.underlying0
  a0 := Try.isAgg0
  z0 := Try.sizeOf0
  v0 := Try.zeroValue0
  t3 := Try.underlying3
  a3 := Try.isAgg3
  z3 := Try.sizeOf3
  v3 := Try.zeroValue3
  t4 := Try.underlying4
  a4 := Try.isAgg4
  z4 := Try.sizeOf4
  v4 := Try.zeroValue4
  t22 := Try.underlying54
  a22 := Try.isAgg54
  z22 := Try.sizeOf54
  v22 := Try.zeroValue54
  a23 := Try.isAgg23
  z23 := Try.sizeOf23 }
namespace Ytkmpcheamdadcaa.Srt
open Go.RowKit Go.Sort Go.Lib
theorem thin_row (blk off cap : Nat) (d : Array Int) (w : World) (h : Holds (Value.int .u64) w blk off d) (hsz : d.size < 16777216) (hcap : d.size ≤ cap) :
    Calls Try.prog 66 #[.slice (some ⟨blk, off, none⟩) d.size cap] w fun e w' => e = .returned (.slice (some ⟨blk, off, none⟩) (compactUpTo d d.size).length cap) ∧ Rw w blk off d.size (compactUpTo d d.size ++ List.replicate (d.size - (compactUpTo d d.size).length) 0).toArray w' := by
  refine (AnyE.slices_Compact Try.cmU (Value.int .u64) (fun _ => rfl) (EqlAt.intD _ _ .u64) (NeqAt.intD _ _ .u64) 0 Try.zeroValue23 blk off cap d w h (by omega) hcap).mono fun e w' hh => ⟨hh.1, ?_, hh.2⟩
  have : (compactUpTo d d.size).length ≤ d.size := by
    unfold compactUpTo
    rw [List.length_map]
    exact Nat.le_trans (List.length_filter_le _ _) (by simp)
  simp; omega
set_option maxRecDepth 100000 in
theorem thin_nil (w : World) : Calls Try.prog 66 #[.slice none 0 0] w fun e w' => e = .returned (.slice none 0 0) ∧ w' = w := by
  go_enter Try.func66, Try.ntmps66
  go_wp2
  go_ret
  exact ⟨rfl, rfl⟩
end Ytkmpcheamdadcaa.Srt
end Go.Proofs
namespace Go.Proofs.Ytkmpcheamdadcaa.Srt
open Go.RowKit
set_option linter.unusedVariables false
set_option linter.unusedSimpArgs false
theorem elem54 : Try.prog.elem 54 = 23 := by kernel_rfl
theorem slc54 : Try.prog.underlying 54 = some (.slice (Try.prog.elem 54)) := by rw [elem54]; exact Try.underlying54
def cutU (a : Option Addr) (cap m : Nat) : Option Addr := if cap = m then a else a.map (·.add m)
theorem fcut_lo (a : Option Addr) (n cap m : Nat) (h : m ≤ n) (W : World) : (Instr.sliceAt 54 (.slice a n cap) (some (.int .i64 m)) none none).run Try.prog W = .ok (.slice (cutU a cap m) (n - m) (cap - m)) W := by
  have hs : (sizeOf 23).run Try.prog W = .ok 1 W := by kernel_rfl
  have hr := run_slice_l (P := Try.prog) W 54 a n cap slc54 .i64 (m : Int) (by omega) (by omega)
  rw [elem54, hs] at hr
  simp only [Result.andThen, sliced, Int.toNat_natCast] at hr
  rw [run_sliceAt_slice _ _ _ _ _ _ slc54, hr]
  unfold cutU
  cases a <;> split <;> simp
theorem fcut_hi (a : Option Addr) (n cap m : Nat) (h : m ≤ cap) (W : World) : (Instr.sliceAt 54 (.slice a n cap) none (some (.int .i64 m)) none).run Try.prog W = .ok (.slice a m cap) W := by
  have hs : (sizeOf 23).run Try.prog W = .ok 1 W := by kernel_rfl
  have hr := run_slice_h (P := Try.prog) W 54 a n cap slc54 .i64 (m : Int) (by omega) (by omega)
  rw [elem54, hs] at hr
  simp only [Result.andThen, sliced, Int.toNat_natCast] at hr
  rw [run_sliceAt_slice _ _ _ _ _ _ slc54, hr]
  cases a <;> simp [Addr.add]
/-- A cell of a row of families. -/
theorem urow_at {w : World} {base : Nat} {v : Value} {l : List Int} (h : w.ownsRow base 23 1 v l.length (uc l)) {k : Nat} (hk : k < l.length) : ∃ g cap, v = .slice (some ⟨g, 0, none⟩) l.length cap ∧ w.cell? ⟨g, k, none⟩ = some (.int .u64 l[k]) ∧ g < w.heap.size := by
  rcases h.2 with ⟨_, h0⟩ | ⟨g, cap, cur, e, _, hgg, _⟩
  · omega
  · refine ⟨g, cap, e, ?_, (Array.getElem?_eq_some_iff.1 hgg).1⟩
    have := h.cells (g := g) (by rw [e]; rfl) k (.int .u64 l[k]) (by simp [uc, hk])
    rw [add_at] at this
    simpa using this
theorem urow_base {w : World} {b b' : Nat} {e : TypeId} {z : Nat} {v : Value} {n : Nat} {xs : List Value} (h : w.ownsRow b e z v n xs) (hb : b' ≤ b) : w.ownsRow b' e z v n xs := by
  refine ⟨h.1, ?_⟩
  rcases h.2 with h1 | ⟨g, cap, cur, e, h2, h3⟩
  · exact .inl h1
  · exact .inr ⟨g, cap, cur, e, Nat.le_trans hb h2, h3⟩
theorem urow_some {w : World} {b : Nat} {e : TypeId} {z : Nat} {v : Value} {n : Nat} {xs : List Value} (h : w.ownsRow b e z v n xs) (hn : 0 < n) : ∃ g m c, v = .slice (some ⟨g, 0, none⟩) m c := by
  rcases h.2 with ⟨_, h1⟩ | ⟨g, cap, cur, e, _⟩
  · omega
  · exact ⟨g, n, cap, e⟩
/-- append of families, in a plain region. -/
theorem wpList_umany {ops : Array Oper} {rest : List Oper} {o : Oper} {a : Act} {w : World} {Q : Exit → Act → World → Prop} (hgd : o.guard = none) {d : Nat} (hd : o.dst = some d) (s x : Operand)
    (ho : o.op = .call { callee := .builtin .append, args := #[s, x], argTypes := #[54, 54] }) {N : Nat} {v : Value} {T : List Int} (hs : a.eval s = v) (hown : w.ownsRow N 23 1 v T.length (uc T)) {p : Addr} {cap : Nat} {ys : List Int} (hx : a.eval x = .slice (some p) ys.length cap) (hc : ∀ (j : Nat) (y : Int), ys[j]? = some y → w.cell? (p.add j) = some (.int .u64 y)) (hl : T.length + ys.length ≤ 1000000000000) (hN : N ≤ w.heap.size)
    (h : ∀ av cv w', w'.ownsRow N 23 1 (.slice av (T.length + ys.length) cv) (T.length + ys.length) (uc (T ++ ys)) → w.grownBy w' v.ownBlock → wpList Try.prog ops Q rest (a.put (some d) (.slice av (T.length + ys.length) cv)) w') : wpList Try.prog ops Q (o :: rest) a w := by
  refine wpList_plain hgd fun K hK => ?_
  obtain ⟨av, cv, w', hr, h2, h3, h5⟩ := umany_run o.type hown hc hl hN (cap := cap)
  unfold Oper.wp execOp
  simp only [ho, resolve, invoke, builtin, Sem.run_bind, Sem.run_pure, Result.andThen_ok, List.map_toArray, List.map_cons, List.map_nil, hs, hx, hr]
  show K (a.put o.dst _) w'
  rw [hd]
  exact hK _ _ (h av cv w' h2 h3)
theorem one_new (W : World) (x : Int) : ∀ (j : Nat) (z : Int), [x][j]? = some z → (W.alloc (.cells #[.int .u64 x] 23)).cell? ((⟨W.heap.size, 0, none⟩ : Addr).add j) = some (.int .u64 z) := by
  intro j z hz
  have hj : j = 0 := by have := (List.getElem?_eq_some_iff.1 hz).1; simp at this; omega
  subst hj
  simp at hz
  subst hz
  rw [add_at]
  exact World.cell?_alloc_new W #[.int .u64 x] 23 0
theorem one_old {W W' : World} {x : Int} {row : Option Nat} (o : Obj) (hn : row ≠ some W.heap.size) (hg : (((W.alloc (.cells #[.int .u64 x] 23)).alloc o).drew).grownBy W' row) (h : True) : ∀ (j : Nat) (z : Int), [x][j]? = some z → W'.cell? ((⟨W.heap.size, 0, none⟩ : Addr).add j) = some (.int .u64 z) := by
  intro j z hz
  have h1 := one_new W x j z hz
  have hj : j = 0 := by have := (List.getElem?_eq_some_iff.1 hz).1; simp at this; omega
  subst hj
  rw [add_at] at h1 ⊢
  have e1 : W'.heap[W.heap.size]? = (((W.alloc (.cells #[.int .u64 x] 23)).alloc o).drew).heap[W.heap.size]? := hg.block _ (by simp; omega) (Ne.symm hn)
  have e2 : (((W.alloc (.cells #[.int .u64 x] 23)).alloc o).drew).heap[W.heap.size]? = (W.alloc (.cells #[.int .u64 x] 23)).heap[W.heap.size]? := Below.heap_alloc _ o _ (by simp)
  exact (World.cell?_of_block (a := ⟨W.heap.size, 0 + 0, none⟩) (e1.trans e2)).trans h1
theorem one_old2 {V W' : World} {x : Int} {row : Option Nat} (o : Obj) (hn : row ≠ some (V.heap.size + 1)) (hg : (((V.alloc o).alloc (.cells #[.int .u64 x] 23)).drew).grownBy W' row) (h : True) : ∀ (j : Nat) (z : Int), [x][j]? = some z → W'.cell? ((⟨V.heap.size + 1, 0, none⟩ : Addr).add j) = some (.int .u64 z) := by
  intro j z hz
  have h1 := one_new (V.alloc o) x j z hz
  rw [World.size_alloc] at h1
  have hj : j = 0 := by have := (List.getElem?_eq_some_iff.1 hz).1; simp at this; omega
  subst hj
  rw [add_at] at h1 ⊢
  have e1 : W'.heap[V.heap.size + 1]? = (((V.alloc o).alloc (.cells #[.int .u64 x] 23)).drew).heap[V.heap.size + 1]? := hg.block _ (by simp) (Ne.symm hn)
  exact (World.cell?_of_block (a := ⟨V.heap.size + 1, 0 + 0, none⟩) e1).trans h1
theorem lit2 (V : World) (o : Obj) : ((V.alloc o).alloc (.cells #[] 23)).ownsRow V.heap.size 23 1 (.slice (some ⟨V.heap.size + 1, 0, none⟩) 0 0) 0 (uc []) := by
  have := World.ownsRow_lit (V.alloc o) #[] 0 (base := V.heap.size) (e := 23) (size := 1) (by simp) (by unfold maxLen; omega) rfl
  rw [World.size_alloc] at this
  exact this
end Go.Proofs.Ytkmpcheamdadcaa.Srt
namespace Go.Proofs.Ytkmpcheamdadcaa.Srt
open Go.RowKit Go.Sort Go.Lib
set_option linter.unusedVariables false
set_option linter.unusedSimpArgs false
theorem uhold {w : World} {base g cap : Nat} {T : List Int} (h : w.ownsRow base 23 1 (.slice (some ⟨g, 0, none⟩) T.length cap) T.length (uc T)) : Holds (Value.int .u64) w g 0 T.toArray := by
  intro j hj
  simp at hj
  refine ⟨?_, by rw [Nat.zero_add]; exact h.frozenAt j⟩
  obtain ⟨g', cap', e, hc, _⟩ := urow_at h hj
  cases e
  rw [Nat.zero_add, hc]
  simp [hj]
/-- A row whose block was turned in place. -/
theorem uback {w w' : World} {base g cap : Nat} {n m : Nat} {xs : List Value} {d : Array Int} {T : List Int} (h : w.ownsRow base 23 1 (.slice (some ⟨g, 0, none⟩) n cap) n xs) (hs : Shaped w w' g) (hd : Holds (Value.int .u64) w' g 0 d) (hm : T.length = m) (hdn : d.size = n) (hmn : m ≤ n) (hT : ∀ j, j < m → d[j]! = T[j]!) :
    w'.ownsRow base 23 1 (.slice (some ⟨g, 0, none⟩) m cap) m (uc T) := by
  rcases h.2 with ⟨e, _⟩ | ⟨g', cap', cur, e, hb, hg, hnc, hcm, hsz, _⟩
  · cases e
  · cases e
    obtain ⟨cur', h1, h2⟩ := hs _ _ _ hg
    refine ⟨by simp [uc, hm], .inr ⟨g, cap, cur', rfl, hb, h1, by omega, hcm, by omega, ?_⟩⟩
    apply List.ext_getElem?
    intro j
    by_cases hj : j < m
    · rw [List.getElem?_take_of_lt (by omega)]
      have hc := (hd j (by omega)).1
      rw [Nat.zero_add] at hc
      have hc2 : w'.cell? ⟨g, j, none⟩ = cur'[j]? := by simp [World.cell?, h1]
      rw [Array.getElem?_toList, ← hc2, hc, hT j hj]
      simp [uc, hm, hj]
    · rw [List.getElem?_take_eq_none (by omega), List.getElem?_eq_none (by simp [uc]; omega)]
/-- append of one family. -/
theorem upush {w : World} {ops : Array Oper} {rest : List Oper} {o : Oper} {a : Act} {Q : Exit → Act → World → Prop} (hgd : o.guard = none) (s x : Operand)
    (ho : o.op = .call { callee := .builtin .append, args := #[s, x], argTypes := #[54, 54] }) {base : Nat} {v : Value} {T : List Int} (hs : a.eval s = v) {B : Nat} (hx : a.eval x = .slice (some ⟨B, 0, none⟩) 1 1) (u : Int) (hown : w.ownsRow base 23 1 v T.length (uc T)) (hcell : w.cell? ⟨B, 0, none⟩ = some (.int .u64 u)) (hn : T.length ≤ 1000000000) (hbase : base ≤ w.heap.size)
    (h : ∀ av cv w', w'.ownsRow base 23 1 (.slice av (T.length + 1) cv) (T.length + 1) (uc (T ++ [u])) → w.grownBy w' v.ownBlock → wpList Try.prog ops Q rest (a.put o.dst (.slice av (T.length + 1) cv)) w') :
    wpList Try.prog ops Q (o :: rest) a w := by
  obtain ⟨i0, hi, hz0, hz1, hz2⟩ := info_parts info23
  refine wpList_append_own_at _ hgd _ _ 54 ho base 23 i0 (.int .u64 0) 1 8 Try.underlying54 hi hz0 hz1 hz2 rfl (by decide) v T.length (uc T) hs hown ⟨B, 0, none⟩ 1 1 (uc [u]) hx rfl ?_ (by simp [uc, Value.oneCell']) (by unfold maxLen; omega) (by omega) hbase ?_
  · intro j v hj
    match j, hj with
    | 0, hj =>
      simp [uc] at hj
      subst hj
      simpa [Addr.add] using hcell
  · intro v' w' h1 h2 _ h4
    obtain ⟨av, cv, rfl, _⟩ := urow_form h1
    exact h av cv w' (by simpa [uc] using h1) h2
/-- Sorted and thinned: the families. -/
theorem ufam {W : World} {base : Nat} {v : Value} {rs : List Int} (h : W.ownsRow base 23 1 v rs.length (uc rs)) (hl : rs.length ≤ 10000000) :
    Calls Try.prog 65 #[v] W fun e w1 => e = .returned (.tuple #[]) ∧ (∃ row, W.grownBy w1 row ∧ (∀ k, row = some k → base ≤ k)) ∧ Calls Try.prog 66 #[v] w1 fun e w2 => ∃ fv, e = .returned fv ∧ w2.ownsRow base 23 1 fv (famI rs).length (uc (famI rs)) ∧ (∃ row, w1.grownBy w2 row ∧ (∀ k, row = some k → base ≤ k)) := by
  rcases h.2 with ⟨rfl, h0⟩ | ⟨g, cap, cur, rfl, hb, hg, hnc, hcm, hsz, _⟩
  · have hr : rs = [] := by cases rs with | nil => rfl | cons => simp at h0
    subst hr
    refine (sort_nil W).mono ?_
    rintro e w1 ⟨rfl, rfl⟩
    have hg0 : w1.grownBy w1 none := ⟨rfl, rfl, rfl, Nat.le_refl _, fun _ _ _ => rfl⟩
    refine ⟨rfl, ⟨none, hg0, by simp⟩, ?_⟩
    refine (thin_nil w1).mono ?_
    rintro e w2 ⟨rfl, rfl⟩
    exact ⟨_, rfl, World.ownsRow_nil _ _ _ _, ⟨none, hg0, by simp⟩⟩
  · have hblk : g < W.heap.size := (Array.getElem?_eq_some_iff.1 hg).1
    have hs := sort_row g 0 cap rs.toArray W (uhold h) hblk (by simp; omega)
    rw [sort_merge] at hs
    obtain ⟨zs, hz⟩ : ∃ zs, zs = rs.mergeSort (fun x y => decide (x ≤ y)) := ⟨_, rfl⟩
    have hzl : zs.length = rs.length := by rw [hz]; simp
    rw [← hz] at hs
    have e0 : rs.toArray.size = rs.length := by simp
    rw [e0] at hs
    refine hs.mono ?_
    rintro e w1 ⟨rfl, gw⟩
    refine ⟨rfl, ⟨some g, gw.grown, fun k hk => by cases hk; exact hb⟩, ?_⟩
    have ht := thin_row g 0 cap zs.toArray w1 gw.holds (by simp; omega) (by simp; omega)
    have e1 : zs.toArray.size = rs.length := by simp [hzl]
    have e2 : compactUpTo zs.toArray zs.toArray.size = famI rs := by
      rw [show zs.toArray.size = zs.length by simp]
      exact thin_fam rs zs (by rw [hz])
    rw [e2, e1] at ht
    refine ht.mono ?_
    rintro e w2 ⟨rfl, r2⟩
    have hfl := famI_len rs
    have gw2 := gw.rw r2
    refine ⟨_, rfl, uback (T := famI rs) h gw2.shape gw2.holds rfl gw2.size (by omega) (fun j hj => ?_), ⟨some g, r2.grown, fun k hk => by cases hk; exact hb⟩⟩
    simp [hj, List.getElem?_append_left hj]
end Go.Proofs.Ytkmpcheamdadcaa.Srt
