/-
  The reference's Overlaps.
-/
import Derived.Test.YtkmpcheamdadcaaXe
import Derived.Test.YtkmpcheamdadcaaXf
import Derived.BigQuiet
namespace Go.Proofs.Ytkmpcheamdadcaa
open Go.RowKit
set_option linter.unusedVariables false
set_option linter.unusedSimpArgs false
set_option maxRecDepth 100000 in
set_option maxHeartbeats 1000000 in
theorem roverlaps_no {w : World} {V : Vn} {L : Nat → List Fi} (how lv : Int) (b en : ByteArray) (h : (isLvB lv && isHowB how) = false) : Calls Try.prog 31 #[.int .i64 how, .agg (verA V L), .int .i64 lv, .string b, .string en] w fun e w' => e = .returned (.tuple #[.slice none 0 0, .int .i64 1]) ∧ Below w.heap.size w w' := by
  have HH := fun w => rhow_any how w
  unfold isLvB at h
  by_cases h1 : lv < 0
  · clear h
    go_enter Try.func31, Try.ntmps31
    go_wp2
    go_ret2
    exact ⟨rfl, al1 _ _⟩
  · by_cases h2 : 7 ≤ lv
    · have h1' : 0 ≤ lv := by omega
      have hd : decide (lv < 0) = false := by simp; omega
      clear h
      go_enter Try.func31, Try.ntmps31
      go_wp2
      go_ret2
      exact ⟨rfl, al1 _ _⟩
    · have h1' : 0 ≤ lv := by omega
      have h2' : lv < 7 := by omega
      have hd : decide (lv < 0) = false := by simp; omega
      have hd2 : decide (7 ≤ lv) = false := by simp; omega
      rw [show (decide (0 ≤ lv) && decide (lv < 7)) = true by simp; omega, Bool.true_and] at h
      rw [h] at HH
      clear h
      go_enter Try.func31, Try.ntmps31
      go_wp2_with (go_at_call 58; refine (HH _).mono ?_; rintro e w' ⟨rfl, rfl⟩)
      go_ret2
      exact ⟨rfl, al1 _ _⟩
set_option maxRecDepth 100000 in
set_option maxHeartbeats 2000000 in
theorem roverlaps_yes {w : World} {V : Vn} {L : Nat → List Fi} (h : RdV w V L) (lv : Nat) (hlv : lv < 7) (how : Int) (b en : ByteArray) (hh : isHowB how = true) : Calls Try.prog 31 #[.int .i64 how, .agg (verA V L), .int .i64 lv, .string b, .string en] w (OvPost w how lv (L lv) b en) := by
  have HW := fun w => rhow_any how w
  rw [hh] at HW
  have hbx := ver_box (heap_alloc_new w (.cells (verA V L) 41)) lv hlv
  have hl := h.len lv hlv
  have HR : Hid (RdF w (V.a lv) (L lv)) := h.rd lv hlv
  have hlz : (lv : Int) < 7 := by omega
  have hlz0 : ¬ ((lv : Int) < 0) := by omega
  have hd : decide ((lv : Int) < 0) = false := by simp
  have hd2 : decide (7 ≤ (lv : Int)) = false := by simp; omega
  unfold vsl at hbx
  generalize V.a lv = a at *
  generalize V.c lv = cap at *
  generalize L lv = l at *
  obtain ⟨N, hN⟩ : ∃ N, Hid (l.length = N) := ⟨_, rfl⟩
  obtain ⟨S, hS⟩ : ∃ S, Hid (seeds how l b en = S) := ⟨_, rfl⟩
  have HSl : Hid (S.length = N) := by show _ = _; rw [← hS.out, ← hN.out]; simp [seeds]
  rw [hN.out] at hl hbx
  obtain ⟨T, hT⟩ : ∃ T, Hid (ovT how lv l b en = T) := ⟨_, rfl⟩
  have HTl : Hid (T.length = N) := by
    show _ = _
    rw [← hT.out]; unfold ovT
    split
    · have := (sprT_least how l (seeds how l b en) (by simp [seeds])).len
      unfold sprT
      rw [this, ← hN.out]; simp [seeds]
    · rw [hS.out, HSl.out]
  obtain ⟨i4, hi4, hz40, hz41, hz42⟩ := info_parts info4
  have hb42 : i4.bytes * N ≤ 281474976710656 := by rw [hz42]; omega
  have hmN : N ≤ maxLen := by unfold maxLen; omega
  clear h hh
  go_enter Try.func31, Try.ntmps31
  go_wp2_with (first
    | (go_at_call 58; refine (HW _).mono ?_; rintro e w' ⟨rfl, rfl⟩)
    | (at_make; refine wpList_make_full _ rfl _ _ 107 rfl w.heap.size 4 i4 (.bool false) 1 Try.underlying107 hi4 hz40 hz41 _ _ _ _ N rfl rfl rfl rfl hb42 hmN (by simp) ?_; intro w1 hown1 hgrow1))
  have HM0 : Hid (Mk w (w.heap.size + 1) S 0 w1) := by
    refine ⟨?_, (((Upd.refl Non w).alloc _).grown hgrow1 (fun k e => by cases e)).below (n := w.heap.size) (fun k h => h) (fun k h => h.elim)⟩
    have := own_all hown1
    rw [World.size_alloc, made_bls N S HSl.out] at this
    exact this
  clear hown1 hgrow1 hbx HW
  obtain ⟨TB, hTB⟩ : ∃ TB, Hid (w.heap.size + 1 = TB) := ⟨_, rfl⟩
  have HTB : Hid (w.heap.size ≤ TB) := by show _ ≤ _; rw [← hTB.out]; omega
  have HM1 : Hid (Mk w TB S 0 w1) := by rw [← hTB.out]; exact HM0.out
  clear HM0
  go_loopw [14] (fun i wr => ∃ k : Nat, k ≤ N ∧ i = .int .i64 k ∧ Hid (Mk w TB S k wr)) (fun i _ => ((N : Int) - intOf i).toNat)
  case atStart => exact ⟨0, Nat.zero_le _, rfl, HM1⟩
  case round =>
    clear HM1
    obtain ⟨k, hk, rfl, HM⟩ := hrel
    rcases Nat.lt_or_ge k N with hkN | hkN
    · have hkz : (k : Int) < (N : Int) := by omega
      obtain ⟨f, hf⟩ : ∃ f, l[k]? = some f := ⟨_, List.getElem?_eq_getElem (by rw [hN.out]; exact hkN)⟩
      obtain ⟨ga, oa, e', hat⟩ := (HR.out.below HM.out.bel).at_ hf
      subst e'
      obtain ⟨t0, t1, t2, t3, t4, t5, t6, t7, t8, t9⟩ := hat.f
      have HB : Hid (S[k]? = some (rchB how f b en)) := by
        show _ = _
        rw [← hS.out]; unfold seeds; rw [List.getElem?_map, hf]; rfl
      have HM' : Hid (Mk w TB S (k + 1) (wr.setCell ⟨TB, k, none⟩ (.bool (rchB how f b en)))) := HM.out.set HTB.out HB.out
      obtain ⟨b0, hb0⟩ : ∃ b0, (fst S k)[k]? = some b0 := ⟨_, List.getElem?_eq_getElem (by rw [fst_len, HSl.out]; exact hkN)⟩
      have ct := HM.out.told.cell1 k _ (bls_get hb0)
      have ctf := HM.out.told.frozen k
      rw [← hTB.out] at ct ctf HM'
      clear HM HB hf hat hb0
      have HC1 := fun w => rcmp_any how f.la.u b w
      have HC2 := fun w => rcmp_any how f.sm.u en w
      unfold rchB at HM'
      generalize cmpH how f.la.u b = A at *
      generalize cmpH how f.sm.u en = B at *
      by_cases hA : 0 ≤ A
      · have hda : decide (0 ≤ A) = true := by simp [hA]
        rw [hda, Bool.true_and] at HM'
        go_wp2_with (first
          | (have hq := HC1; clear hq; go_at_call 69; refine (HC1 _).mono ?_; rintro e w' ⟨rfl, rfl⟩; clear HC1)
          | (go_at_call 69; refine (HC2 _).mono ?_; rintro e w' ⟨rfl, rfl⟩))
        go_roundw
        case rel => exact ⟨k + 1, by omega, by go_num, by rw [← hTB.out]; exact HM'.out⟩
        case measure => simp [intOf]; omega
      · have hda : decide (0 ≤ A) = false := by simp [hA]
        have hA' : A < 0 := by omega
        rw [hda, Bool.false_and] at HM'
        go_wp2_with (go_at_call 69; refine (HC1 _).mono ?_; rintro e w' ⟨rfl, rfl⟩)
        go_roundw
        case rel => exact ⟨k + 1, by omega, by go_num, by rw [← hTB.out]; exact HM'.out⟩
        case measure => simp [intOf]; omega
    · obtain rfl : N = k := by omega
      have hz : ¬ ((N : Int) < N) := by omega
      have hTd : Blk wr TB 4 (bls S) := by
        have := HM.out.told
        rwa [show N = S.length from HSl.out.symm, fst_all] at this
      have HC0 : Hid (Cl w TB how l S S wr ∧ (lv ≠ 0 → S = T)) := ⟨⟨hTd, HM.out.bel, Rc.start (by rw [HSl.out, hN.out])⟩, fun h0 => by rw [← hT.out, ← hS.out]; unfold ovT; rw [if_neg h0]⟩
      clear HM hTd hz
      go_wp2_with fail
      go_loopw [15] (fun v wr => ∃ (T1 : List Bool) (ag : Bool), v = .bool ag ∧ Hid (Cl w TB how l S T1 wr ∧ (ag = false → T1 = T) ∧ (ag = true → lv = 0))) (fun v wr => nf wr TB + bN v)
      case atStart => exact ⟨S, _, rfl, HC0.out.1, (fun e => HC0.out.2 (by rintro rfl; simp at e)), (fun e => by simpa using e)⟩
      case round =>
        clear HC0
        obtain ⟨T1, ag, rfl, HO⟩ := hrel
        cases ag
        · have HP0 : Hid (Pk w TB l T 0 (wr.alloc (.cells #[] 50)) (.slice (some ⟨wr.heap.size, 0, none⟩) 0 0)) := by
            have h1 := HO.out.1
            have h2 := HO.out.2.1 rfl
            subst h2
            exact ⟨h1.told.alloc _, h1.bel.alloc h1.bel.size _, World.ownsRow_made (base := w.heap.size) (e := 50) (size := 10) wr #[] 0 h1.bel.size (by unfold maxLen; omega) rfl⟩
          clear HO
          go_wp2_with fail
          go_loopw [18, 19] (fun v i wr => ∃ k : Nat, k ≤ N ∧ i = .int .i64 k ∧ Hid (Pk w TB l T k wr v)) (fun _ i _ => ((N : Int) - intOf i).toNat)
          case atStart => exact ⟨0, Nat.zero_le _, rfl, HP0⟩
          case round =>
            clear HP0
            obtain ⟨k, hk, rfl, HP⟩ := hrel
            rcases Nat.lt_or_ge k N with hkN | hkN
            · have hkz : (k : Int) < (N : Int) := by omega
              obtain ⟨f, hf⟩ : ∃ f, l[k]? = some f := ⟨_, List.getElem?_eq_getElem (by rw [hN.out]; exact hkN)⟩
              obtain ⟨bb, hbb⟩ : ∃ bb, T[k]? = some bb := ⟨_, List.getElem?_eq_getElem (by rw [HTl.out]; exact hkN)⟩
              have hD : Hid (T.getD k false = bb) := by show _ = bb; rw [List.getD_eq_getElem?_getD, hbb]; rfl
              have ct := HP.out.told.cell1 k _ (bls_get hbb)
              rw [← hTB.out] at ct
              obtain ⟨ga, oa, e', hat⟩ := (HR.out.below HP.out.bel).at_ hf
              subst e'
              obtain ⟨t0, t1, t2, t3, t4, t5, t6, t7, t8, t9⟩ := hat.f
              have HF : Hid (l[k]? = some f) := hf
              clear hf hbb hat
              cases bb
              · have HP' : Hid (Pk w TB l T (k + 1) wr u18) := HP.out.skip hD.out
                clear HP hD
                go_wp2_with fail
                go_roundw
                case rel => exact ⟨k + 1, by omega, by go_num, HP'⟩
                case measure => simp [intOf]; omega
              · have HPa := HP.out.alloc (.cells f.c.toArray 50)
                have hpl := pick_len l T k
                have hbk := Blk.new wr 50 f.c
                have hbw := HPa.bel.size
                obtain ⟨v', w', hr', hq', hu', ho', hn'⟩ := push_g (P := Try.prog) fi_k fi_1 Try.underlying38 info50 rfl (by decide) HPa.row hbw hbk 38 (by omega) (by unfold maxLen; omega)
                have HP' : Hid (Pk w TB l T (k + 1) w' v') := HPa.push hD.out HF.out hq' hu'
                clear HP hD HPa hpl hbk hbw hq' hu' ho' hn'
                go_wp2_with (at_builtin; refine Lib.wpList_append_run _ rfl _ _ _ _ rfl _ _ rfl rfl _ _ hr' ?_)
                go_roundw
                case rel => exact ⟨k + 1, by omega, by go_num, HP'⟩
                case measure => simp [intOf]; omega
            · obtain rfl : k = N := by omega
              have hz : ¬ ((k : Int) < k) := by omega
              go_wp2_with fail
              go_ret2
              refine ⟨_, rfl, HP.out.bel, ?_⟩
              have := HP.out.row
              rw [hT.out, hN.out]
              exact this
        · have HO1 : Hid (Cl w TB how l S T1 wr ∧ lv = 0) := ⟨HO.out.1, HO.out.2.2 rfl⟩
          have HNf : Hid (nf wr TB = cF T1) := nf_blk HO.out.1.told
          clear HO
          go_wp2_with fail
          go_loopw [15, 16] (fun v i wr => ∃ (T2 : List Bool) (ag : Bool) (k : Nat), k ≤ N ∧ i = .int .i64 k ∧ v = .bool ag ∧ Hid (Cl w TB how l S T2 wr ∧ Ps how l T1 T2 ag k)) (fun _ i _ => ((N : Int) - intOf i).toNat)
          case atStart => exact ⟨T1, false, 0, Nat.zero_le _, rfl, rfl, HO1.out.1, (fun _ => ⟨rfl, fun i h => absurd h (Nat.not_lt_zero _)⟩), (fun e => by cases e)⟩
          case round =>
            obtain ⟨T2, ag, k, hk, rfl, rfl, HM⟩ := hrel
            rcases Nat.lt_or_ge k N with hkN | hkN
            · have hkz : (k : Int) < (N : Int) := by omega
              go_wp2_with fail
              go_loopw [15, 17] (fun v i wr => ∃ (T3 : List Bool) (ag : Bool) (q : Nat), q ≤ N ∧ i = .int .i64 q ∧ v = .bool ag ∧ Hid (Cl w TB how l S T3 wr ∧ Pj how l T1 T3 ag k q)) (fun _ i _ => ((N : Int) - intOf i).toNat)
              case atStart => exact ⟨T2, ag, 0, Nat.zero_le _, rfl, rfl, HM.out.1, HM.out.2, fun _ _ j h => absurd h (Nat.not_lt_zero _)⟩
              case round =>
                clear HM
                obtain ⟨T3, ag, q, hq, rfl, rfl, HI⟩ := hrel
                have HL3 : Hid (T3.length = N) := by show _ = _; rw [HI.out.1.rc.len, HSl.out]
                obtain ⟨bi, hbi⟩ : ∃ bi, T3[k]? = some bi := ⟨_, List.getElem?_eq_getElem (by rw [HL3.out]; exact hkN)⟩
                have HBi : Hid (T3[k]? = some bi ∧ T3.getD k false = bi) := ⟨hbi, by rw [List.getD_eq_getElem?_getD, hbi]; rfl⟩
                have ct := HI.out.1.told.cell1 k _ (bls_get hbi)
                have ctf := HI.out.1.told.frozen k
                rw [← hTB.out] at ct ctf
                clear hbi
                rcases Nat.lt_or_ge q N with hqN | hqN
                · have hqz : (q : Int) < (N : Int) := by omega
                  cases bi
                  · obtain ⟨bq, hbq⟩ : ∃ bq, T3[q]? = some bq := ⟨_, List.getElem?_eq_getElem (by rw [HL3.out]; exact hqN)⟩
                    have HBq : Hid (T3.getD q false = bq) := by show _ = bq; rw [List.getD_eq_getElem?_getD, hbq]; rfl
                    have cq := HI.out.1.told.cell1 q _ (bls_get hbq)
                    rw [← hTB.out] at cq
                    clear hbq
                    cases bq
                    · have HJ : Hid ((∀ n, Cl w TB how l S T3 (wr.drewN n)) ∧ Pj how l T1 T3 ag k (q + 1)) := ⟨fun n => HI.out.1.drewN n, HI.out.2.next (fun e => by rw [HBq.out] at e; cases e)⟩
                      clear HI
                      go_wp2_with fail
                      go_quiet ((go_at_call 69; exact Calls.quiet_of_same (rcmp_any _ _ _ _)))
                      go_wp2_with fail
                      go_roundw
                      case rel => exact ⟨T3, ag, q + 1, by omega, by go_num, rfl, HJ.out.1 _, HJ.out.2⟩
                      case measure => simp [intOf]; omega
                    · obtain ⟨f, hf⟩ : ∃ f, l[k]? = some f := ⟨_, List.getElem?_eq_getElem (by rw [hN.out]; exact hkN)⟩
                      obtain ⟨f2, hf2⟩ : ∃ f2, l[q]? = some f2 := ⟨_, List.getElem?_eq_getElem (by rw [hN.out]; exact hqN)⟩
                      obtain ⟨ga, oa, e', hat⟩ := (HR.out.below HI.out.1.bel).at_ hf
                      subst e'
                      obtain ⟨gb, ob, e', hat2⟩ := (HR.out.below HI.out.1.bel).at_ hf2
                      cases e'
                      obtain ⟨t0, t1, t2, t3, t4, t5, t6, t7, t8, t9⟩ := hat.f
                      obtain ⟨y0, y1, y2, y3, y4, y5, y6, y7, y8, y9⟩ := hat2.f
                      have HOv : Hid (ovr how l q k = (decide (0 ≤ cmpH how f.la.u f2.sm.u) && decide (cmpH how f.sm.u f2.la.u ≤ 0))) := by
                        show _ = _
                        unfold ovr rchB
                        simp only [List.getD_eq_getElem?_getD, hf, hf2, Option.getD_some]
                      have hkl : Hid (k < l.length) := by show _ < _; rw [hN.out]; exact hkN
                      clear hf hf2 hat hat2
                      by_cases hA : 0 ≤ cmpH how f.la.u f2.sm.u
                      · have hda : decide (0 ≤ cmpH how f.la.u f2.sm.u) = true := by simp [hA]
                        by_cases hB : cmpH how f.sm.u f2.la.u ≤ 0
                        · have hdb : decide (cmpH how f.sm.u f2.la.u ≤ 0) = true := by simp [hB]
                          have HJ : Hid ((∀ n, Cl w TB how l S (T3.set k true) ((wr.drewN n).setCell ⟨TB, k, none⟩ (.bool true))) ∧ Pj how l T1 (T3.set k true) true k (q + 1)) := ⟨fun n => (HI.out.1.drewN n).set HTB.out hkl.out HBq.out (by rw [HOv.out, hda, hdb]; rfl), HI.out.2.set HBi.out.1⟩
                          rw [← hTB.out] at HJ
                          clear HI HOv
                          go_wp2_with fail
                          go_quiet ((go_at_call 69; exact Calls.quiet_of_same (rcmp_any _ _ _ _)))
                          go_wp2_with fail
                          go_roundw
                          case rel => exact ⟨T3.set k true, true, q + 1, by omega, by go_num, rfl, by rw [← hTB.out]; exact HJ.out.1 _, HJ.out.2⟩
                          case measure => simp [intOf]; omega
                        · have hdb : decide (cmpH how f.sm.u f2.la.u ≤ 0) = false := by simp [hB]
                          have HJ : Hid ((∀ n, Cl w TB how l S T3 (wr.drewN n)) ∧ Pj how l T1 T3 ag k (q + 1)) := ⟨fun n => HI.out.1.drewN n, HI.out.2.next (fun _ => by rw [HOv.out, hdb]; simp)⟩
                          clear HI HOv hB
                          go_wp2_with fail
                          go_quiet ((go_at_call 69; exact Calls.quiet_of_same (rcmp_any _ _ _ _)))
                          go_wp2_with fail
                          go_roundw
                          case rel => exact ⟨T3, ag, q + 1, by omega, by go_num, rfl, HJ.out.1 _, HJ.out.2⟩
                          case measure => simp [intOf]; omega
                      · have hda : decide (0 ≤ cmpH how f.la.u f2.sm.u) = false := by simp [hA]
                        have HJ : Hid ((∀ n, Cl w TB how l S T3 (wr.drewN n)) ∧ Pj how l T1 T3 ag k (q + 1)) := ⟨fun n => HI.out.1.drewN n, HI.out.2.next (fun _ => by rw [HOv.out, hda]; rfl)⟩
                        clear HI HOv hA
                        go_wp2_with fail
                        go_quiet ((go_at_call 69; exact Calls.quiet_of_same (rcmp_any _ _ _ _)))
                        go_wp2_with fail
                        go_roundw
                        case rel => exact ⟨T3, ag, q + 1, by omega, by go_num, rfl, HJ.out.1 _, HJ.out.2⟩
                        case measure => simp [intOf]; omega
                  · have HPs : Hid (Cl w TB how l S T3 wr ∧ Ps how l T1 T3 ag (k + 1)) := ⟨HI.out.1, HI.out.2.done (.inl HBi.out.2)⟩
                    clear HI
                    go_wp2_with fail
                    go_roundw
                    case rel => exact ⟨T3, ag, k + 1, by omega, by go_num, rfl, HPs⟩
                    case measure => simp [intOf]; omega
                · obtain rfl : q = N := by omega
                  have hz : ¬ ((q : Int) < q) := by omega
                  have hdz : decide ((q : Int) < q) = false := by simp
                  have HPs : Hid (Cl w TB how l S T3 wr ∧ Ps how l T1 T3 ag (k + 1)) := ⟨HI.out.1, HI.out.2.done (.inr (by rw [hN.out]; exact Nat.le_refl _))⟩
                  clear HI
                  go_wp2_with fail
                  go_roundw
                  case rel => exact ⟨T3, ag, k + 1, by omega, by go_num, rfl, HPs⟩
                  case measure => simp [intOf]; omega
            · obtain rfl : N = k := by omega
              have hz : ¬ ((N : Int) < N) := by omega
              have HX : Hid (Cl w TB how l S T2 wr ∧ (ag = false → T2 = T) ∧ (ag = true → lv = 0) ∧ nf wr TB + bN (.bool ag) < cF T1 + 1) := by
                have h1 := HM.out.1
                have h2 := HM.out.2
                refine ⟨h1, fun e => ?_, fun _ => HO1.out.2, ?_⟩
                · have h3 := (h2.no e).2
                  rw [h1.rc.least (fun i hi hf j hj ht => h3 i (by rw [hN.out] at hi; exact hi) hf j hj ht)]
                  rw [← hT.out, ← hS.out]; unfold ovT; rw [if_pos HO1.out.2]
                · rw [nf_blk h1.told]
                  cases ag
                  · rw [(h2.no rfl).1]; simp [bN]
                  · have := h2.yes rfl; simp [bN]; omega
              clear HM
              go_wp2_with fail
              go_roundw
              case rel => exact ⟨T2, ag, rfl, HX.out.1, HX.out.2.1, HX.out.2.2.1⟩
              case measure =>
                show _ < nf _ TB + 1
                rw [HNf.out]; exact HX.out.2.2.2
end Go.Proofs.Ytkmpcheamdadcaa
