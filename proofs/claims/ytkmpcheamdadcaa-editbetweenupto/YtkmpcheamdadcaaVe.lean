/-
  Check.
-/
import Derived.Test.YtkmpcheamdadcaaVd
import Derived.Deep.RegionHeldLaw
import Derived.Deep.RegionWith
import Derived.BigQuiet
namespace Go.Proofs.Ytkmpcheamdadcaa
open Go.RowKit
set_option linter.unusedVariables false
set_option linter.unusedSimpArgs false
theorem belN {b : Nat} {w W : World} (h : Below b w W) (n : Nat) : Below b w (W.drewN n) := ⟨h.os, h.tape, h.output, h.size, h.block⟩
/-- The box of a table. -/
theorem box_new (w : World) (f : Fi) : Blk (w.alloc f.o) w.heap.size 50 f.c := Blk.new w 50 f.c
theorem ver7 {w w2 : World} {t : TypeId} {V : Vn} {L : Nat → List Fi} (hb : Below (w.alloc (.cells (verA V L) t)).heap.size (w.alloc (.cells (verA V L) t)) w2) :
    w2.cell? ⟨w.heap.size, 0, none⟩ = some (vsl V L 0) ∧ w2.cell? ⟨w.heap.size, 1, none⟩ = some (vsl V L 1) ∧ w2.cell? ⟨w.heap.size, 2, none⟩ = some (vsl V L 2) ∧ w2.cell? ⟨w.heap.size, 3, none⟩ = some (vsl V L 3) ∧
    w2.cell? ⟨w.heap.size, 4, none⟩ = some (vsl V L 4) ∧ w2.cell? ⟨w.heap.size, 5, none⟩ = some (vsl V L 5) ∧ w2.cell? ⟨w.heap.size, 6, none⟩ = some (vsl V L 6) ∧ w.heap.size < w2.heap.size := by
  have hs : w.heap.size < (w.alloc (.cells (verA V L) t)).heap.size := by simp
  have hg : w2.heap[w.heap.size]? = some (.cells (verA V L) t (0, 0)) := (hb.block _ hs).trans (heap_alloc_new w _)
  exact ⟨ver_box hg 0 (by decide), ver_box hg 1 (by decide), ver_box hg 2 (by decide), ver_box hg 3 (by decide), ver_box hg 4 (by decide), ver_box hg 5 (by decide), ver_box hg 6 (by decide), Nat.lt_of_lt_of_le hs hb.size⟩
set_option maxRecDepth 100000 in
set_option maxHeartbeats 2000000 in
theorem check_any {w : World} {V : Vn} {L : Nat → List Fi} (h : RdV w V L) (how : Int) : Calls Try.prog 21 #[.int .i64 how, .agg (verA V L)] w fun e w' => e = .returned (.int .i64 (chkE how L)) ∧ Below w.heap.size w w' := by
  have hmk : ∀ w : World, (Instr.makeMap 96 none).run Try.prog w = .ok (.map (some w.heap.size)) (w.alloc (.map #[] 0)) := fun w => @run_makeMap Try.prog _ _
  have HX : Hid (∀ k : Nat, k < 7 → ∀ w, (Instr.index 39 (.agg (verA V L)) (.int .i64 k)).run Try.prog w = .ok (vsl V L k) w) := fun k hk w => ver_index V L k hk w
  have HV : Hid (RdV w V L) := h
  have H54 : Hid (∀ W, Below w.heap.size w W → Calls Try.prog 54 #[.agg (verA V L)] W fun e w' => e = .returned (.int .i64 (cntV L 7)) ∧ Below W.heap.size W w') := fun W hb => count_any (HV.out.below hb)
  have HLn : Hid (∀ k, k < 7 → cntV L k + (L k).length ≤ cntV L 7) := by
    have hm : ∀ m k, cntV L k ≤ cntV L (k + m) := fun m => by
      induction m with
      | zero => intro k; exact Nat.le_refl _
      | succ m ih => intro k; have := ih k; show _ ≤ cntV L (k + m) + _; omega
    intro k hk
    show cntV L (k + 1) ≤ _
    have := hm (7 - (k + 1)) (k + 1)
    rwa [show k + 1 + (7 - (k + 1)) = 7 by omega] at this
  have hcz : (cntV L 7 : Int) ≤ 10262109105914 := by have := cnt_le h 7 (Nat.le_refl _); omega
  obtain ⟨RES, hRES⟩ : ∃ RES, Hid (chkE how L = RES) := ⟨_, rfl⟩
  rw [hRES.out]
  clear h
  cases hhow : isHowB how
  · have e : RES = 1 := by rw [← hRES.out]; unfold chkE; simp [hhow]
    subst e
    clear hRES
    go_enter Try.func21, Try.ntmps21
    go_wp2_with (go_at_call 53; refine (ishow_any _ _).mono ?_; rintro e w1 ⟨rfl, rfl⟩; rw [hhow])
    go_ret
    exact ⟨rfl, al1 _ _⟩
  · by_cases hc : 1024 < cntV L 7
    · have e : RES = 2 := by rw [← hRES.out]; unfold chkE; simp [hhow, hc]
      subst e
      clear hRES
      have hc' : (1024 : Int) < (cntV L 7 : Int) := by omega
      go_enter Try.func21, Try.ntmps21
      go_wp2_with (first
        | (go_at_call 53; refine (ishow_any _ _).mono ?_; rintro e w1 ⟨rfl, rfl⟩; rw [hhow])
        | (go_at_call 54; refine (H54.out _ (al1 _ _)).mono ?_; rintro e w2 ⟨rfl, hb2⟩))
      go_ret
      exact ⟨rfl, bstep (al1 _ _) hb2⟩
    · have e : Hid (RES = runL how L 7 0 []) := by show _ = _; rw [← hRES.out]; unfold chkE; simp [hhow, hc]
      have hc' : (cntV L 7 : Int) ≤ 1024 := by omega
      have HC : Hid (cntV L 7 ≤ 1024) := by show _ ≤ _; omega
      clear hRES hc hcz
      go_enter Try.func21, Try.ntmps21
      go_wp2_with (first
        | (go_at_call 53; refine (ishow_any _ _).mono ?_; rintro e w1 ⟨rfl, rfl⟩; rw [hhow])
        | (go_at_call 54; refine (H54.out _ (al1 _ _)).mono ?_; rintro e w2 ⟨rfl, hb2⟩; have B2 := bstep (al1 _ _) hb2; obtain ⟨x0, x1, x2, x3, x4, x5, x6, lx⟩ := ver7 hb2))
      have HM0 : Hid (US (w2.alloc (.map #[] 0)) w2.heap.size []) := US.made w2
      have HB0 : Hid (Below w.heap.size w (w2.alloc (.map #[] 0))) := bstep B2 (al1 _ _)
      have hMl : w.heap.size ≤ w2.heap.size := by omega
      clear x0 x1 x2 x3 x4 x5 x6 hb2 B2 lx
      generalize w2.heap.size = M at *
      go_loopw [22] (fun i wr => ∃ (k : Nat) (s : List Int), k ≤ 7 ∧ i = .int .i64 k ∧ Hid (RES = runL how L (7 - k) k s) ∧ Hid (s.length = cntV L k) ∧ Hid (US wr M s) ∧ Hid (Below w.heap.size w wr)) (fun i _ => 7 - (intOf i).toNat)
      case atStart => exact ⟨0, [], by omega, rfl, e.out, rfl, HM0.out, HB0.out⟩
      case round =>
        clear e HM0 HB0
        obtain ⟨k, s, hk, rfl, HR, HSn, HU, HB⟩ := hrel
        by_cases hlt : k < 7
        · have hx : ∀ w, (Instr.index 39 (.agg (verA V L)) (.int .i64 k)).run Try.prog w = .ok (.slice (V.a k) (L k).length (V.c k)) w := HX.out k hlt
          have hkz : (k : Int) < 7 := by omega
          have HR1 : Hid (RES = runC how L (7 - (k + 1)) k none s (L k)) := by
            show _ = _
            rw [HR.out, show 7 - k = (7 - (k + 1)) + 1 by omega, runL_succ]
          have hn1 := HV.out.len k hlt
          have HL1 := HLn.out k hlt
          obtain ⟨l, hl⟩ : ∃ l, Hid (L k = l) := ⟨_, rfl⟩
          have HLk : Hid (cntV L k + l.length ≤ 1024) := by show _ ≤ _; rw [← hl.out]; have := HC.out; omega
          have HRl : Hid (RdF w (V.a k) l) := by show RdF _ _ _; rw [← hl.out]; exact HV.out.rd k hlt
          have HOk : Hid (∀ f ∈ l, FOk f) := by show ∀ f ∈ l, _; rw [← hl.out]; exact HV.out.ok k hlt
          have HCk : Hid (cntV L (k + 1) = cntV L k + l.length) := by show _ = _; rw [← hl.out]; rfl
          rw [hl.out] at hx hn1 HR1
          obtain ⟨n, hn⟩ : ∃ n, Hid (l.length = n) := ⟨_, rfl⟩
          rw [hn.out] at hx hn1
          have hnz : (n : Int) ≤ 1024 := by have := HLk.out; rw [hn.out] at this; omega
          obtain ⟨W0, rfl⟩ : ∃ W0, W0 = wr := ⟨_, rfl⟩
          clear HL1
          go_wp2
          go_loopw [28] (fun i wr => ∃ (q : Nat) (s : List Int), q ≤ n ∧ i = .int .i64 q ∧ Hid (RES = runC how L (7 - (k + 1)) k (prv l q) s (l.drop q)) ∧ Hid (s.length = cntV L k + q) ∧ Hid (US wr M s) ∧ Hid (Below w.heap.size w wr)) (fun i _ => (n : Int).toNat - (intOf i).toNat)
          case atStart => exact ⟨0, s, Nat.zero_le _, rfl, HR1.out, HSn.out, HU.out, HB.out⟩
          case round =>
            clear HR HSn HU HB HR1 s
            obtain ⟨q, s, hq, rfl, HR, HSn, HU, HB⟩ := hrel
            by_cases hql : q < n
            · have hqz : (q : Int) < (n : Int) := by omega
              obtain ⟨f, hf⟩ : ∃ f, l[q]? = some f := ⟨_, List.getElem?_eq_getElem (by rw [hn.out]; exact hql)⟩
              have hok := HOk.out f (List.mem_of_getElem? hf)
              obtain ⟨g, o, hg, hat⟩ := (HRl.out.below HB.out).at_ hf
              rw [hg]
              have HG : Hid (V.a k = some ⟨g, o, none⟩) := hg
              obtain ⟨y0, y1, y2, y3, y4, y5, y6, y7, y8, y9⟩ := hat.f
              have HF : Hid (l[q]? = some f) := hf
              have HD : Hid (RES = runC how L (7 - (k + 1)) k (prv l q) s (f :: l.drop (q + 1))) := by show _ = _; rw [HR.out, drop_get hf]
              have hMw : M < wr.heap.size := HU.out.lt
              have HOf : Hid (FOk f) := hok
              have hsl : Hid (s.length < maxLen) := by show _ < _; rw [HSn.out]; have := HLk.out; rw [hn.out] at this; unfold maxLen; omega
              have HBa : Hid (Below w.heap.size w (wr.alloc f.o)) := bstep HB.out (al1 _ _)
              clear hf hat hok hg HR
              by_cases hA : fchk f = 0
              · have hA' : (fchk f != 0) = false := by simp [hA]
                by_cases hin : f.num ∈ s
                · have hres : Hid (RES = 7) := by
                    show _ = _
                    rw [HD.out]; exact (runC_bad (by unfold badF; rw [if_neg (by simp [hA]), if_pos hin]; decide)).trans (by unfold badF; rw [if_neg (by simp [hA]), if_pos hin])
                  have hdi : decide (f.num ∈ s) = true := by simp [hin]
                  clear HD hin
                  go_wp2_with (go_at_call 55; refine (ckeys_any f _).mono ?_; rintro e w3 ⟨rfl, hb3⟩
                               have X3 : Blk w3 wr.heap.size 50 f.c := (box_new wr f).upd (S := Non) (Upd.ofBelow hb3) (fun h => h)
                               have z0 := X3.cell1 0 _ rfl
                               have lz := X3.lt
                               have hlk := ((HU.out.upd (S := Non) ((Upd.refl _ _).alloc f.o) (fun h => h)).below hb3).look HOf.out.num
                               rw [hdi] at hlk)
                  go_ret
                  exact ⟨ret_ii hres.out.symm, bstep (bstep HBa.out hb3) (al1 _ _)⟩
                · have hdi : decide (f.num ∈ s) = false := by simp [hin]
                  have HO := fun w => cord_any how f.sm.u f.sm.s f.sm.k f.la.u f.la.s f.la.k w
                  obtain ⟨O, hO⟩ : ∃ O, Hid (ordF how f.sm f.la = O) := ⟨_, rfl⟩
                  have hO' : ordK how f.sm.u f.sm.s f.sm.k f.la.u f.la.s f.la.k = O := hO.out
                  rw [hO'] at HO
                  clear hO'
                  by_cases hOp : 0 < O
                  · have hres : Hid (RES = 1) := by
                      have hb : badF how k (prv l q) s f = 1 := by unfold badF; rw [if_neg (by simp [hA]), if_neg hin, if_pos (by rw [hO.out]; exact hOp)]
                      show _ = _
                      rw [HD.out]; exact (runC_bad (by rw [hb]; decide)).trans hb
                    clear HD hin
                    go_wp2_with (first
                      | (go_at_call 55; refine (ckeys_any f _).mono ?_; rintro e w3 ⟨rfl, hb3⟩
                         have X3 : Blk w3 wr.heap.size 50 f.c := (box_new wr f).upd (S := Non) (Upd.ofBelow hb3) (fun h => h)
                         have z0 := X3.cell1 0 _ rfl
                         have lz := X3.lt
                         have U3 := (HU.out.upd (S := Non) ((Upd.refl _ _).alloc f.o) (fun h => h)).below hb3
                         have hlk := U3.look HOf.out.num
                         rw [hdi] at hlk
                         obtain ⟨w5, hst, U5, hg5⟩ := (U3.upd (S := Non) ((Upd.refl _ _).alloc (.cells #[] 98)) (fun h => h)).store hsl.out HOf.out.num
                         have X5 : Blk w5 wr.heap.size 50 f.c := (X3.alloc (.cells #[] 98)).upd (S := fun k => k = M) ((Upd.refl _ _).grown hg5 (fun j hj _ => by cases hj; rfl)) (fun e => by omega)
                         have q2 := X5.cell1 2 _ rfl
                         have q3 := X5.cell1 3 _ rfl
                         have q4 := X5.cell1 4 _ rfl
                         have q5 := X5.cell1 5 _ rfl
                         have q6 := X5.cell1 6 _ rfl
                         have q7 := X5.cell1 7 _ rfl
                         have lq := X5.lt
                         have HB5 : Hid (Below w.heap.size w w5) := (bstep (bstep HBa.out hb3) (al1 _ (.cells #[] 98))).grown hg5 (bstep (bstep HBa.out hb3) (al1 _ (.cells #[] 98))).size (fun j hj => by cases hj; exact hMl)
                         clear U3 U5 X3 X5 hg5)
                      | (go_at_call 56; refine (HO _).mono ?_; rintro e w6 ⟨rfl, rfl⟩))
                    go_ret
                    exact ⟨ret_ii hres.out.symm, bstep (bstep HB5.out (al1 _ _)) (al1 _ _)⟩
                  · have hOz : O ≤ 0 := by omega
                    have hOn : ¬ 0 < O := hOp
                    have HSl : Hid ((s ++ [f.num]).length = cntV L k + (q + 1)) := by show _ = _; have := HSn.out; simp; omega
                    rcases Nat.eq_zero_or_pos q with hq0 | hq0
                    · have hb : badF how k (prv l q) s f = 0 := by unfold badF; rw [if_neg (by simp [hA]), if_neg hin, if_neg (by rw [hO.out]; exact hOp), hq0]; rfl
                      have HRn : Hid (RES = runC how L (7 - (k + 1)) k (prv l (q + 1)) (s ++ [f.num]) (l.drop (q + 1))) := by
                        show _ = _
                        rw [HD.out, runC_good hb, prv_succ HF.out]
                      have hkp : ¬ (0 : Int) < q := by omega
                      have hkd : decide ((0 : Int) < (q : Int)) = false := by simpa using hkp
                      have hkd2 : decide (0 < q) = false := by simp; omega
                      clear HD hin hb hOp hq0
                      go_wp2_with (first
                        | (go_at_call 55; refine (ckeys_any f _).mono ?_; rintro e w3 ⟨rfl, hb3⟩
                           have X3 : Blk w3 wr.heap.size 50 f.c := (box_new wr f).upd (S := Non) (Upd.ofBelow hb3) (fun h => h)
                           have z0 := X3.cell1 0 _ rfl
                           have lz := X3.lt
                           have U3 := (HU.out.upd (S := Non) ((Upd.refl _ _).alloc f.o) (fun h => h)).below hb3
                           have hlk := U3.look HOf.out.num
                           rw [hdi] at hlk
                           obtain ⟨w5, hst, U5, hg5⟩ := (U3.upd (S := Non) ((Upd.refl _ _).alloc (.cells #[] 98)) (fun h => h)).store hsl.out HOf.out.num
                           have X5 : Blk w5 wr.heap.size 50 f.c := (X3.alloc (.cells #[] 98)).upd (S := fun k => k = M) ((Upd.refl _ _).grown hg5 (fun j hj _ => by cases hj; rfl)) (fun e => by omega)
                           have q2 := X5.cell1 2 _ rfl
                           have q3 := X5.cell1 3 _ rfl
                           have q4 := X5.cell1 4 _ rfl
                           have q5 := X5.cell1 5 _ rfl
                           have q6 := X5.cell1 6 _ rfl
                           have q7 := X5.cell1 7 _ rfl
                           have lq := X5.lt
                           have HB5 : Hid (Below w.heap.size w w5) := (bstep (bstep HBa.out hb3) (al1 _ (.cells #[] 98))).grown hg5 (bstep (bstep HBa.out hb3) (al1 _ (.cells #[] 98))).size (fun j hj => by cases hj; exact hMl)
                           have HU5 : Hid (US w5 M (s ++ [f.num])) := U5
                           have HX5 : Hid (Blk w5 wr.heap.size 50 f.c) := X5
                           clear U3 U5 X3 X5 hg5)
                        | (go_at_call 56; refine (HO _).mono ?_; rintro e w6 ⟨rfl, rfl⟩))
                      first | go_quiet (fail) | go_big_quiet (fail)
                      go_wp2
                      go_roundw
                      case rel =>
                        refine ⟨q + 1, s ++ [f.num], by omega, by go_num, HRn.out, HSl.out, ?_, ?_⟩
                        · exact HU5.out.below (belN (bstep (al1 _ _) (al1 _ _)) _)
                        · exact belN (bstep (bstep HB5.out (al1 _ _)) (al1 _ _)) _
                      case measure => simp [intOf]; omega
                    · obtain ⟨j, hj⟩ : ∃ j, q = j + 1 := ⟨q - 1, by omega⟩
                      obtain ⟨a, ha⟩ : ∃ a, l[j]? = some a := ⟨_, List.getElem?_eq_getElem (by rw [hn.out]; omega)⟩
                      have hpv : prv l q = some a := by rw [hj]; exact prv_succ ha
                      have HRa : Hid (∀ W, Below w.heap.size w W → F10 W g (o + j * 10) a) := fun W hb => by
                        obtain ⟨g', o', e', hat'⟩ := (HRl.out.below hb).at_ ha
                        rw [HG.out] at e'
                        cases e'
                        exact hat'.f
                      have HFo := fun W => follows_any how k hlt a f W
                      have hkp : (0 : Int) < q := by omega
                      have hkd : decide ((0 : Int) < (q : Int)) = true := by simpa using hkp
                      have hkd2 : decide (0 < q) = true := by simp; omega
                      have hjz : (q : Int) - 1 = j := by omega
                      have hwj : IntKind.i64.wrap (j : Int) = j := by rw [IntKind.wrap_i64]; omega
                      have hwk : IntKind.i64.wrap ((q : Int) - 1) = j := by rw [IntKind.wrap_i64]; omega
                      have hjn : (j : Int) < n := by omega
                      cases hfb : folB how k a f
                      · have hb : badF how k (prv l q) s f = 130 := by unfold badF; rw [if_neg (by simp [hA]), if_neg hin, if_neg (by rw [hO.out]; exact hOp), hpv]; simp [hfb]
                        have hres : Hid (RES = 130) := by
                          show _ = _
                          rw [HD.out]; exact (runC_bad (by rw [hb]; decide)).trans hb
                        rw [hfb] at HFo
                        clear HD hin hb hOp hq0 hj ha hpv hfb
                        go_wp2_with (first
                          | (go_at_call 55; refine (ckeys_any f _).mono ?_; rintro e w3 ⟨rfl, hb3⟩
                             have X3 : Blk w3 wr.heap.size 50 f.c := (box_new wr f).upd (S := Non) (Upd.ofBelow hb3) (fun h => h)
                             have z0 := X3.cell1 0 _ rfl
                             have lz := X3.lt
                             have U3 := (HU.out.upd (S := Non) ((Upd.refl _ _).alloc f.o) (fun h => h)).below hb3
                             have hlk := U3.look HOf.out.num
                             rw [hdi] at hlk
                             obtain ⟨w5, hst, U5, hg5⟩ := (U3.upd (S := Non) ((Upd.refl _ _).alloc (.cells #[] 98)) (fun h => h)).store hsl.out HOf.out.num
                             have X5 : Blk w5 wr.heap.size 50 f.c := (X3.alloc (.cells #[] 98)).upd (S := fun k => k = M) ((Upd.refl _ _).grown hg5 (fun j hj _ => by cases hj; rfl)) (fun e => by omega)
                             have q2 := X5.cell1 2 _ rfl
                             have q3 := X5.cell1 3 _ rfl
                             have q4 := X5.cell1 4 _ rfl
                             have q5 := X5.cell1 5 _ rfl
                             have q6 := X5.cell1 6 _ rfl
                             have q7 := X5.cell1 7 _ rfl
                             have lq := X5.lt
                             have HB5 : Hid (Below w.heap.size w w5) := (bstep (bstep HBa.out hb3) (al1 _ (.cells #[] 98))).grown hg5 (bstep (bstep HBa.out hb3) (al1 _ (.cells #[] 98))).size (fun j hj => by cases hj; exact hMl)
                             have HU5 : Hid (US w5 M (s ++ [f.num])) := U5
                             have HX5 : Hid (Blk w5 wr.heap.size 50 f.c) := X5
                             clear U3 U5 X3 X5 hg5)
                          | (go_at_call 56; refine (HO _).mono ?_; rintro e w6 ⟨rfl, rfl⟩))
                        have HB6 : Hid (Below w.heap.size w ((w5.alloc (.cells #[.string f.sm.u, .int .u64 f.sm.s, .int .i64 f.sm.k] 48)).alloc (.cells #[.string f.la.u, .int .u64 f.la.s, .int .i64 f.la.k] 48))) := bstep (bstep HB5.out (al1 _ _)) (al1 _ _)
                        obtain ⟨r0, r1, r2, r3, r4, r5, r6, r7, r8, r9⟩ := HRa.out _ HB6.out
                        have X6 := (HX5.out.alloc (.cells #[.string f.sm.u, .int .u64 f.sm.s, .int .i64 f.sm.k] 48)).alloc (.cells #[.string f.la.u, .int .u64 f.la.s, .int .i64 f.la.k] 48)
                        have p0 := X6.cell1 0 _ rfl
                        have p1 := X6.cell1 1 _ rfl
                        have p2 := X6.cell1 2 _ rfl
                        have p3 := X6.cell1 3 _ rfl
                        have p4 := X6.cell1 4 _ rfl
                        have p5 := X6.cell1 5 _ rfl
                        have p6 := X6.cell1 6 _ rfl
                        have p7 := X6.cell1 7 _ rfl
                        have p8 := X6.cell1 8 _ rfl
                        have p9 := X6.cell1 9 _ rfl
                        have HX6 : Hid (Blk _ wr.heap.size 50 f.c) := X6
                        clear X6
                        go_region_held_law (fun w' => w'.cell? ⟨g, o + j * 10, none⟩ = some (.int .u64 a.num) ∧ w'.cell? ⟨g, o + j * 10 + 1, none⟩ = some (.int .u64 a.size) ∧ w'.cell? ⟨g, o + j * 10 + 2, none⟩ = some (.string a.sm.u) ∧ w'.cell? ⟨g, o + j * 10 + 3, none⟩ = some (.int .u64 a.sm.s) ∧ w'.cell? ⟨g, o + j * 10 + 4, none⟩ = some (.int .i64 a.sm.k) ∧
                            w'.cell? ⟨g, o + j * 10 + 5, none⟩ = some (.string a.la.u) ∧ w'.cell? ⟨g, o + j * 10 + 6, none⟩ = some (.int .u64 a.la.s) ∧ w'.cell? ⟨g, o + j * 10 + 7, none⟩ = some (.int .i64 a.la.k) ∧ w'.cell? ⟨g, o + j * 10 + 8, none⟩ = some (.int .u64 a.ents) ∧ w'.cell? ⟨g, o + j * 10 + 9, none⟩ = some (.int .u64 a.rngs) ∧
                            w'.cell? ⟨wr.heap.size, 0, none⟩ = some (.int .u64 f.num) ∧ w'.cell? ⟨wr.heap.size, 1, none⟩ = some (.int .u64 f.size) ∧ w'.cell? ⟨wr.heap.size, 2, none⟩ = some (.string f.sm.u) ∧ w'.cell? ⟨wr.heap.size, 3, none⟩ = some (.int .u64 f.sm.s) ∧ w'.cell? ⟨wr.heap.size, 4, none⟩ = some (.int .i64 f.sm.k) ∧
                            w'.cell? ⟨wr.heap.size, 5, none⟩ = some (.string f.la.u) ∧ w'.cell? ⟨wr.heap.size, 6, none⟩ = some (.int .u64 f.la.s) ∧ w'.cell? ⟨wr.heap.size, 7, none⟩ = some (.int .i64 f.la.k) ∧ w'.cell? ⟨wr.heap.size, 8, none⟩ = some (.int .u64 f.ents) ∧ w'.cell? ⟨wr.heap.size, 9, none⟩ = some (.int .u64 f.rngs))
                          (first
                            | (go_keep; done)
                            | (obtain ⟨c0, c1, c2, c3, c4, c5, c6, c7, c8, c9⟩ := HRa.out _ (bstep HB6.out.drew hb7)
                               have X7 := HX6.out.drew.upd (S := Non) (Upd.ofBelow hb7) (fun h => h)
                               exact ⟨c0, c1, c2, c3, c4, c5, c6, c7, c8, c9, X7.cell1 0 _ rfl, X7.cell1 1 _ rfl, X7.cell1 2 _ rfl, X7.cell1 3 _ rfl, X7.cell1 4 _ rfl, X7.cell1 5 _ rfl, X7.cell1 6 _ rfl, X7.cell1 7 _ rfl, X7.cell1 8 _ rfl, X7.cell1 9 _ rfl⟩))
                          ((go_at_call 57; refine (HFo _).mono ?_; rintro e w7 ⟨rfl, hb7⟩))
                        go_wp2
                        go_ret
                        exact ⟨ret_ii hres.out.symm, bstep HB6.out.drew hb7⟩
                      · have hb : badF how k (prv l q) s f = 0 := by unfold badF; rw [if_neg (by simp [hA]), if_neg hin, if_neg (by rw [hO.out]; exact hOp), hpv]; simp [hfb]
                        have HRn : Hid (RES = runC how L (7 - (k + 1)) k (prv l (q + 1)) (s ++ [f.num]) (l.drop (q + 1))) := by
                          show _ = _
                          rw [HD.out, runC_good hb, prv_succ HF.out]
                        rw [hfb] at HFo
                        clear HD hin hb hOp hq0 hj ha hpv hfb
                        go_wp2_with (first
                          | (go_at_call 55; refine (ckeys_any f _).mono ?_; rintro e w3 ⟨rfl, hb3⟩
                             have X3 : Blk w3 wr.heap.size 50 f.c := (box_new wr f).upd (S := Non) (Upd.ofBelow hb3) (fun h => h)
                             have z0 := X3.cell1 0 _ rfl
                             have lz := X3.lt
                             have U3 := (HU.out.upd (S := Non) ((Upd.refl _ _).alloc f.o) (fun h => h)).below hb3
                             have hlk := U3.look HOf.out.num
                             rw [hdi] at hlk
                             obtain ⟨w5, hst, U5, hg5⟩ := (U3.upd (S := Non) ((Upd.refl _ _).alloc (.cells #[] 98)) (fun h => h)).store hsl.out HOf.out.num
                             have X5 : Blk w5 wr.heap.size 50 f.c := (X3.alloc (.cells #[] 98)).upd (S := fun k => k = M) ((Upd.refl _ _).grown hg5 (fun j hj _ => by cases hj; rfl)) (fun e => by omega)
                             have q2 := X5.cell1 2 _ rfl
                             have q3 := X5.cell1 3 _ rfl
                             have q4 := X5.cell1 4 _ rfl
                             have q5 := X5.cell1 5 _ rfl
                             have q6 := X5.cell1 6 _ rfl
                             have q7 := X5.cell1 7 _ rfl
                             have lq := X5.lt
                             have HB5 : Hid (Below w.heap.size w w5) := (bstep (bstep HBa.out hb3) (al1 _ (.cells #[] 98))).grown hg5 (bstep (bstep HBa.out hb3) (al1 _ (.cells #[] 98))).size (fun j hj => by cases hj; exact hMl)
                             have HU5 : Hid (US w5 M (s ++ [f.num])) := U5
                             have HX5 : Hid (Blk w5 wr.heap.size 50 f.c) := X5
                             clear U3 U5 X3 X5 hg5)
                          | (go_at_call 56; refine (HO _).mono ?_; rintro e w6 ⟨rfl, rfl⟩))
                        have HB6 : Hid (Below w.heap.size w ((w5.alloc (.cells #[.string f.sm.u, .int .u64 f.sm.s, .int .i64 f.sm.k] 48)).alloc (.cells #[.string f.la.u, .int .u64 f.la.s, .int .i64 f.la.k] 48))) := bstep (bstep HB5.out (al1 _ _)) (al1 _ _)
                        obtain ⟨r0, r1, r2, r3, r4, r5, r6, r7, r8, r9⟩ := HRa.out _ HB6.out
                        have X6 := (HX5.out.alloc (.cells #[.string f.sm.u, .int .u64 f.sm.s, .int .i64 f.sm.k] 48)).alloc (.cells #[.string f.la.u, .int .u64 f.la.s, .int .i64 f.la.k] 48)
                        have p0 := X6.cell1 0 _ rfl
                        have p1 := X6.cell1 1 _ rfl
                        have p2 := X6.cell1 2 _ rfl
                        have p3 := X6.cell1 3 _ rfl
                        have p4 := X6.cell1 4 _ rfl
                        have p5 := X6.cell1 5 _ rfl
                        have p6 := X6.cell1 6 _ rfl
                        have p7 := X6.cell1 7 _ rfl
                        have p8 := X6.cell1 8 _ rfl
                        have p9 := X6.cell1 9 _ rfl
                        have HX6 : Hid (Blk _ wr.heap.size 50 f.c) := X6
                        clear X6
                        go_region_held_law (fun w' => w'.cell? ⟨g, o + j * 10, none⟩ = some (.int .u64 a.num) ∧ w'.cell? ⟨g, o + j * 10 + 1, none⟩ = some (.int .u64 a.size) ∧ w'.cell? ⟨g, o + j * 10 + 2, none⟩ = some (.string a.sm.u) ∧ w'.cell? ⟨g, o + j * 10 + 3, none⟩ = some (.int .u64 a.sm.s) ∧ w'.cell? ⟨g, o + j * 10 + 4, none⟩ = some (.int .i64 a.sm.k) ∧
                            w'.cell? ⟨g, o + j * 10 + 5, none⟩ = some (.string a.la.u) ∧ w'.cell? ⟨g, o + j * 10 + 6, none⟩ = some (.int .u64 a.la.s) ∧ w'.cell? ⟨g, o + j * 10 + 7, none⟩ = some (.int .i64 a.la.k) ∧ w'.cell? ⟨g, o + j * 10 + 8, none⟩ = some (.int .u64 a.ents) ∧ w'.cell? ⟨g, o + j * 10 + 9, none⟩ = some (.int .u64 a.rngs) ∧
                            w'.cell? ⟨wr.heap.size, 0, none⟩ = some (.int .u64 f.num) ∧ w'.cell? ⟨wr.heap.size, 1, none⟩ = some (.int .u64 f.size) ∧ w'.cell? ⟨wr.heap.size, 2, none⟩ = some (.string f.sm.u) ∧ w'.cell? ⟨wr.heap.size, 3, none⟩ = some (.int .u64 f.sm.s) ∧ w'.cell? ⟨wr.heap.size, 4, none⟩ = some (.int .i64 f.sm.k) ∧
                            w'.cell? ⟨wr.heap.size, 5, none⟩ = some (.string f.la.u) ∧ w'.cell? ⟨wr.heap.size, 6, none⟩ = some (.int .u64 f.la.s) ∧ w'.cell? ⟨wr.heap.size, 7, none⟩ = some (.int .i64 f.la.k) ∧ w'.cell? ⟨wr.heap.size, 8, none⟩ = some (.int .u64 f.ents) ∧ w'.cell? ⟨wr.heap.size, 9, none⟩ = some (.int .u64 f.rngs))
                          (first
                            | (go_keep; done)
                            | (obtain ⟨c0, c1, c2, c3, c4, c5, c6, c7, c8, c9⟩ := HRa.out _ (bstep HB6.out.drew hb7)
                               have X7 := HX6.out.drew.upd (S := Non) (Upd.ofBelow hb7) (fun h => h)
                               exact ⟨c0, c1, c2, c3, c4, c5, c6, c7, c8, c9, X7.cell1 0 _ rfl, X7.cell1 1 _ rfl, X7.cell1 2 _ rfl, X7.cell1 3 _ rfl, X7.cell1 4 _ rfl, X7.cell1 5 _ rfl, X7.cell1 6 _ rfl, X7.cell1 7 _ rfl, X7.cell1 8 _ rfl, X7.cell1 9 _ rfl⟩))
                          ((go_at_call 57; refine (HFo _).mono ?_; rintro e w7 ⟨rfl, hb7⟩))
                        go_wp2
                        go_roundw
                        case rel => exact ⟨q + 1, s ++ [f.num], by omega, by go_num, HRn.out, HSl.out, ((HU5.out.below (bstep (al1 _ _) (al1 _ _))).below (Below.refl _ _).drew).below hb7, bstep HB6.out.drew hb7⟩
                        case measure => simp [intOf]; omega
              · have hA' : (fchk f != 0) = true := by simp [hA]
                have hres : Hid (RES = fchk f) := by show _ = _; rw [HD.out]; exact (runC_bad (by unfold badF; rw [if_pos hA]; exact hA)).trans (by unfold badF; rw [if_pos hA])
                clear HD
                go_wp2_with (go_at_call 55; refine (ckeys_any f _).mono ?_; rintro e w3 ⟨rfl, hb3⟩)
                go_ret
                exact ⟨ret_ii hres.out.symm, bstep HBa.out hb3⟩
            · obtain rfl : q = n := by omega
              have hz : ¬ ((q : Int) < q) := by omega
              have HRr : Hid (RES = runL how L (7 - (k + 1)) (k + 1) s) := by
                show _ = _
                rw [HR.out, List.drop_of_length_le (by rw [hn.out]; exact Nat.le_refl _), runC_nil]
              have HSr : Hid (s.length = cntV L (k + 1)) := by show _ = _; rw [HSn.out, HCk.out, hn.out]
              clear HR HSn
              go_wp2
              go_roundw
              case rel => exact ⟨k + 1, s, by omega, by go_num, HRr.out, HSr.out, HU.out, HB.out⟩
              case measure => simp [intOf]; omega
        · obtain rfl : k = 7 := by omega
          have hres : Hid (RES = 0) := by show _ = _; rw [HR.out]; rfl
          go_wp2
          go_ret
          exact ⟨ret_ii hres.out.symm, HB.out⟩
end Go.Proofs.Ytkmpcheamdadcaa
