/-
  The reference's Check: the walk.
-/
import Derived.Test.YtkmpcheamdadcaaVf
import Derived.Lib.AppendZeros
namespace Go.Proofs.Ytkmpcheamdadcaa
open Go.RowKit
set_option linter.unusedVariables false
set_option linter.unusedSimpArgs false
theorem step_call60 {ops : Array Oper} {o : Oper} {a : Act} {w : World} {K : Act → World → Prop} {Q : Exit → Act → World → Prop} {Ex : Prop} (hw : Region.wanted o (yielded ops a.tmps) = true) {d : Nat} (hd : o.dst = some d) (x y z : Operand) (ts : Array TypeId)
    (ho : o.op = .call { callee := .value (.func 60), args := #[x, y, z], argTypes := ts }) (u v q : Value) (hx : a.eval x = u) (hy : a.eval y = v) (hz : a.eval z = q) {R : Ending → World → Prop} (hc : Calls Try.prog 60 #[u, v, q] w R)
    (h : ∀ e w', R e w' → ∃ r, e = .returned r ∧ K (a.put (some d) r) w') :
    if Region.wanted o (yielded ops a.tmps) = true then Oper.wp Try.prog o a w K Q else Ex := by
  rw [if_pos hw]
  have he := enters_of (P := Try.prog) Try.func60 (by kernel_rfl) rfl #[u, v, q]
  unfold Oper.wp execOp
  simp only [ho, resolve, invoke, Sem.run_bind, Sem.run_pure, Result.andThen_ok, List.map_toArray, List.map_cons, List.map_nil, hx, hy, hz, go_sem]
  show Oper.upon Try.prog o a K Q (Sem.run Try.prog (callFunc 60 (#[] ++ #[a.eval x, a.eval y, a.eval z] ++ #[])) w)
  rw [show (#[] ++ #[a.eval x, a.eval y, a.eval z] ++ #[] : Array Value) = #[u, v, q] by simp [hx, hy, hz], he, Oper.upon_enter]
  refine hc.mono ?_
  intro e w' hR
  obtain ⟨r, rfl, hk⟩ := h e w' hR
  show K (a.put o.dst r) w'
  rw [hd]; exact hk
set_option maxRecDepth 100000 in
set_option maxHeartbeats 4000000 in
theorem qcheck_any {w : World} {V : Vn} {L : Nat → List Fi} (h : RdV w V L) (how : Int) : Calls Try.prog 22 #[.int .i64 how, .agg (verA V L)] w fun e w' => e = .returned (.int .i64 (chkE how L)) ∧ Below w.heap.size w w' := by
  have HV : Hid (RdV w V L) := h
  have HLn : Hid (∀ k, k < 7 → cntV L k + (L k).length ≤ cntV L 7) := by
    have hm : ∀ m k, cntV L k ≤ cntV L (k + m) := fun m => by
      induction m with
      | zero => intro k; exact Nat.le_refl _
      | succ m ih => intro k; have := ih k; show _ ≤ cntV L (k + m) + _; omega
    intro k hk
    show cntV L (k + 1) ≤ _
    have := hm (7 - (k + 1)) (k + 1)
    rwa [show k + 1 + (7 - (k + 1)) = 7 by omega] at this
  have HCn : Hid (∀ k, k ≤ 7 → cntV L k ≤ k * 1466015503702) := cnt_le h
  obtain ⟨RES, hRES⟩ : ∃ RES, Hid (chkE how L = RES) := ⟨_, rfl⟩
  rw [hRES.out]
  clear h
  cases hhow : isHowB how
  · have e : Hid (RES = 1) := by show _ = _; rw [← hRES.out]; unfold chkE; simp [hhow]
    clear hRES
    go_enter Try.func22, Try.ntmps22
    go_wp2_with (go_at_call 58; refine (rhow_any _ _).mono ?_; rintro e w1 ⟨rfl, rfl⟩; rw [hhow])
    go_ret
    exact ⟨ret_ii e.out.symm, al1 _ _⟩
  · have HE : Hid (RES = if 1024 < cntV L 7 then 2 else runL how L 7 0 []) := by show _ = _; rw [← hRES.out]; unfold chkE; simp [hhow]
    clear hRES
    obtain ⟨W1, hW1⟩ : ∃ W1, Hid (W1 = w.alloc (.cells (verA V L) 41)) := ⟨_, rfl⟩
    have HBw : Hid (Below w.heap.size w W1) := by show Below _ _ _; rw [hW1.out]; exact al1 _ _
    have HK : Hid (∀ W, Below W1.heap.size W1 W → ∀ k, k < 7 → W.cell? ⟨w.heap.size, k, none⟩ = some (.slice (V.a k) (L k).length (V.c k))) := fun W hb k hk => by
      rw [hW1.out] at hb
      exact verK hb k hk
    have hW1s : w.heap.size < W1.heap.size := by rw [hW1.out]; simp
    go_enter Try.func22, Try.ntmps22
    go_wp2_with (go_at_call 58; refine (rhow_any _ _).mono ?_; rintro e w1 ⟨rfl, rfl⟩; rw [hhow])
    rw [← hW1.out]
    clear hW1
    go_loopw [5, 6] (fun n i wr => ∃ k : Nat, k ≤ 7 ∧ i = .int .i64 k ∧ n = .int .i64 (cntV L k) ∧ Hid (Below W1.heap.size W1 wr)) (fun _ i _ => 7 - (intOf i).toNat)
    case atStart => exact ⟨0, by omega, rfl, rfl, Below.refl _ _⟩
    case round =>
      obtain ⟨k, hk, rfl, rfl, HB⟩ := hrel
      by_cases hlt : k < 7
      · have hx := HK.out wr HB.out k hlt
        have hS : Hid (cntV L (k + 1) = cntV L k + (L k).length) := rfl
        have h1 := HCn.out k hk
        have h2 := HV.out.len k hlt
        have hkz : (k : Int) < 7 := by omega
        generalize cntV L k = C at *
        go_wp2
        go_roundw
        case rel => exact ⟨k + 1, by omega, by go_num, by rw [hS.out]; go_num, HB⟩
        case measure => simp [intOf]; omega
      · have H7 : Hid (cntV L k = cntV L 7) := by show _ = _; rw [show k = 7 by omega]
        have hk7 : (7 : Int) ≤ (k : Int) := by omega
        obtain ⟨C7, hC7⟩ : ∃ C7, Hid (cntV L k = C7) := ⟨_, rfl⟩
        rw [hC7.out]
        clear hlt
        by_cases hc : 1024 < cntV L 7
        · have e : Hid (RES = 2) := by show _ = _; rw [HE.out, if_pos hc]
          have hc' : (1024 : Int) < (C7 : Int) := by rw [← hC7.out, H7.out]; omega
          go_wp2
          go_ret
          exact ⟨ret_ii e.out.symm, bstep HBw.out HB.out⟩
        · have e : Hid (RES = runL how L 7 0 []) := by show _ = _; rw [HE.out, if_neg hc]
          have hc' : (C7 : Int) ≤ 1024 := by rw [← hC7.out, H7.out]; omega
          have HC : Hid (cntV L 7 ≤ 1024) := by show _ ≤ _; omega
          clear hc HE HCn
          have HU0 : Hid (RowU (wr.alloc (.cells #[] 23)) W1.heap.size (.slice (some ⟨wr.heap.size, 0, none⟩) 0 0) []) := World.ownsRow_made (base := W1.heap.size) (e := 23) (size := 1) wr #[] 0 HB.out.size (by unfold maxLen; omega) rfl
          have HB0 : Hid (Below W1.heap.size W1 (wr.alloc (.cells #[] 23))) := bstep HB.out (al1 _ _)
          clear HB
          obtain ⟨W0, rfl⟩ : ∃ W0, W0 = wr := ⟨_, rfl⟩
          obtain ⟨k7, rfl⟩ : ∃ k7, k7 = k := ⟨_, rfl⟩
          go_wp2
          clear hk7 hk H7 hC7
          go_loopw [7, 8] (fun v i wr => ∃ (k : Nat) (s : List Int), k ≤ 7 ∧ i = .int .i64 k ∧ Hid (RES = runL how L (7 - k) k s) ∧ Hid (s.length = cntV L k) ∧ Hid (RowU wr W1.heap.size v s) ∧ Hid (Below W1.heap.size W1 wr)) (fun _ i _ => 7 - (intOf i).toNat)
          case atStart => exact ⟨0, [], by omega, rfl, e.out, rfl, HU0.out, HB0.out⟩
          case round =>
            clear e HU0 HB0
            obtain ⟨k, s, hk, rfl, HR, HSn, HU, HB⟩ := hrel
            by_cases hlt : k < 7
            · have hkz : (k : Int) < 7 := by omega
              have HR1 : Hid (RES = runC how L (7 - (k + 1)) k none s (L k)) := by
                show _ = _
                rw [HR.out, show 7 - k = (7 - (k + 1)) + 1 by omega, runL_succ]
              have HL1 := HLn.out k hlt
              have HKk : Hid (∀ W, Below W1.heap.size W1 W → W.cell? ⟨w.heap.size, k, none⟩ = some (.slice (V.a k) (L k).length (V.c k))) := fun W hb => HK.out W hb k hlt
              obtain ⟨l, hl⟩ : ∃ l, Hid (L k = l) := ⟨_, rfl⟩
              have HLk : Hid (cntV L k + l.length ≤ 1024) := by show _ ≤ _; rw [← hl.out]; have := HC.out; omega
              have HRl : Hid (RdF w (V.a k) l) := by show RdF _ _ _; rw [← hl.out]; exact HV.out.rd k hlt
              have HOk : Hid (∀ f ∈ l, FOk f) := by show ∀ f ∈ l, _; rw [← hl.out]; exact HV.out.ok k hlt
              have HCk : Hid (cntV L (k + 1) = cntV L k + l.length) := by show _ = _; rw [← hl.out]; rfl
              rw [hl.out] at HR1 HKk
              obtain ⟨n, hn⟩ : ∃ n, Hid (l.length = n) := ⟨_, rfl⟩
              rw [hn.out] at HKk
              have hnz : (n : Int) ≤ 1024 := by have := HLk.out; rw [hn.out] at this; omega
              clear HL1
              obtain ⟨W0', rfl⟩ : ∃ W0', W0' = wr := ⟨_, rfl⟩
              go_wp2
              go_loopw [7, 9] (fun v i wr => ∃ (q : Nat) (s : List Int), q ≤ n ∧ i = .int .i64 q ∧ Hid (RES = runC how L (7 - (k + 1)) k (prv l q) s (l.drop q)) ∧ Hid (∀ a, prv l q = some a → ordF how a.sm a.la ≤ 0) ∧ Hid (s.length = cntV L k + q) ∧ Hid (RowU wr W1.heap.size v s) ∧ Hid (Below W1.heap.size W1 wr)) (fun _ i _ => (n : Int).toNat - (intOf i).toNat)
              case atStart => exact ⟨0, s, Nat.zero_le _, rfl, HR1.out, (fun a h => by cases h), HSn.out, HU.out, HB.out⟩
              case round =>
                clear HR HSn HU HB HR1 s
                obtain ⟨q, s, hq, rfl, HR, HPo, HSn, HU, HB⟩ := hrel
                have hxk := HKk.out wr HB.out
                by_cases hql : q < n
                · have hqz : (q : Int) < (n : Int) := by omega
                  obtain ⟨f, hf⟩ : ∃ f, l[q]? = some f := ⟨_, List.getElem?_eq_getElem (by rw [hn.out]; exact hql)⟩
                  obtain ⟨g, o, hg, hat⟩ := (HRl.out.below (bstep HBw.out HB.out)).at_ hf
                  rw [hg] at hxk
                  obtain ⟨y0, y1, y2, y3, y4, y5, y6, y7, y8, y9⟩ := hat.f
                  have HG : Hid (V.a k = some ⟨g, o, none⟩) := hg
                  have HF : Hid (l[q]? = some f) := hf
                  have HD : Hid (RES = runC how L (7 - (k + 1)) k (prv l q) s (f :: l.drop (q + 1))) := by show _ = _; rw [HR.out, drop_get hf]
                  have hsl : Hid (s.length ≤ 1024) := by show _ ≤ _; rw [HSn.out]; have := HLk.out; rw [hn.out] at this; omega
                  have HBa : Hid (Below W1.heap.size W1 (wr.alloc f.o)) := bstep HB.out (al1 _ _)
                  clear hf hat hg HR
                  by_cases hA : fchk f = 0
                  · have hA' : (fchk f != 0) = false := by simp [hA]
                    obtain ⟨va, vc, hv⟩ := row_slice HU.out
                    subst hv
                    obtain ⟨m, hm⟩ : ∃ m, Hid (s.length = m) := ⟨_, rfl⟩
                    have HU' : Hid (RowU wr W1.heap.size (.slice va m vc) s) := by rw [← hm.out]; exact HU.out
                    have hmz : (m : Int) ≤ 1024 := by rw [← hm.out]; have := hsl.out; omega
                    rw [hm.out]
                    have HRu : Hid (Rd uc 1 wr va s ∧ ∀ g o, va = some ⟨g, o, none⟩ → o = 0) := by
                      obtain ⟨_, _, e', _, hru, hz0⟩ := row_rd uc_k HU.out
                      cases e'
                      exact ⟨hru, fun g o h => (hz0 g o h).1⟩
                    clear HU
                    obtain ⟨WA, rfl⟩ : ∃ WA, WA = wr := ⟨_, rfl⟩
                    go_wp2_with (go_at_call 59; refine (rfile_any f _).mono ?_; rintro e w3 ⟨rfl, hb3⟩)
                    have X3 : Blk w3 WA.heap.size 50 f.c := (box_new WA f).upd (S := Non) (Upd.ofBelow hb3) (fun h => h)
                    have HX3 : Hid (Blk w3 WA.heap.size 50 f.c) := X3
                    have HB3 : Hid (Below WA.heap.size WA w3) := bstep (al1 _ _) hb3
                    clear X3 hb3 HBa
                    go_loopw [12] (fun j wr => ∃ p : Nat, p ≤ m ∧ j = .int .i64 p ∧ Hid (f.num ∉ s.take p) ∧ Hid (Below w3.heap.size w3 wr)) (fun j _ => (m : Int).toNat - (intOf j).toNat)
                    case atStart => exact ⟨0, Nat.zero_le _, rfl, by show f.num ∉ _; simp, Below.refl _ _⟩
                    case round =>
                      obtain ⟨p, hp, rfl, HJ, HBj⟩ := hrel
                      have X4 : Blk wr WA.heap.size 50 f.c := HX3.out.upd (S := Non) (Upd.ofBelow HBj.out) (fun h => h)
                      by_cases hpm : p < m
                      · have hpz : (p : Int) < (m : Int) := by omega
                        obtain ⟨x, hx⟩ : ∃ x, s[p]? = some x := ⟨_, List.getElem?_eq_getElem (by rw [hm.out]; exact hpm)⟩
                        obtain ⟨gu, ou, e1, hatu⟩ := (HRu.out.1.below (bstep HB3.out HBj.out)).at_ hx
                        obtain rfl := HRu.out.2 gu ou e1
                        subst e1
                        have c0 := hatu 0 _ rfl
                        rw [Nat.mul_one, Nat.add_zero, Nat.zero_add] at c0
                        have z0 := X4.cell1 0 _ rfl
                        by_cases hxe : x = f.num
                        · have hres : Hid (RES = 7) := by
                            have hb : badF how k (prv l q) s f = 7 := by unfold badF; rw [if_neg (by simp [hA]), if_pos (by rw [← hxe]; exact List.mem_of_getElem? hx)]
                            show _ = _
                            rw [HD.out]; exact (runC_bad (by rw [hb]; decide)).trans hb
                          have hxb : (x == f.num) = true := by simp [hxe]
                          clear X4 HD hx hatu hxe
                          go_wp2
                          first | go_quiet (fail) | go_big_quiet (fail)
                          go_wp2
                          go_ret
                          exact ⟨ret_ii hres.out.symm, belN (bstep HBw.out (bstep HB.out (bstep HB3.out HBj.out))) _⟩
                        · have hxb : (x == f.num) = false := by simp [hxe]
                          have HJ' : Hid (f.num ∉ s.take (p + 1)) := by
                            show _ ∉ _
                            rw [List.take_add_one, hx]
                            simp only [Option.toList_some, List.mem_append, List.mem_singleton, not_or]
                            exact ⟨HJ.out, fun e => hxe e.symm⟩
                          clear X4 HD hx hatu hxe
                          go_wp2
                          first | go_quiet (fail) | go_big_quiet (fail)
                          go_wp2
                          go_roundw
                          case rel => exact ⟨p + 1, by omega, by go_num, HJ'.out, belN HBj.out _⟩
                          case measure => simp [intOf]; omega
                      · obtain rfl : p = m := by omega
                        have hz : ¬ ((p : Int) < p) := by omega
                        have hin : f.num ∉ s := by have := HJ.out; rwa [List.take_of_length_le (by rw [hm.out]; exact Nat.le_refl _)] at this
                        have HO := fun w => rord_any how f.sm.u f.sm.s f.sm.k f.la.u f.la.s f.la.k w
                        obtain ⟨O, hO⟩ : ∃ O, Hid (ordF how f.sm f.la = O) := ⟨_, rfl⟩
                        have hO' : ordK how f.sm.u f.sm.s f.sm.k f.la.u f.la.s f.la.k = O := hO.out
                        rw [hO'] at HO
                        clear hO'
                        have HUr : Hid (RowU wr W1.heap.size (.slice va p vc) s) := row_upd (S := Non) HU'.out (Upd.ofBelow (bstep HB3.out HBj.out)) (fun _ _ h => h)
                        have HUa : RowU (wr.alloc (.cells #[.int .u64 f.num] 23)) W1.heap.size (.slice va p vc) s := row_upd (S := Non) HUr.out (Upd.ofBelow (al1 _ _)) (fun _ _ h => h)
                        have HBr : Hid (Below W1.heap.size W1 wr) := bstep HB.out (bstep HB3.out HBj.out)
                        obtain ⟨v5, w5, hr, hU5, hu5, _, _⟩ := push_u HUa (by have := HBr.out.size; simp; omega) (Blk.new wr 23 (uc f.num)) 54 (by have := hsl.out; omega)
                        obtain ⟨va5, vc5, hv5⟩ := row_slice hU5
                        rw [show (s ++ [f.num]).length = s.length + 1 by simp] at hv5
                        subst hv5
                        have HU5 : Hid (RowU w5 W1.heap.size (.slice va5 (s.length + 1) vc5) (s ++ [f.num])) := hU5
                        have HB5 : Hid (Below W1.heap.size W1 w5) := Upd.bel (bstep HBr.out (al1 _ _)) hu5 (fun j hj => (row_blk HUr.out j hj).1) (by have := HBr.out.size; simp; omega)
                        have X5 : Blk w5 WA.heap.size 50 f.c := (X4.alloc (.cells #[.int .u64 f.num] 23)).upd hu5 (fun e => row_ne HUr.out X4 (by decide) _ e rfl)
                        have z0 := X4.cell1 0 _ rfl
                        have q2 := X5.cell1 2 _ rfl
                        have q3 := X5.cell1 3 _ rfl
                        have q4 := X5.cell1 4 _ rfl
                        have q5 := X5.cell1 5 _ rfl
                        have q6 := X5.cell1 6 _ rfl
                        have q7 := X5.cell1 7 _ rfl
                        have HX5 : Hid (Blk w5 WA.heap.size 50 f.c) := X5
                        have hl5 : (s ++ [f.num]).length = p + 1 := by simp [hm.out]
                        have HSl : Hid ((s ++ [f.num]).length = cntV L k + (q + 1)) := by show _ = _; have := HSn.out; simp; omega
                        clear hU5 hu5 X5 X4 HUa hl5
                        by_cases hOp : 0 < O
                        · have hres : Hid (RES = 1) := by
                            have hb : badF how k (prv l q) s f = 1 := by unfold badF; rw [if_neg (by simp [hA]), if_neg hin, if_pos (by rw [hO.out]; exact hOp)]
                            show _ = _
                            rw [HD.out]; exact (runC_bad (by rw [hb]; decide)).trans hb
                          clear HD hin
                          go_wp2_with (first
                            | (at_builtin; refine Lib.wpList_append_run _ rfl _ _ _ _ rfl _ _ rfl rfl _ _ hr ?_)
                            | (go_at_call 52; refine (HO _).mono ?_; rintro e w6 ⟨rfl, rfl⟩))
                          go_ret
                          exact ⟨ret_ii hres.out.symm, bstep HBw.out (bstep (bstep HB5.out (al1 _ _)) (al1 _ _))⟩
                        · have hOz : O ≤ 0 := by omega
                          have HPn : Hid (∀ a, prv l (q + 1) = some a → ordF how a.sm a.la ≤ 0) := fun a ha => by
                            rw [prv_succ HF.out] at ha; cases ha; rw [hO.out]; exact hOz
                          rcases Nat.eq_zero_or_pos q with hq0 | hq0
                          · have hb : badF how k (prv l q) s f = 0 := by unfold badF; rw [if_neg (by simp [hA]), if_neg hin, if_neg (by rw [hO.out]; exact hOp), hq0]; rfl
                            have HRn : Hid (RES = runC how L (7 - (k + 1)) k (prv l (q + 1)) (s ++ [f.num]) (l.drop (q + 1))) := by
                              show _ = _
                              rw [HD.out, runC_good hb, prv_succ HF.out]
                            have hkp : ¬ (0 : Int) < q := by omega
                            have hkd : decide ((0 : Int) < (q : Int)) = false := by simpa using hkp
                            have hkd2 : decide (0 < q) = false := by simp; omega
                            clear HD hin hb hOp hq0
                            go_wp2_with (first
                              | (at_builtin; refine Lib.wpList_append_run _ rfl _ _ _ _ rfl _ _ rfl rfl _ _ hr ?_)
                              | (go_at_call 52; refine (HO _).mono ?_; rintro e w6 ⟨rfl, rfl⟩))
                            first | go_quiet (fail) | go_big_quiet (fail)
                            go_wp2
                            go_roundw
                            case rel => exact ⟨q + 1, s ++ [f.num], by omega, by go_num, HRn.out, HPn.out, HSl.out, row_upd (S := Non) HU5.out (Upd.ofBelow (belN (bstep (al1 _ _) (al1 _ _)) _)) (fun _ _ h => h), belN (bstep (bstep HB5.out (al1 _ _)) (al1 _ _)) _⟩
                            case measure => simp [intOf]; omega
                          · obtain ⟨j, hj⟩ : ∃ j, q = j + 1 := ⟨q - 1, by omega⟩
                            obtain ⟨a, ha⟩ : ∃ a, l[j]? = some a := ⟨_, List.getElem?_eq_getElem (by rw [hn.out]; omega)⟩
                            have hpv : prv l q = some a := by rw [hj]; exact prv_succ ha
                            have hao := HPo.out a hpv
                            have HRa : Hid (∀ W, Below w.heap.size w W → F10 W g (o + j * 10) a) := fun W hb => by
                              obtain ⟨g', o', e', hat'⟩ := (HRl.out.below hb).at_ ha
                              rw [HG.out] at e'
                              cases e'
                              exact hat'.f
                            have HFo := fun W => touch_any how a f W
                            have hkp : (0 : Int) < q := by omega
                            have hkd : decide ((0 : Int) < (q : Int)) = true := by simpa using hkp
                            have hkd2 : decide (0 < q) = true := by simp; omega
                            have hjz : (q : Int) - 1 = j := by omega
                            have hwj : IntKind.i64.wrap (j : Int) = j := by rw [IntKind.wrap_i64]; omega
                            have hwk : IntKind.i64.wrap ((q : Int) - 1) = j := by rw [IntKind.wrap_i64]; omega
                            have hjn : (j : Int) < n := by omega
                            have hbad : badF how k (prv l q) s f = if folB how k a f then 0 else 130 := by unfold badF; rw [if_neg (by simp [hA]), if_neg hin, if_neg (by rw [hO.out]; exact hOp), hpv]
                            have HW6 : Hid (Below W1.heap.size W1 ((w5.alloc (.cells #[.string f.sm.u, .int .u64 f.sm.s, .int .i64 f.sm.k] 48)).alloc (.cells #[.string f.la.u, .int .u64 f.la.s, .int .i64 f.la.k] 48))) := bstep (bstep HB5.out (al1 _ _)) (al1 _ _)
                            have X6 := (HX5.out.alloc (.cells #[.string f.sm.u, .int .u64 f.sm.s, .int .i64 f.sm.k] 48)).alloc (.cells #[.string f.la.u, .int .u64 f.la.s, .int .i64 f.la.k] 48)
                            have HX6 : Hid (Blk _ WA.heap.size 50 f.c) := X6
                            have HU6 : Hid (RowU ((w5.alloc (.cells #[.string f.sm.u, .int .u64 f.sm.s, .int .i64 f.sm.k] 48)).alloc (.cells #[.string f.la.u, .int .u64 f.la.s, .int .i64 f.la.k] 48)) W1.heap.size (.slice va5 (s.length + 1) vc5) (s ++ [f.num])) := row_upd (S := Non) HU5.out (Upd.ofBelow (bstep (al1 _ _) (al1 _ _))) (fun _ _ h => h)
                            obtain ⟨r0, r1, r2, r3, r4, r5, r6, r7, r8, r9⟩ := HRa.out _ (bstep HBw.out HW6.out)
                            have k6 := HKk.out _ HW6.out
                            rw [HG.out] at k6
                            have p0 := X6.cell1 0 _ rfl
                            clear X6
                            rcases Nat.eq_zero_or_pos k with hk0 | hk0
                            · have hl0 : ((k : Int) == 0) = true := by simp [hk0]
                              have hl1 : decide ((0 : Int) < (k : Int)) = false := by simp; omega
                              have hl2 : decide (0 < k) = false := by simp; omega
                              have hl3 : (k == 0) = true := by simp [hk0]
                              have hfb : folB how k a f = decide (f.num < a.num) := by unfold folB; rw [if_pos hk0]
                              rw [hfb] at hbad
                              by_cases hnum : f.num < a.num
                              · have hnd : decide (a.num ≤ f.num) = false := by simp; omega
                                have hb : badF how k (prv l q) s f = 0 := by rw [hbad]; simp [hnum]
                                have HRn : Hid (RES = runC how L (7 - (k + 1)) k (prv l (q + 1)) (s ++ [f.num]) (l.drop (q + 1))) := by
                                  show _ = _
                                  rw [HD.out, runC_good hb, prv_succ HF.out]
                                clear HD hin hb hOp hq0 hj ha hpv hbad hfb hao hk0 hnum HFo
                                go_wp2_with (first
                                  | (at_builtin; refine Lib.wpList_append_run _ rfl _ _ _ _ rfl _ _ rfl rfl _ _ hr ?_)
                                  | (go_at_call 52; refine (HO _).mono ?_; rintro e w6 ⟨rfl, rfl⟩))
                                first | go_quiet (fail) | go_big_quiet (fail)
                                go_wp2
                                go_roundw
                                case rel => exact ⟨q + 1, s ++ [f.num], by omega, by go_num, HRn.out, HPn.out, HSl.out, row_upd (S := Non) HU6.out (Upd.ofBelow (belN (Below.refl _ _) _)) (fun _ _ h => h), belN HW6.out _⟩
                                case measure => simp [intOf]; omega
                              · have hnd : decide (a.num ≤ f.num) = true := by simp; omega
                                have hb : badF how k (prv l q) s f = 130 := by rw [hbad]; simp [hnum]
                                have hres : Hid (RES = 130) := by
                                  show _ = _
                                  rw [HD.out]; exact (runC_bad (by rw [hb]; decide)).trans hb
                                clear HD hin hb hOp hq0 hj ha hpv hbad hfb hao hk0 hnum HFo
                                go_wp2_with (first
                                  | (at_builtin; refine Lib.wpList_append_run _ rfl _ _ _ _ rfl _ _ rfl rfl _ _ hr ?_)
                                  | (go_at_call 52; refine (HO _).mono ?_; rintro e w6 ⟨rfl, rfl⟩))
                                first | go_quiet (fail) | go_big_quiet (fail)
                                go_wp2
                                go_ret
                                exact ⟨ret_ii hres.out.symm, bstep HBw.out (belN HW6.out _)⟩
                            · have hl0 : ((k : Int) == 0) = false := by simp; omega
                              have hl1 : decide ((0 : Int) < (k : Int)) = true := by simp; omega
                              have hl2 : decide (0 < k) = true := by simp; omega
                              have hl3 : (k == 0) = false := by simp; omega
                              have hfb : folB how k a f = touB how a f := fol_tou hk0 hao
                              rw [hfb] at hbad
                              have p1 := HX6.out.cell1 1 _ rfl
                              have p2 := HX6.out.cell1 2 _ rfl
                              have p3 := HX6.out.cell1 3 _ rfl
                              have p4 := HX6.out.cell1 4 _ rfl
                              have p5 := HX6.out.cell1 5 _ rfl
                              have p6 := HX6.out.cell1 6 _ rfl
                              have p7 := HX6.out.cell1 7 _ rfl
                              have p8 := HX6.out.cell1 8 _ rfl
                              have p9 := HX6.out.cell1 9 _ rfl
                              cases htb : touB how a f
                              · have hb : badF how k (prv l q) s f = 130 := by rw [hbad, htb]; rfl
                                have hres : Hid (RES = 130) := by
                                  show _ = _
                                  rw [HD.out]; exact (runC_bad (by rw [hb]; decide)).trans hb
                                rw [htb] at HFo
                                clear HD hin hb hOp hq0 hj ha hpv hbad hfb hao hk0 htb
                                go_wp2_with (first
                                  | (at_builtin; refine Lib.wpList_append_run _ rfl _ _ _ _ rfl _ _ rfl rfl _ _ hr ?_)
                                  | (go_at_call 52; refine (HO _).mono ?_; rintro e w6 ⟨rfl, rfl⟩))
                                refine wp_region_held_drew (S := fun w' => w'.cell? ⟨g, o + j * 10, none⟩ = some (.int .u64 a.num) ∧ w'.cell? ⟨g, o + j * 10 + 1, none⟩ = some (.int .u64 a.size) ∧ w'.cell? ⟨g, o + j * 10 + 2, none⟩ = some (.string a.sm.u) ∧ w'.cell? ⟨g, o + j * 10 + 3, none⟩ = some (.int .u64 a.sm.s) ∧ w'.cell? ⟨g, o + j * 10 + 4, none⟩ = some (.int .i64 a.sm.k) ∧ w'.cell? ⟨g, o + j * 10 + 5, none⟩ = some (.string a.la.u) ∧ w'.cell? ⟨g, o + j * 10 + 6, none⟩ = some (.int .u64 a.la.s) ∧ w'.cell? ⟨g, o + j * 10 + 7, none⟩ = some (.int .i64 a.la.k) ∧ w'.cell? ⟨g, o + j * 10 + 8, none⟩ = some (.int .u64 a.ents) ∧ w'.cell? ⟨g, o + j * 10 + 9, none⟩ = some (.int .u64 a.rngs) ∧
                                                                w'.cell? ⟨WA.heap.size, 0, none⟩ = some (.int .u64 f.num) ∧ w'.cell? ⟨WA.heap.size, 1, none⟩ = some (.int .u64 f.size) ∧ w'.cell? ⟨WA.heap.size, 2, none⟩ = some (.string f.sm.u) ∧ w'.cell? ⟨WA.heap.size, 3, none⟩ = some (.int .u64 f.sm.s) ∧ w'.cell? ⟨WA.heap.size, 4, none⟩ = some (.int .i64 f.sm.k) ∧ w'.cell? ⟨WA.heap.size, 5, none⟩ = some (.string f.la.u) ∧ w'.cell? ⟨WA.heap.size, 6, none⟩ = some (.int .u64 f.la.s) ∧ w'.cell? ⟨WA.heap.size, 7, none⟩ = some (.int .i64 f.la.k) ∧ w'.cell? ⟨WA.heap.size, 8, none⟩ = some (.int .u64 f.ents) ∧ w'.cell? ⟨WA.heap.size, 9, none⟩ = some (.int .u64 f.rngs) ∧ w'.cell? ⟨w.heap.size, k, none⟩ = some (.slice (some ⟨g, o, none⟩) n (V.c k))) (by kernel_rfl) ?_ (fun hHeld => ?_)
                                · (try dsimp only); exact ⟨r0, r1, r2, r3, r4, r5, r6, r7, r8, r9, p0, p1, p2, p3, p4, p5, p6, p7, p8, p9, k6⟩
                                refine wpAnyH_take (i := 0) (v := ?_) (by simp only [List.getElem?_toArray, List.getElem?_cons_zero, List.getElem?_cons_succ]; rfl) (by kernel_rfl) (by kernel_rfl) (by kernel_rfl) (by intro _ _ _ h; exact h) (Or.inl ⟨by rfl, ?_⟩) (by assumption) ?_
                                rotate_left
                                · intro w hSw; (try dsimp only at hSw); go_simp; (try with_reducible rfl)
                                (try simp only [Act.put, List.setIfInBounds_toArray, List.set_cons_zero, List.set_cons_succ])
                                refine wpAnyH_take (i := 1) (v := ?_) (by simp only [List.getElem?_toArray, List.getElem?_cons_zero, List.getElem?_cons_succ]; rfl) (by kernel_rfl) (by kernel_rfl) (by kernel_rfl) (by intro _ _ _ h; exact h) (Or.inl ⟨by rfl, ?_⟩) (by assumption) ?_
                                rotate_left
                                · intro w hSw; (try dsimp only at hSw); go_simp; (try with_reducible rfl)
                                (try simp only [Act.put, List.setIfInBounds_toArray, List.set_cons_zero, List.set_cons_succ])
                                refine wpAnyH_take (i := 2) (v := ?_) (by simp only [List.getElem?_toArray, List.getElem?_cons_zero, List.getElem?_cons_succ]; rfl) (by kernel_rfl) (by kernel_rfl) (by kernel_rfl) (by intro _ _ _ h; exact h) (Or.inl ⟨by rfl, ?_⟩) (by assumption) ?_
                                rotate_left
                                · intro w hSw; (try dsimp only at hSw); go_simp; (try with_reducible rfl)
                                (try simp only [Act.put, List.setIfInBounds_toArray, List.set_cons_zero, List.set_cons_succ])
                                refine wpAnyH_take (i := 3) (v := ?_) (by simp only [List.getElem?_toArray, List.getElem?_cons_zero, List.getElem?_cons_succ]; rfl) (by kernel_rfl) (by kernel_rfl) (by kernel_rfl) (by intro _ _ _ h; exact h) (Or.inl ⟨by rfl, ?_⟩) (by assumption) ?_
                                rotate_left
                                · intro w hSw; (try dsimp only at hSw); go_simp; (try with_reducible rfl)
                                (try simp only [Act.put, List.setIfInBounds_toArray, List.set_cons_zero, List.set_cons_succ])
                                refine wpAnyH_take (i := 4) (v := ?_) (by simp only [List.getElem?_toArray, List.getElem?_cons_zero, List.getElem?_cons_succ]; rfl) (by kernel_rfl) (by kernel_rfl) (by kernel_rfl) (by intro _ _ _ h; exact h) (Or.inl ⟨by rfl, ?_⟩) (by assumption) ?_
                                rotate_left
                                · intro w hSw; (try dsimp only at hSw); go_simp; (try with_reducible rfl)
                                (try simp only [Act.put, List.setIfInBounds_toArray, List.set_cons_zero, List.set_cons_succ])
                                refine wpAnyH_take (i := 5) (v := ?_) (by simp only [List.getElem?_toArray, List.getElem?_cons_zero, List.getElem?_cons_succ]; rfl) (by kernel_rfl) (by kernel_rfl) (by kernel_rfl) (by intro _ _ _ h; exact h) (Or.inl ⟨by rfl, ?_⟩) (by assumption) ?_
                                rotate_left
                                · intro w hSw; (try dsimp only at hSw); go_simp; (try with_reducible rfl)
                                (try simp only [Act.put, List.setIfInBounds_toArray, List.set_cons_zero, List.set_cons_succ])
                                refine wpAnyH_take (i := 6) (v := undef) (by simp only [List.getElem?_toArray, List.getElem?_cons_zero, List.getElem?_cons_succ]; rfl) (by kernel_rfl) (by kernel_rfl) (by kernel_rfl) (by intro _ _ _ h; exact h) (Or.inr ⟨by rfl, rfl⟩) (by assumption) ?_
                                (try simp only [Act.put, List.setIfInBounds_toArray, List.set_cons_zero, List.set_cons_succ])
                                refine wpAnyH_take (i := 7) (v := undef) (by simp only [List.getElem?_toArray, List.getElem?_cons_zero, List.getElem?_cons_succ]; rfl) (by kernel_rfl) (by kernel_rfl) (by kernel_rfl) (by intro _ _ _ h; exact h) (Or.inr ⟨by rfl, rfl⟩) (by assumption) ?_
                                (try simp only [Act.put, List.setIfInBounds_toArray, List.set_cons_zero, List.set_cons_succ])
                                refine wpAnyH_take (i := 8) (v := undef) (by simp only [List.getElem?_toArray, List.getElem?_cons_zero, List.getElem?_cons_succ]; rfl) (by kernel_rfl) (by kernel_rfl) (by kernel_rfl) (by intro _ _ _ h; exact h) (Or.inr ⟨by rfl, rfl⟩) (by assumption) ?_
                                (try simp only [Act.put, List.setIfInBounds_toArray, List.set_cons_zero, List.set_cons_succ])
                                refine wpAnyH_take (i := 9) (v := undef) (by simp only [List.getElem?_toArray, List.getElem?_cons_zero, List.getElem?_cons_succ]; rfl) (by kernel_rfl) (by kernel_rfl) (by kernel_rfl) (by intro _ _ _ h; exact h) (Or.inr ⟨by rfl, rfl⟩) (by assumption) ?_
                                (try simp only [Act.put, List.setIfInBounds_toArray, List.set_cons_zero, List.set_cons_succ])
                                refine wpAnyH_take (i := 10) (v := undef) (by simp only [List.getElem?_toArray, List.getElem?_cons_zero, List.getElem?_cons_succ]; rfl) (by kernel_rfl) (by kernel_rfl) (by kernel_rfl) (by intro _ _ _ h; exact h) (Or.inr ⟨by rfl, rfl⟩) (by assumption) ?_
                                (try simp only [Act.put, List.setIfInBounds_toArray, List.set_cons_zero, List.set_cons_succ])
                                refine wpAnyH_take (i := 11) (v := undef) (by simp only [List.getElem?_toArray, List.getElem?_cons_zero, List.getElem?_cons_succ]; rfl) (by kernel_rfl) (by kernel_rfl) (by kernel_rfl) (by intro _ _ _ h; exact h) (Or.inr ⟨by rfl, rfl⟩) (by assumption) ?_
                                (try simp only [Act.put, List.setIfInBounds_toArray, List.set_cons_zero, List.set_cons_succ])
                                refine wpAnyH_take (i := 12) (v := undef) (by simp only [List.getElem?_toArray, List.getElem?_cons_zero, List.getElem?_cons_succ]; rfl) (by kernel_rfl) (by kernel_rfl) (by kernel_rfl) (by intro _ _ _ h; exact h) (Or.inr ⟨by rfl, rfl⟩) (by assumption) ?_
                                (try simp only [Act.put, List.setIfInBounds_toArray, List.set_cons_zero, List.set_cons_succ])
                                refine wpAnyH_take (i := 13) (v := undef) (by simp only [List.getElem?_toArray, List.getElem?_cons_zero, List.getElem?_cons_succ]; rfl) (by kernel_rfl) (by kernel_rfl) (by kernel_rfl) (by intro _ _ _ h; exact h) (Or.inr ⟨by rfl, rfl⟩) (by assumption) ?_
                                (try simp only [Act.put, List.setIfInBounds_toArray, List.set_cons_zero, List.set_cons_succ])
                                refine wpAnyH_take (i := 14) (v := undef) (by simp only [List.getElem?_toArray, List.getElem?_cons_zero, List.getElem?_cons_succ]; rfl) (by kernel_rfl) (by kernel_rfl) (by kernel_rfl) (by intro _ _ _ h; exact h) (Or.inr ⟨by rfl, rfl⟩) (by assumption) ?_
                                (try simp only [Act.put, List.setIfInBounds_toArray, List.set_cons_zero, List.set_cons_succ])
                                refine wpAnyH_take (i := 15) (v := undef) (by simp only [List.getElem?_toArray, List.getElem?_cons_zero, List.getElem?_cons_succ]; rfl) (by kernel_rfl) (by kernel_rfl) (by kernel_rfl) (by intro _ _ _ h; exact h) (Or.inr ⟨by rfl, rfl⟩) (by assumption) ?_
                                (try simp only [Act.put, List.setIfInBounds_toArray, List.set_cons_zero, List.set_cons_succ])
                                refine wpAnyH_take (i := 16) (v := undef) (by simp only [List.getElem?_toArray, List.getElem?_cons_zero, List.getElem?_cons_succ]; rfl) (by kernel_rfl) (by kernel_rfl) (by kernel_rfl) (by intro _ _ _ h; exact h) (Or.inr ⟨by rfl, rfl⟩) (by assumption) ?_
                                (try simp only [Act.put, List.setIfInBounds_toArray, List.set_cons_zero, List.set_cons_succ])
                                refine wpAnyH_take (i := 17) (v := undef) (by simp only [List.getElem?_toArray, List.getElem?_cons_zero, List.getElem?_cons_succ]; rfl) (by kernel_rfl) (by kernel_rfl) (by kernel_rfl) (by intro _ _ _ h; exact h) (Or.inr ⟨by rfl, rfl⟩) (by assumption) ?_
                                (try simp only [Act.put, List.setIfInBounds_toArray, List.set_cons_zero, List.set_cons_succ])
                                refine wpAnyH_take (i := 18) (v := ?_) (by simp only [List.getElem?_toArray, List.getElem?_cons_zero, List.getElem?_cons_succ]; rfl) (by kernel_rfl) (by kernel_rfl) (by kernel_rfl) (by intro _ _ _ h; exact h) (Or.inl ⟨by rfl, ?_⟩) (by assumption) ?_
                                rotate_left
                                · intro w hSw; (try dsimp only at hSw); go_simp; (try with_reducible rfl)
                                (try simp only [Act.put, List.setIfInBounds_toArray, List.set_cons_zero, List.set_cons_succ])
                                refine wpAnyH_take (i := 19) (v := ?_) (by simp only [List.getElem?_toArray, List.getElem?_cons_zero, List.getElem?_cons_succ]; rfl) (by kernel_rfl) (by kernel_rfl) (by kernel_rfl) (by intro _ _ _ h; exact h) (Or.inl ⟨by rfl, ?_⟩) (by assumption) ?_
                                rotate_left
                                · intro w hSw; (try dsimp only at hSw); go_simp; (try with_reducible rfl)
                                (try simp only [Act.put, List.setIfInBounds_toArray, List.set_cons_zero, List.set_cons_succ])
                                refine wpAnyH_take (i := 20) (v := ?_) (by simp only [List.getElem?_toArray, List.getElem?_cons_zero, List.getElem?_cons_succ]; rfl) (by kernel_rfl) (by kernel_rfl) (by kernel_rfl) (by intro _ _ _ h; exact h) (Or.inl ⟨by rfl, ?_⟩) (by assumption) ?_
                                rotate_left
                                · intro w hSw; (try dsimp only at hSw); go_simp; (try with_reducible rfl)
                                (try simp only [Act.put, List.setIfInBounds_toArray, List.set_cons_zero, List.set_cons_succ])
                                refine wpAnyH_take (i := 21) (v := ?_) (by simp only [List.getElem?_toArray, List.getElem?_cons_zero, List.getElem?_cons_succ]; rfl) (by kernel_rfl) (by kernel_rfl) (by kernel_rfl) (by intro _ _ _ h; exact h) (Or.inl ⟨by rfl, ?_⟩) (by assumption) ?_
                                rotate_left
                                · intro w hSw; (try dsimp only at hSw); go_simp; (try with_reducible rfl)
                                (try simp only [Act.put, List.setIfInBounds_toArray, List.set_cons_zero, List.set_cons_succ])
                                refine wpAnyH_take (i := 22) (v := ?_) (by simp only [List.getElem?_toArray, List.getElem?_cons_zero, List.getElem?_cons_succ]; rfl) (by kernel_rfl) (by kernel_rfl) (by kernel_rfl) (by intro _ _ _ h; exact h) (Or.inl ⟨by rfl, ?_⟩) (by assumption) ?_
                                rotate_left
                                · intro w hSw; (try dsimp only at hSw); go_simp; (try with_reducible rfl)
                                (try simp only [Act.put, List.setIfInBounds_toArray, List.set_cons_zero, List.set_cons_succ])
                                refine wpAnyH_take (i := 23) (v := ?_) (by simp only [List.getElem?_toArray, List.getElem?_cons_zero, List.getElem?_cons_succ]; rfl) (by kernel_rfl) (by kernel_rfl) (by kernel_rfl) (by intro _ _ _ h; exact h) (Or.inl ⟨by rfl, ?_⟩) (by assumption) ?_
                                rotate_left
                                · intro w hSw; (try dsimp only at hSw); go_simp; (try with_reducible rfl)
                                (try simp only [Act.put, List.setIfInBounds_toArray, List.set_cons_zero, List.set_cons_succ])
                                refine wpAnyH_take (i := 24) (v := ?_) (by simp only [List.getElem?_toArray, List.getElem?_cons_zero, List.getElem?_cons_succ]; rfl) (by kernel_rfl) (by kernel_rfl) (by kernel_rfl) (by intro _ _ _ h; exact h) (Or.inl ⟨by rfl, ?_⟩) (by assumption) ?_
                                rotate_left
                                · intro w hSw; (try dsimp only at hSw); go_simp; (try with_reducible rfl)
                                (try simp only [Act.put, List.setIfInBounds_toArray, List.set_cons_zero, List.set_cons_succ])
                                refine wpAnyH_take (i := 25) (v := ?_) (by simp only [List.getElem?_toArray, List.getElem?_cons_zero, List.getElem?_cons_succ]; rfl) (by kernel_rfl) (by kernel_rfl) (by kernel_rfl) (by intro _ _ _ h; exact h) (Or.inl ⟨by rfl, ?_⟩) (by assumption) ?_
                                rotate_left
                                · intro w hSw; (try dsimp only at hSw); go_simp; (try with_reducible rfl)
                                (try simp only [Act.put, List.setIfInBounds_toArray, List.set_cons_zero, List.set_cons_succ])
                                refine wpAnyH_take (i := 26) (v := ?_) (by simp only [List.getElem?_toArray, List.getElem?_cons_zero, List.getElem?_cons_succ]; rfl) (by kernel_rfl) (by kernel_rfl) (by kernel_rfl) (by intro _ _ _ h; exact h) (Or.inl ⟨by rfl, ?_⟩) (by assumption) ?_
                                rotate_left
                                · intro w hSw; (try dsimp only at hSw); go_simp; (try with_reducible rfl)
                                (try simp only [Act.put, List.setIfInBounds_toArray, List.set_cons_zero, List.set_cons_succ])
                                refine wpAnyH_take (i := 27) (v := ?_) (by simp only [List.getElem?_toArray, List.getElem?_cons_zero, List.getElem?_cons_succ]; rfl) (by kernel_rfl) (by kernel_rfl) (by kernel_rfl) (by intro _ _ _ h; exact h) (Or.inl ⟨by rfl, ?_⟩) (by assumption) ?_
                                rotate_left
                                · intro w hSw; (try dsimp only at hSw); go_simp; (try with_reducible rfl)
                                (try simp only [Act.put, List.setIfInBounds_toArray, List.set_cons_zero, List.set_cons_succ])
                                refine wpAnyH_take (i := 28) (v := ?_) (by simp only [List.getElem?_toArray, List.getElem?_cons_zero, List.getElem?_cons_succ]; rfl) (by kernel_rfl) (by kernel_rfl) (by kernel_rfl) (by intro _ _ _ h; exact h) (Or.inl ⟨by rfl, ?_⟩) (by assumption) ?_
                                rotate_left
                                · intro w hSw; (try dsimp only at hSw); go_simp; (try with_reducible rfl)
                                (try simp only [Act.put, List.setIfInBounds_toArray, List.set_cons_zero, List.set_cons_succ])
                                refine wpAnyH_take (i := 29) (v := ?_) (by simp only [List.getElem?_toArray, List.getElem?_cons_zero, List.getElem?_cons_succ]; rfl) (by kernel_rfl) (by kernel_rfl) (by kernel_rfl) (by intro _ _ _ h; exact h) (Or.inl ⟨by rfl, ?_⟩) (by assumption) ?_
                                rotate_left
                                · intro w hSw; (try dsimp only at hSw); go_simp; (try with_reducible rfl)
                                (try simp only [Act.put, List.setIfInBounds_toArray, List.set_cons_zero, List.set_cons_succ])
                                refine wpAnyH_take (i := 30) (v := ?_) (by simp only [List.getElem?_toArray, List.getElem?_cons_zero, List.getElem?_cons_succ]; rfl) (by kernel_rfl) (by kernel_rfl) (by kernel_rfl) (by intro _ _ _ h; exact h) (Or.inl ⟨by rfl, ?_⟩) (by assumption) ?_
                                rotate_left
                                · intro w hSw; (try dsimp only at hSw); go_simp; (try with_reducible rfl)
                                (try simp only [Act.put, List.setIfInBounds_toArray, List.set_cons_zero, List.set_cons_succ])
                                refine wpAnyH_take (i := 31) (v := ?_) (by simp only [List.getElem?_toArray, List.getElem?_cons_zero, List.getElem?_cons_succ]; rfl) (by kernel_rfl) (by kernel_rfl) (by kernel_rfl) (by intro _ _ _ h; exact h) (Or.inl ⟨by rfl, ?_⟩) (by assumption) ?_
                                rotate_left
                                · intro w hSw; (try dsimp only at hSw); go_simp; (try with_reducible rfl)
                                (try simp only [Act.put, List.setIfInBounds_toArray, List.set_cons_zero, List.set_cons_succ])
                                refine wpAnyH_take (i := 32) (v := ?_) (by simp only [List.getElem?_toArray, List.getElem?_cons_zero, List.getElem?_cons_succ]; rfl) (by kernel_rfl) (by kernel_rfl) (by kernel_rfl) (by intro _ _ _ h; exact h) (Or.inl ⟨by rfl, ?_⟩) (by assumption) ?_
                                rotate_left
                                · intro w hSw; (try dsimp only at hSw); go_simp; (try with_reducible rfl)
                                (try simp only [Act.put, List.setIfInBounds_toArray, List.set_cons_zero, List.set_cons_succ])
                                refine wpAnyH_ready (rs := [33]) (by kernel_rfl) (by simp) ?_
                                refine AllReadyH.cons rfl (fun K hK => ?_) AllReadyH.nil
                                refine step_call60 (by rfl) (by rfl) _ _ _ _ (by rfl) _ _ _ (by rfl) (by rfl) (by rfl) (HFo _) ?_
                                rintro e w7 ⟨rfl, hb7⟩
                                refine ⟨_, rfl, ?_⟩
                                have HB7 : Hid (Below W1.heap.size W1 w7) := bstep HW6.out.drew hb7
                                have HU7 : Hid (RowU w7 W1.heap.size (.slice va5 (s.length + 1) vc5) (s ++ [f.num])) := row_upd (S := Non) HU6.out (Upd.ofBelow (bstep (Below.refl _ _).drew hb7)) (fun _ _ h => h)
                                obtain ⟨c0, c1, c2, c3, c4, c5, c6, c7, c8, c9⟩ := HRa.out _ (bstep HBw.out HB7.out)
                                have X7 := HX6.out.drew.upd (S := Non) (Upd.ofBelow hb7) (fun h => h)
                                have k7' := HKk.out _ HB7.out
                                rw [HG.out] at k7'
                                refine hK.out _ _ ⟨c0, c1, c2, c3, c4, c5, c6, c7, c8, c9, X7.cell1 0 _ rfl, X7.cell1 1 _ rfl, X7.cell1 2 _ rfl, X7.cell1 3 _ rfl, X7.cell1 4 _ rfl, X7.cell1 5 _ rfl, X7.cell1 6 _ rfl, X7.cell1 7 _ rfl, X7.cell1 8 _ rfl, X7.cell1 9 _ rfl, k7'⟩ (fun hHeld => ?_)
                                clear hb7 c0 c1 c2 c3 c4 c5 c6 c7 c8 c9 X7 k7'
                                clear hK K
                                (try simp only [Act.put, List.setIfInBounds_toArray, List.set_cons_zero, List.set_cons_succ])
                                refine wpAnyH_take (i := 34) (v := ?_) (by simp only [List.getElem?_toArray, List.getElem?_cons_zero, List.getElem?_cons_succ]; rfl) (by kernel_rfl) (by kernel_rfl) (by kernel_rfl) (by intro _ _ _ h; exact h) (Or.inl ⟨by rfl, ?_⟩) (by assumption) ?_
                                rotate_left
                                · intro w hSw; (try dsimp only at hSw); go_simp; (try with_reducible rfl)
                                (try simp only [Act.put, List.setIfInBounds_toArray, List.set_cons_zero, List.set_cons_succ])
                                refine wpAnyH_take (i := 35) (v := ?_) (by simp only [List.getElem?_toArray, List.getElem?_cons_zero, List.getElem?_cons_succ]; rfl) (by kernel_rfl) (by kernel_rfl) (by kernel_rfl) (by intro _ _ _ h; exact h) (Or.inl ⟨by rfl, ?_⟩) (by assumption) ?_
                                rotate_left
                                · intro w hSw; (try dsimp only at hSw); go_simp; (try with_reducible rfl)
                                (try simp only [Act.put, List.setIfInBounds_toArray, List.set_cons_zero, List.set_cons_succ])
                                refine wpAnyH_take (i := 36) (v := ?_) (by simp only [List.getElem?_toArray, List.getElem?_cons_zero, List.getElem?_cons_succ]; rfl) (by kernel_rfl) (by kernel_rfl) (by kernel_rfl) (by intro _ _ _ h; exact h) (Or.inl ⟨by rfl, ?_⟩) (by assumption) ?_
                                rotate_left
                                · intro w hSw; (try dsimp only at hSw); go_simp; (try with_reducible rfl)
                                (try simp only [Act.put, List.setIfInBounds_toArray, List.set_cons_zero, List.set_cons_succ])
                                refine wpAnyH_take (i := 37) (v := ?_) (by simp only [List.getElem?_toArray, List.getElem?_cons_zero, List.getElem?_cons_succ]; rfl) (by kernel_rfl) (by kernel_rfl) (by kernel_rfl) (by intro _ _ _ h; exact h) (Or.inl ⟨by rfl, ?_⟩) (by assumption) ?_
                                rotate_left
                                · intro w hSw; (try dsimp only at hSw); go_simp; (try with_reducible rfl)
                                (try simp only [Act.put, List.setIfInBounds_toArray, List.set_cons_zero, List.set_cons_succ])
                                refine wpAnyH_done (by kernel_rfl) ?_ _
                                clear hHeld
                                go_wp2
                                go_ret
                                exact ⟨ret_ii hres.out.symm, bstep HBw.out HB7.out⟩
                              · have hb : badF how k (prv l q) s f = 0 := by rw [hbad, htb]; rfl
                                have HRn : Hid (RES = runC how L (7 - (k + 1)) k (prv l (q + 1)) (s ++ [f.num]) (l.drop (q + 1))) := by
                                  show _ = _
                                  rw [HD.out, runC_good hb, prv_succ HF.out]
                                rw [htb] at HFo
                                clear HD hin hb hOp hq0 hj ha hpv hbad hfb hao hk0 htb
                                go_wp2_with (first
                                  | (at_builtin; refine Lib.wpList_append_run _ rfl _ _ _ _ rfl _ _ rfl rfl _ _ hr ?_)
                                  | (go_at_call 52; refine (HO _).mono ?_; rintro e w6 ⟨rfl, rfl⟩))
                                refine wp_region_held_drew (S := fun w' => w'.cell? ⟨g, o + j * 10, none⟩ = some (.int .u64 a.num) ∧ w'.cell? ⟨g, o + j * 10 + 1, none⟩ = some (.int .u64 a.size) ∧ w'.cell? ⟨g, o + j * 10 + 2, none⟩ = some (.string a.sm.u) ∧ w'.cell? ⟨g, o + j * 10 + 3, none⟩ = some (.int .u64 a.sm.s) ∧ w'.cell? ⟨g, o + j * 10 + 4, none⟩ = some (.int .i64 a.sm.k) ∧ w'.cell? ⟨g, o + j * 10 + 5, none⟩ = some (.string a.la.u) ∧ w'.cell? ⟨g, o + j * 10 + 6, none⟩ = some (.int .u64 a.la.s) ∧ w'.cell? ⟨g, o + j * 10 + 7, none⟩ = some (.int .i64 a.la.k) ∧ w'.cell? ⟨g, o + j * 10 + 8, none⟩ = some (.int .u64 a.ents) ∧ w'.cell? ⟨g, o + j * 10 + 9, none⟩ = some (.int .u64 a.rngs) ∧
                                                                w'.cell? ⟨WA.heap.size, 0, none⟩ = some (.int .u64 f.num) ∧ w'.cell? ⟨WA.heap.size, 1, none⟩ = some (.int .u64 f.size) ∧ w'.cell? ⟨WA.heap.size, 2, none⟩ = some (.string f.sm.u) ∧ w'.cell? ⟨WA.heap.size, 3, none⟩ = some (.int .u64 f.sm.s) ∧ w'.cell? ⟨WA.heap.size, 4, none⟩ = some (.int .i64 f.sm.k) ∧ w'.cell? ⟨WA.heap.size, 5, none⟩ = some (.string f.la.u) ∧ w'.cell? ⟨WA.heap.size, 6, none⟩ = some (.int .u64 f.la.s) ∧ w'.cell? ⟨WA.heap.size, 7, none⟩ = some (.int .i64 f.la.k) ∧ w'.cell? ⟨WA.heap.size, 8, none⟩ = some (.int .u64 f.ents) ∧ w'.cell? ⟨WA.heap.size, 9, none⟩ = some (.int .u64 f.rngs) ∧ w'.cell? ⟨w.heap.size, k, none⟩ = some (.slice (some ⟨g, o, none⟩) n (V.c k))) (by kernel_rfl) ?_ (fun hHeld => ?_)
                                · (try dsimp only); exact ⟨r0, r1, r2, r3, r4, r5, r6, r7, r8, r9, p0, p1, p2, p3, p4, p5, p6, p7, p8, p9, k6⟩
                                refine wpAnyH_take (i := 0) (v := ?_) (by simp only [List.getElem?_toArray, List.getElem?_cons_zero, List.getElem?_cons_succ]; rfl) (by kernel_rfl) (by kernel_rfl) (by kernel_rfl) (by intro _ _ _ h; exact h) (Or.inl ⟨by rfl, ?_⟩) (by assumption) ?_
                                rotate_left
                                · intro w hSw; (try dsimp only at hSw); go_simp; (try with_reducible rfl)
                                (try simp only [Act.put, List.setIfInBounds_toArray, List.set_cons_zero, List.set_cons_succ])
                                refine wpAnyH_take (i := 1) (v := ?_) (by simp only [List.getElem?_toArray, List.getElem?_cons_zero, List.getElem?_cons_succ]; rfl) (by kernel_rfl) (by kernel_rfl) (by kernel_rfl) (by intro _ _ _ h; exact h) (Or.inl ⟨by rfl, ?_⟩) (by assumption) ?_
                                rotate_left
                                · intro w hSw; (try dsimp only at hSw); go_simp; (try with_reducible rfl)
                                (try simp only [Act.put, List.setIfInBounds_toArray, List.set_cons_zero, List.set_cons_succ])
                                refine wpAnyH_take (i := 2) (v := ?_) (by simp only [List.getElem?_toArray, List.getElem?_cons_zero, List.getElem?_cons_succ]; rfl) (by kernel_rfl) (by kernel_rfl) (by kernel_rfl) (by intro _ _ _ h; exact h) (Or.inl ⟨by rfl, ?_⟩) (by assumption) ?_
                                rotate_left
                                · intro w hSw; (try dsimp only at hSw); go_simp; (try with_reducible rfl)
                                (try simp only [Act.put, List.setIfInBounds_toArray, List.set_cons_zero, List.set_cons_succ])
                                refine wpAnyH_take (i := 3) (v := ?_) (by simp only [List.getElem?_toArray, List.getElem?_cons_zero, List.getElem?_cons_succ]; rfl) (by kernel_rfl) (by kernel_rfl) (by kernel_rfl) (by intro _ _ _ h; exact h) (Or.inl ⟨by rfl, ?_⟩) (by assumption) ?_
                                rotate_left
                                · intro w hSw; (try dsimp only at hSw); go_simp; (try with_reducible rfl)
                                (try simp only [Act.put, List.setIfInBounds_toArray, List.set_cons_zero, List.set_cons_succ])
                                refine wpAnyH_take (i := 4) (v := ?_) (by simp only [List.getElem?_toArray, List.getElem?_cons_zero, List.getElem?_cons_succ]; rfl) (by kernel_rfl) (by kernel_rfl) (by kernel_rfl) (by intro _ _ _ h; exact h) (Or.inl ⟨by rfl, ?_⟩) (by assumption) ?_
                                rotate_left
                                · intro w hSw; (try dsimp only at hSw); go_simp; (try with_reducible rfl)
                                (try simp only [Act.put, List.setIfInBounds_toArray, List.set_cons_zero, List.set_cons_succ])
                                refine wpAnyH_take (i := 5) (v := ?_) (by simp only [List.getElem?_toArray, List.getElem?_cons_zero, List.getElem?_cons_succ]; rfl) (by kernel_rfl) (by kernel_rfl) (by kernel_rfl) (by intro _ _ _ h; exact h) (Or.inl ⟨by rfl, ?_⟩) (by assumption) ?_
                                rotate_left
                                · intro w hSw; (try dsimp only at hSw); go_simp; (try with_reducible rfl)
                                (try simp only [Act.put, List.setIfInBounds_toArray, List.set_cons_zero, List.set_cons_succ])
                                refine wpAnyH_take (i := 6) (v := undef) (by simp only [List.getElem?_toArray, List.getElem?_cons_zero, List.getElem?_cons_succ]; rfl) (by kernel_rfl) (by kernel_rfl) (by kernel_rfl) (by intro _ _ _ h; exact h) (Or.inr ⟨by rfl, rfl⟩) (by assumption) ?_
                                (try simp only [Act.put, List.setIfInBounds_toArray, List.set_cons_zero, List.set_cons_succ])
                                refine wpAnyH_take (i := 7) (v := undef) (by simp only [List.getElem?_toArray, List.getElem?_cons_zero, List.getElem?_cons_succ]; rfl) (by kernel_rfl) (by kernel_rfl) (by kernel_rfl) (by intro _ _ _ h; exact h) (Or.inr ⟨by rfl, rfl⟩) (by assumption) ?_
                                (try simp only [Act.put, List.setIfInBounds_toArray, List.set_cons_zero, List.set_cons_succ])
                                refine wpAnyH_take (i := 8) (v := undef) (by simp only [List.getElem?_toArray, List.getElem?_cons_zero, List.getElem?_cons_succ]; rfl) (by kernel_rfl) (by kernel_rfl) (by kernel_rfl) (by intro _ _ _ h; exact h) (Or.inr ⟨by rfl, rfl⟩) (by assumption) ?_
                                (try simp only [Act.put, List.setIfInBounds_toArray, List.set_cons_zero, List.set_cons_succ])
                                refine wpAnyH_take (i := 9) (v := undef) (by simp only [List.getElem?_toArray, List.getElem?_cons_zero, List.getElem?_cons_succ]; rfl) (by kernel_rfl) (by kernel_rfl) (by kernel_rfl) (by intro _ _ _ h; exact h) (Or.inr ⟨by rfl, rfl⟩) (by assumption) ?_
                                (try simp only [Act.put, List.setIfInBounds_toArray, List.set_cons_zero, List.set_cons_succ])
                                refine wpAnyH_take (i := 10) (v := undef) (by simp only [List.getElem?_toArray, List.getElem?_cons_zero, List.getElem?_cons_succ]; rfl) (by kernel_rfl) (by kernel_rfl) (by kernel_rfl) (by intro _ _ _ h; exact h) (Or.inr ⟨by rfl, rfl⟩) (by assumption) ?_
                                (try simp only [Act.put, List.setIfInBounds_toArray, List.set_cons_zero, List.set_cons_succ])
                                refine wpAnyH_take (i := 11) (v := undef) (by simp only [List.getElem?_toArray, List.getElem?_cons_zero, List.getElem?_cons_succ]; rfl) (by kernel_rfl) (by kernel_rfl) (by kernel_rfl) (by intro _ _ _ h; exact h) (Or.inr ⟨by rfl, rfl⟩) (by assumption) ?_
                                (try simp only [Act.put, List.setIfInBounds_toArray, List.set_cons_zero, List.set_cons_succ])
                                refine wpAnyH_take (i := 12) (v := undef) (by simp only [List.getElem?_toArray, List.getElem?_cons_zero, List.getElem?_cons_succ]; rfl) (by kernel_rfl) (by kernel_rfl) (by kernel_rfl) (by intro _ _ _ h; exact h) (Or.inr ⟨by rfl, rfl⟩) (by assumption) ?_
                                (try simp only [Act.put, List.setIfInBounds_toArray, List.set_cons_zero, List.set_cons_succ])
                                refine wpAnyH_take (i := 13) (v := undef) (by simp only [List.getElem?_toArray, List.getElem?_cons_zero, List.getElem?_cons_succ]; rfl) (by kernel_rfl) (by kernel_rfl) (by kernel_rfl) (by intro _ _ _ h; exact h) (Or.inr ⟨by rfl, rfl⟩) (by assumption) ?_
                                (try simp only [Act.put, List.setIfInBounds_toArray, List.set_cons_zero, List.set_cons_succ])
                                refine wpAnyH_take (i := 14) (v := undef) (by simp only [List.getElem?_toArray, List.getElem?_cons_zero, List.getElem?_cons_succ]; rfl) (by kernel_rfl) (by kernel_rfl) (by kernel_rfl) (by intro _ _ _ h; exact h) (Or.inr ⟨by rfl, rfl⟩) (by assumption) ?_
                                (try simp only [Act.put, List.setIfInBounds_toArray, List.set_cons_zero, List.set_cons_succ])
                                refine wpAnyH_take (i := 15) (v := undef) (by simp only [List.getElem?_toArray, List.getElem?_cons_zero, List.getElem?_cons_succ]; rfl) (by kernel_rfl) (by kernel_rfl) (by kernel_rfl) (by intro _ _ _ h; exact h) (Or.inr ⟨by rfl, rfl⟩) (by assumption) ?_
                                (try simp only [Act.put, List.setIfInBounds_toArray, List.set_cons_zero, List.set_cons_succ])
                                refine wpAnyH_take (i := 16) (v := undef) (by simp only [List.getElem?_toArray, List.getElem?_cons_zero, List.getElem?_cons_succ]; rfl) (by kernel_rfl) (by kernel_rfl) (by kernel_rfl) (by intro _ _ _ h; exact h) (Or.inr ⟨by rfl, rfl⟩) (by assumption) ?_
                                (try simp only [Act.put, List.setIfInBounds_toArray, List.set_cons_zero, List.set_cons_succ])
                                refine wpAnyH_take (i := 17) (v := undef) (by simp only [List.getElem?_toArray, List.getElem?_cons_zero, List.getElem?_cons_succ]; rfl) (by kernel_rfl) (by kernel_rfl) (by kernel_rfl) (by intro _ _ _ h; exact h) (Or.inr ⟨by rfl, rfl⟩) (by assumption) ?_
                                (try simp only [Act.put, List.setIfInBounds_toArray, List.set_cons_zero, List.set_cons_succ])
                                refine wpAnyH_take (i := 18) (v := ?_) (by simp only [List.getElem?_toArray, List.getElem?_cons_zero, List.getElem?_cons_succ]; rfl) (by kernel_rfl) (by kernel_rfl) (by kernel_rfl) (by intro _ _ _ h; exact h) (Or.inl ⟨by rfl, ?_⟩) (by assumption) ?_
                                rotate_left
                                · intro w hSw; (try dsimp only at hSw); go_simp; (try with_reducible rfl)
                                (try simp only [Act.put, List.setIfInBounds_toArray, List.set_cons_zero, List.set_cons_succ])
                                refine wpAnyH_take (i := 19) (v := ?_) (by simp only [List.getElem?_toArray, List.getElem?_cons_zero, List.getElem?_cons_succ]; rfl) (by kernel_rfl) (by kernel_rfl) (by kernel_rfl) (by intro _ _ _ h; exact h) (Or.inl ⟨by rfl, ?_⟩) (by assumption) ?_
                                rotate_left
                                · intro w hSw; (try dsimp only at hSw); go_simp; (try with_reducible rfl)
                                (try simp only [Act.put, List.setIfInBounds_toArray, List.set_cons_zero, List.set_cons_succ])
                                refine wpAnyH_take (i := 20) (v := ?_) (by simp only [List.getElem?_toArray, List.getElem?_cons_zero, List.getElem?_cons_succ]; rfl) (by kernel_rfl) (by kernel_rfl) (by kernel_rfl) (by intro _ _ _ h; exact h) (Or.inl ⟨by rfl, ?_⟩) (by assumption) ?_
                                rotate_left
                                · intro w hSw; (try dsimp only at hSw); go_simp; (try with_reducible rfl)
                                (try simp only [Act.put, List.setIfInBounds_toArray, List.set_cons_zero, List.set_cons_succ])
                                refine wpAnyH_take (i := 21) (v := ?_) (by simp only [List.getElem?_toArray, List.getElem?_cons_zero, List.getElem?_cons_succ]; rfl) (by kernel_rfl) (by kernel_rfl) (by kernel_rfl) (by intro _ _ _ h; exact h) (Or.inl ⟨by rfl, ?_⟩) (by assumption) ?_
                                rotate_left
                                · intro w hSw; (try dsimp only at hSw); go_simp; (try with_reducible rfl)
                                (try simp only [Act.put, List.setIfInBounds_toArray, List.set_cons_zero, List.set_cons_succ])
                                refine wpAnyH_take (i := 22) (v := ?_) (by simp only [List.getElem?_toArray, List.getElem?_cons_zero, List.getElem?_cons_succ]; rfl) (by kernel_rfl) (by kernel_rfl) (by kernel_rfl) (by intro _ _ _ h; exact h) (Or.inl ⟨by rfl, ?_⟩) (by assumption) ?_
                                rotate_left
                                · intro w hSw; (try dsimp only at hSw); go_simp; (try with_reducible rfl)
                                (try simp only [Act.put, List.setIfInBounds_toArray, List.set_cons_zero, List.set_cons_succ])
                                refine wpAnyH_take (i := 23) (v := ?_) (by simp only [List.getElem?_toArray, List.getElem?_cons_zero, List.getElem?_cons_succ]; rfl) (by kernel_rfl) (by kernel_rfl) (by kernel_rfl) (by intro _ _ _ h; exact h) (Or.inl ⟨by rfl, ?_⟩) (by assumption) ?_
                                rotate_left
                                · intro w hSw; (try dsimp only at hSw); go_simp; (try with_reducible rfl)
                                (try simp only [Act.put, List.setIfInBounds_toArray, List.set_cons_zero, List.set_cons_succ])
                                refine wpAnyH_take (i := 24) (v := ?_) (by simp only [List.getElem?_toArray, List.getElem?_cons_zero, List.getElem?_cons_succ]; rfl) (by kernel_rfl) (by kernel_rfl) (by kernel_rfl) (by intro _ _ _ h; exact h) (Or.inl ⟨by rfl, ?_⟩) (by assumption) ?_
                                rotate_left
                                · intro w hSw; (try dsimp only at hSw); go_simp; (try with_reducible rfl)
                                (try simp only [Act.put, List.setIfInBounds_toArray, List.set_cons_zero, List.set_cons_succ])
                                refine wpAnyH_take (i := 25) (v := ?_) (by simp only [List.getElem?_toArray, List.getElem?_cons_zero, List.getElem?_cons_succ]; rfl) (by kernel_rfl) (by kernel_rfl) (by kernel_rfl) (by intro _ _ _ h; exact h) (Or.inl ⟨by rfl, ?_⟩) (by assumption) ?_
                                rotate_left
                                · intro w hSw; (try dsimp only at hSw); go_simp; (try with_reducible rfl)
                                (try simp only [Act.put, List.setIfInBounds_toArray, List.set_cons_zero, List.set_cons_succ])
                                refine wpAnyH_take (i := 26) (v := ?_) (by simp only [List.getElem?_toArray, List.getElem?_cons_zero, List.getElem?_cons_succ]; rfl) (by kernel_rfl) (by kernel_rfl) (by kernel_rfl) (by intro _ _ _ h; exact h) (Or.inl ⟨by rfl, ?_⟩) (by assumption) ?_
                                rotate_left
                                · intro w hSw; (try dsimp only at hSw); go_simp; (try with_reducible rfl)
                                (try simp only [Act.put, List.setIfInBounds_toArray, List.set_cons_zero, List.set_cons_succ])
                                refine wpAnyH_take (i := 27) (v := ?_) (by simp only [List.getElem?_toArray, List.getElem?_cons_zero, List.getElem?_cons_succ]; rfl) (by kernel_rfl) (by kernel_rfl) (by kernel_rfl) (by intro _ _ _ h; exact h) (Or.inl ⟨by rfl, ?_⟩) (by assumption) ?_
                                rotate_left
                                · intro w hSw; (try dsimp only at hSw); go_simp; (try with_reducible rfl)
                                (try simp only [Act.put, List.setIfInBounds_toArray, List.set_cons_zero, List.set_cons_succ])
                                refine wpAnyH_take (i := 28) (v := ?_) (by simp only [List.getElem?_toArray, List.getElem?_cons_zero, List.getElem?_cons_succ]; rfl) (by kernel_rfl) (by kernel_rfl) (by kernel_rfl) (by intro _ _ _ h; exact h) (Or.inl ⟨by rfl, ?_⟩) (by assumption) ?_
                                rotate_left
                                · intro w hSw; (try dsimp only at hSw); go_simp; (try with_reducible rfl)
                                (try simp only [Act.put, List.setIfInBounds_toArray, List.set_cons_zero, List.set_cons_succ])
                                refine wpAnyH_take (i := 29) (v := ?_) (by simp only [List.getElem?_toArray, List.getElem?_cons_zero, List.getElem?_cons_succ]; rfl) (by kernel_rfl) (by kernel_rfl) (by kernel_rfl) (by intro _ _ _ h; exact h) (Or.inl ⟨by rfl, ?_⟩) (by assumption) ?_
                                rotate_left
                                · intro w hSw; (try dsimp only at hSw); go_simp; (try with_reducible rfl)
                                (try simp only [Act.put, List.setIfInBounds_toArray, List.set_cons_zero, List.set_cons_succ])
                                refine wpAnyH_take (i := 30) (v := ?_) (by simp only [List.getElem?_toArray, List.getElem?_cons_zero, List.getElem?_cons_succ]; rfl) (by kernel_rfl) (by kernel_rfl) (by kernel_rfl) (by intro _ _ _ h; exact h) (Or.inl ⟨by rfl, ?_⟩) (by assumption) ?_
                                rotate_left
                                · intro w hSw; (try dsimp only at hSw); go_simp; (try with_reducible rfl)
                                (try simp only [Act.put, List.setIfInBounds_toArray, List.set_cons_zero, List.set_cons_succ])
                                refine wpAnyH_take (i := 31) (v := ?_) (by simp only [List.getElem?_toArray, List.getElem?_cons_zero, List.getElem?_cons_succ]; rfl) (by kernel_rfl) (by kernel_rfl) (by kernel_rfl) (by intro _ _ _ h; exact h) (Or.inl ⟨by rfl, ?_⟩) (by assumption) ?_
                                rotate_left
                                · intro w hSw; (try dsimp only at hSw); go_simp; (try with_reducible rfl)
                                (try simp only [Act.put, List.setIfInBounds_toArray, List.set_cons_zero, List.set_cons_succ])
                                refine wpAnyH_take (i := 32) (v := ?_) (by simp only [List.getElem?_toArray, List.getElem?_cons_zero, List.getElem?_cons_succ]; rfl) (by kernel_rfl) (by kernel_rfl) (by kernel_rfl) (by intro _ _ _ h; exact h) (Or.inl ⟨by rfl, ?_⟩) (by assumption) ?_
                                rotate_left
                                · intro w hSw; (try dsimp only at hSw); go_simp; (try with_reducible rfl)
                                (try simp only [Act.put, List.setIfInBounds_toArray, List.set_cons_zero, List.set_cons_succ])
                                refine wpAnyH_ready (rs := [33]) (by kernel_rfl) (by simp) ?_
                                refine AllReadyH.cons rfl (fun K hK => ?_) AllReadyH.nil
                                refine step_call60 (by rfl) (by rfl) _ _ _ _ (by rfl) _ _ _ (by rfl) (by rfl) (by rfl) (HFo _) ?_
                                rintro e w7 ⟨rfl, hb7⟩
                                refine ⟨_, rfl, ?_⟩
                                have HB7 : Hid (Below W1.heap.size W1 w7) := bstep HW6.out.drew hb7
                                have HU7 : Hid (RowU w7 W1.heap.size (.slice va5 (s.length + 1) vc5) (s ++ [f.num])) := row_upd (S := Non) HU6.out (Upd.ofBelow (bstep (Below.refl _ _).drew hb7)) (fun _ _ h => h)
                                obtain ⟨c0, c1, c2, c3, c4, c5, c6, c7, c8, c9⟩ := HRa.out _ (bstep HBw.out HB7.out)
                                have X7 := HX6.out.drew.upd (S := Non) (Upd.ofBelow hb7) (fun h => h)
                                have k7' := HKk.out _ HB7.out
                                rw [HG.out] at k7'
                                refine hK.out _ _ ⟨c0, c1, c2, c3, c4, c5, c6, c7, c8, c9, X7.cell1 0 _ rfl, X7.cell1 1 _ rfl, X7.cell1 2 _ rfl, X7.cell1 3 _ rfl, X7.cell1 4 _ rfl, X7.cell1 5 _ rfl, X7.cell1 6 _ rfl, X7.cell1 7 _ rfl, X7.cell1 8 _ rfl, X7.cell1 9 _ rfl, k7'⟩ (fun hHeld => ?_)
                                clear hb7 c0 c1 c2 c3 c4 c5 c6 c7 c8 c9 X7 k7'
                                clear hK K
                                (try simp only [Act.put, List.setIfInBounds_toArray, List.set_cons_zero, List.set_cons_succ])
                                refine wpAnyH_take (i := 34) (v := ?_) (by simp only [List.getElem?_toArray, List.getElem?_cons_zero, List.getElem?_cons_succ]; rfl) (by kernel_rfl) (by kernel_rfl) (by kernel_rfl) (by intro _ _ _ h; exact h) (Or.inl ⟨by rfl, ?_⟩) (by assumption) ?_
                                rotate_left
                                · intro w hSw; (try dsimp only at hSw); go_simp; (try with_reducible rfl)
                                (try simp only [Act.put, List.setIfInBounds_toArray, List.set_cons_zero, List.set_cons_succ])
                                refine wpAnyH_take (i := 35) (v := ?_) (by simp only [List.getElem?_toArray, List.getElem?_cons_zero, List.getElem?_cons_succ]; rfl) (by kernel_rfl) (by kernel_rfl) (by kernel_rfl) (by intro _ _ _ h; exact h) (Or.inl ⟨by rfl, ?_⟩) (by assumption) ?_
                                rotate_left
                                · intro w hSw; (try dsimp only at hSw); go_simp; (try with_reducible rfl)
                                (try simp only [Act.put, List.setIfInBounds_toArray, List.set_cons_zero, List.set_cons_succ])
                                refine wpAnyH_take (i := 36) (v := ?_) (by simp only [List.getElem?_toArray, List.getElem?_cons_zero, List.getElem?_cons_succ]; rfl) (by kernel_rfl) (by kernel_rfl) (by kernel_rfl) (by intro _ _ _ h; exact h) (Or.inl ⟨by rfl, ?_⟩) (by assumption) ?_
                                rotate_left
                                · intro w hSw; (try dsimp only at hSw); go_simp; (try with_reducible rfl)
                                (try simp only [Act.put, List.setIfInBounds_toArray, List.set_cons_zero, List.set_cons_succ])
                                refine wpAnyH_take (i := 37) (v := ?_) (by simp only [List.getElem?_toArray, List.getElem?_cons_zero, List.getElem?_cons_succ]; rfl) (by kernel_rfl) (by kernel_rfl) (by kernel_rfl) (by intro _ _ _ h; exact h) (Or.inl ⟨by rfl, ?_⟩) (by assumption) ?_
                                rotate_left
                                · intro w hSw; (try dsimp only at hSw); go_simp; (try with_reducible rfl)
                                (try simp only [Act.put, List.setIfInBounds_toArray, List.set_cons_zero, List.set_cons_succ])
                                refine wpAnyH_done (by kernel_rfl) ?_ _
                                clear hHeld
                                go_wp2
                                go_roundw
                                case rel => exact ⟨q + 1, s ++ [f.num], by omega, by go_num, HRn.out, HPn.out, HSl.out, HU7.out, HB7.out⟩
                                case measure => simp [intOf]; omega
                  · have hA' : (fchk f != 0) = true := by simp [hA]
                    have hres : Hid (RES = fchk f) := by show _ = _; rw [HD.out]; exact (runC_bad (by unfold badF; rw [if_pos hA]; exact hA)).trans (by unfold badF; rw [if_pos hA])
                    clear HD
                    go_wp2_with (go_at_call 59; refine (rfile_any f _).mono ?_; rintro e w3 ⟨rfl, hb3⟩)
                    go_ret
                    exact ⟨ret_ii hres.out.symm, bstep HBw.out (bstep HBa.out hb3)⟩
                · obtain rfl : q = n := by omega
                  have hz : ¬ ((q : Int) < q) := by omega
                  have HRr : Hid (RES = runL how L (7 - (k + 1)) (k + 1) s) := by
                    show _ = _
                    rw [HR.out, List.drop_of_length_le (by rw [hn.out]; exact Nat.le_refl _), runC_nil]
                  have HSr : Hid (s.length = cntV L (k + 1)) := by show _ = _; rw [HSn.out, HCk.out, hn.out]
                  clear HR HSn
                  go_wp2
                  go_roundw
                  case rel => exact ⟨k + 1, s, by omega, by go_num, HRr.out, HSr.out, HU.out, HB.out⟩
                  case measure => simp [intOf]; omega
            · obtain rfl : k = 7 := by omega
              have hres : Hid (RES = 0) := by show _ = _; rw [HR.out]; rfl
              go_wp2
              go_ret
              exact ⟨ret_ii hres.out.symm, bstep HBw.out HB.out⟩
end Go.Proofs.Ytkmpcheamdadcaa
