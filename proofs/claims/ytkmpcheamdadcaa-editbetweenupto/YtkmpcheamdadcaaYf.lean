/-
  The reference's Apply: the walk.
-/
import Derived.Test.YtkmpcheamdadcaaYe
import Derived.Test.YtkmpcheamdadcaaVg
import Derived.BigQuiet
import Derived.Deep.DeepCutAuto
namespace Go.Proofs.Ytkmpcheamdadcaa
open Go.RowKit
set_option linter.unusedVariables false
set_option linter.unusedSimpArgs false
theorem rapp_no {w W : World} (hb : Below w.heap.size w W) {R : Nat} (hR : w.heap.size ≤ R) {r : Int × (Nat → List Fi)} {c : Int} (hr : r = (c, fun _ => [])) (a b d e f g h : Value) :
    RApp w r (.returned (.tuple #[.agg #[.slice none 0 0, .slice none 0 0, .slice none 0 0, .slice none 0 0, .slice none 0 0, .slice none 0 0, .slice none 0 0], .int .i64 c])) (((((((W.setCell ⟨R, 0, none⟩ a).setCell ⟨R, 1, none⟩ b).setCell ⟨R, 2, none⟩ d).setCell ⟨R, 3, none⟩ e).setCell ⟨R, 4, none⟩ f).setCell ⟨R, 5, none⟩ g).setCell ⟨R, 6, none⟩ h) :=
  (app_no hb hR hr a b d e f g h).r
theorem step_call52 {ops : Array Oper} {o : Oper} {a : Act} {w : World} {K : Act → World → Prop} {Q : Exit → Act → World → Prop} {Ex : Prop} (hw : Region.wanted o (yielded ops a.tmps) = true) {d : Nat} (hd : o.dst = some d) (x y z : Operand) (ts : Array TypeId)
    (ho : o.op = .call { callee := .value (.func 52), args := #[x, y, z], argTypes := ts }) (u v q : Value) (hx : a.eval x = u) (hy : a.eval y = v) (hz : a.eval z = q) {R : Ending → World → Prop} (hc : Calls Try.prog 52 #[u, v, q] w R)
    (h : ∀ e w', R e w' → ∃ r, e = .returned r ∧ K (a.put (some d) r) w') :
    if Region.wanted o (yielded ops a.tmps) = true then Oper.wp Try.prog o a w K Q else Ex := by
  rw [if_pos hw]
  have he := enters_of (P := Try.prog) Try.func52 (by kernel_rfl) rfl #[u, v, q]
  unfold Oper.wp execOp
  simp only [ho, resolve, invoke, Sem.run_bind, Sem.run_pure, Result.andThen_ok, List.map_toArray, List.map_cons, List.map_nil, hx, hy, hz, go_sem]
  show Oper.upon Try.prog o a K Q (Sem.run Try.prog (callFunc 52 (#[] ++ #[a.eval x, a.eval y, a.eval z] ++ #[])) w)
  rw [show (#[] ++ #[a.eval x, a.eval y, a.eval z] ++ #[] : Array Value) = #[u, v, q] by simp [hx, hy, hz], he, Oper.upon_enter]
  refine hc.mono ?_
  intro e w' hR
  obtain ⟨r, rfl, hk⟩ := h e w' hR
  show K (a.put o.dst r) w'
  rw [hd]; exact hk
theorem rdf_upd {W W' : World} {X : Nat} {f : Nat → Value} (hB : Blk W X 41 (cells7 f)) (hf : ∀ i, ∃ a n c, f i = .slice a n c) {a : Option Addr} {l : List Fi} (h : RdF W a l) (u : Upd (fun k => k = X) W W') : RdF W' a l := by
  rcases h with rfl | ⟨g, o, rfl, hc⟩
  · exact .inl rfl
  · refine .inr ⟨g, o, rfl, fun j x hj k v hv => ?_⟩
    have h0 := (hc j x hj).f.1
    have hne : g ≠ X := by
      rintro rfl
      rw [hB.cell] at h0
      have h7 : o + j * 10 < 7 := by
        have := (List.getElem?_eq_some_iff.1 h0).1
        simpa using this
      rw [cells7_get _ _ h7] at h0
      obtain ⟨a, n, c, e⟩ := hf (o + j * 10)
      rw [e] at h0
      cases h0
    exact cell_upd u hne (hc j x hj k v hv)
theorem blk_rdf {w : World} {b : Nat} {f : Fi} (h : Blk w b 50 f.c) : RdF w (some ⟨b, 0, none⟩) [f] := .inr ⟨b, 0, rfl, fun j y hj i v hv => by
  cases j with
  | zero => simp at hj; subst hj; rw [Nat.zero_mul, Nat.add_zero, Nat.zero_add]; exact h.cell1 i v hv
  | succ j => simp at hj⟩
theorem srcF (w : World) (f : Fi) : RdF (w.alloc f.o) (some ⟨w.heap.size, 0, none⟩) [f] := blk_rdf (box_new w f)
theorem cset {w : World} {X n : Nat} {v : Value} {g o : Nat} {u : Value} (hne : g ≠ X) (h : w.cell? ⟨g, o, none⟩ = some u) : (w.setCell ⟨X, n, none⟩ v).cell? ⟨g, o, none⟩ = some u := by
  rw [World.cell?_setCell_other _ _ _ _ (by intro e; cases e; exact hne rfl)]; exact h
theorem fi_numB {l : List Fi} {i : Nat} {f : Fi} {p : Fi → Bool} (hf : l[i]? = some f) : (l.drop i).findIdx p = if p f then 0 else (l.drop (i + 1)).findIdx p + 1 := by
  rw [drop_get hf, List.findIdx_cons]
  cases p f <;> rfl
set_option maxRecDepth 100000 in
set_option maxHeartbeats 2000000 in
theorem rapply_any {w : World} {V : Vn} {L : Nat → List Fi} (h : RdV w V L) (hcap : ∀ i, i < 7 → (L i).length ≤ V.c i) {P : En} {e : Ed} (he : RdEd w P e) (hao : ∀ a ∈ e.added, FOk a.f) (how : Int) :
    Calls Try.prog 19 #[.int .i64 how, .agg (verA V L), .agg (edA P e)] w (RApp w (appR how L e)) := by
  have HV : Hid (RdV w V L) := h
  have HE : Hid (RdEd w P e) := he
  have HAo : Hid (∀ a ∈ e.added, FOk a.f) := hao
  have HCk : Hid (∀ W, Below w.heap.size w W → Calls Try.prog 22 #[.int .i64 how, .agg (verA V L)] W fun en w' => en = .returned (.int .i64 (chkE how L)) ∧ Below W.heap.size W w') := fun W hb => qcheck_any (HV.out.below hb) how
  have HCe : Hid (∀ W, Below w.heap.size w W → Calls Try.prog 36 #[.agg (edA P e)] W fun en w' => en = .returned (.int .i64 (canE e)) ∧ Below W.heap.size W w') := fun W hb => rcan_any (HE.out.below hb)
  obtain ⟨RES, hRES⟩ : ∃ RES, Hid (appR how L e = RES) := ⟨_, rfl⟩
  rw [hRES.out]
  obtain ⟨C1, hC1⟩ : ∃ C1, Hid (chkE how L = C1) := ⟨_, rfl⟩
  rw [hC1.out] at HCk
  obtain ⟨C2, hC2⟩ : ∃ C2, Hid (canE e = C2) := ⟨_, rfl⟩
  rw [hC2.out] at HCe
  have hb1 : Below w.heap.size w (((w.alloc (.cells (verA V L) 41)).alloc (edO P e)).alloc (.cells #[.slice none 0 0, .slice none 0 0, .slice none 0 0, .slice none 0 0, .slice none 0 0, .slice none 0 0, .slice none 0 0] 41)) := bstep (bstep (al1 _ _) (al1 _ _)) (al1 _ _)
  have B0 := ((Blk.new w 41 (cells7 (vsl V L))).alloc (edO P e)).alloc (.cells #[.slice none 0 0, .slice none 0 0, .slice none 0 0, .slice none 0 0, .slice none 0 0, .slice none 0 0, .slice none 0 0] 41)
  have B1 := (ed_box (w.alloc (.cells (verA V L) 41)) P e).alloc (.cells #[.slice none 0 0, .slice none 0 0, .slice none 0 0, .slice none 0 0, .slice none 0 0, .slice none 0 0, .slice none 0 0] 41)
  have B2 := Blk.new ((w.alloc (.cells (verA V L) 41)).alloc (edO P e)) 41 (cells7 nil7)
  simp only [World.size_alloc] at B1 B2
  have H22 := HCk.out _ hb1
  have HL0 : Hid (C1 = 0 → ∀ i, i < 7 → (L i).length ≤ 1024) := fun hc => fun i hi => chk_len (hC1.out.trans hc) i hi
  have HB1 : Hid (Below w.heap.size w (((w.alloc (.cells (verA V L) 41)).alloc (edO P e)).alloc (.cells #[.slice none 0 0, .slice none 0 0, .slice none 0 0, .slice none 0 0, .slice none 0 0, .slice none 0 0, .slice none 0 0] 41)) ∧
      Blk (((w.alloc (.cells (verA V L) 41)).alloc (edO P e)).alloc (.cells #[.slice none 0 0, .slice none 0 0, .slice none 0 0, .slice none 0 0, .slice none 0 0, .slice none 0 0, .slice none 0 0] 41)) (w.heap.size + 1) 27 (edA P e).toList ∧
      Blk (((w.alloc (.cells (verA V L) 41)).alloc (edO P e)).alloc (.cells #[.slice none 0 0, .slice none 0 0, .slice none 0 0, .slice none 0 0, .slice none 0 0, .slice none 0 0, .slice none 0 0] 41)) (w.heap.size + 1 + 1) 41 (cells7 nil7)) := ⟨hb1, B1, B2⟩
  have HQ : Hid (C1 = 0 → Qv w (((w.alloc (.cells (verA V L) 41)).alloc (edO P e)).alloc (.cells #[.slice none 0 0, .slice none 0 0, .slice none 0 0, .slice none 0 0, .slice none 0 0, .slice none 0 0, .slice none 0 0] 41)) P e V L 1024) := fun hc =>
    ⟨hb1, B0, B1, B2, fun i hi => (HV.out.rd i hi).below hb1, HV.out.nil, hcap, HL0.out hc, HV.out.ok⟩
  clear h he hao hb1 B0 B1 B2 hcap
  by_cases hc1 : C1 = 0
  · have hc1' : (C1 != 0) = false := by simp [hc1]
    by_cases hc2 : C2 = 0
    · have hc2' : (C2 != 0) = false := by simp [hc2]
      have hr : Hid (RES = restR how (gonL L e.gone) e.added) := by
        show _ = _
        rw [← hRES.out]; exact appR_rest (hC1.out.trans hc1) (hC2.out.trans hc2)
      have hz := canE_zero (hC2.out.trans hc2)
      have HGz : Hid (∀ g ∈ e.gone, isLvB g.lv = true) := hz.1
      have HAz : Hid (∀ a ∈ e.added, isLvB a.lv = true) := hz.2.1
      have HLz : Hid (e.gone.length + e.added.length ≤ 1024) := hz.2.2
      clear hRES hz
      go_enter Try.func19, Try.ntmps19
      go_wp2_with (first
        | (go_at_call 22; refine H22.mono ?_; rintro en w2 ⟨rfl, hb2⟩
           have X2 := HB1.out.2.1.upd (S := Non) (Upd.ofBelow hb2) (fun h => h)
           obtain ⟨d0, d1, d2, d3, d4, d5, d6, d7, d8, d9, d10, d11, d12, ld⟩ := ed13 X2
           have H36 := HCe.out _ (bstep HB1.out.1 hb2)
           clear X2)
        | (go_at_call 36; refine H36.mono ?_; rintro en w3 ⟨rfl, hb3⟩
           have HQ3 : Hid (Qv w w3 P e V L 1024) := (HQ.out hc1).below (bstep hb2 hb3)))
      clear d0 d1 d2 d3 d4 d5 d6 d7 d8 d9 d10 d11 d12 hb2 hb3 H36 ld HQ HB1 H22
      obtain ⟨G, hG⟩ : ∃ G, Hid (e.gone.length = G) := ⟨_, rfl⟩
      have hGz : (G : Int) ≤ 1024 := by have := HLz.out; rw [hG.out] at this; omega
      rw [hG.out]
      go_loopw [10] (fun i wr => ∃ (k : Nat) (V' : Vn) (L' : Nat → List Fi), k ≤ G ∧ i = .int .i64 k ∧ Hid (RES = restR how (gonL L' (e.gone.drop k)) e.added) ∧ Hid (Qv w wr P e V' L' 1024)) (fun i _ => (G : Int).toNat - (intOf i).toNat)
      case atStart => exact ⟨0, V, L, Nat.zero_le _, rfl, hr.out, HQ3.out⟩
      case round =>
        clear HQ3 hr
        obtain ⟨k, V', L', hk, rfl, HR, HQ⟩ := hrel
        have d11 : wr.cell? ⟨w.heap.size + 1, 11, none⟩ = some (.slice P.ga G P.gc) := by
          have := HQ.out.edb.cell1 11 _ rfl
          rw [hG.out] at this
          exact this
        have ld := cell_lt d11
        by_cases hlt : k < G
        · have hkz : (k : Int) < (G : Int) := by omega
          obtain ⟨x, hx⟩ : ∃ x, e.gone[k]? = some x := ⟨_, List.getElem?_eq_getElem (by rw [hG.out]; exact hlt)⟩
          obtain ⟨g, o, hga, hat0⟩ := HE.out.g.at_ hx
          have hgl : g < w.heap.size := cell_lt hat0.g.1
          have hat : At Gn.c wr g (o + k * 2) x := hat0.keep fun i v h => cell_below HQ.out.bel h
          obtain ⟨n, hn, hn7⟩ := isLv_nat (HGz.out x (List.mem_of_getElem? hx))
          obtain ⟨y0, y1⟩ := hat.g
          have HGl : Hid (g ≠ w.heap.size) := by show g ≠ _; omega
          have HR1 : Hid (RES = restR how (gonL L' (x :: e.gone.drop (k + 1))) e.added) := by show _ = _; rw [← drop_get hx]; exact HR.out
          obtain ⟨xl, xn⟩ := x
          dsimp only at hn y0 y1
          subst hn
          have HR2 : Hid (RES = restR how (if (L' n).findIdx (numB xn) < (L' n).length then gonL (updL L' n (tdel (L' n) ((L' n).findIdx (numB xn)))) (e.gone.drop (k + 1)) else none) e.added) := by
            show _ = _
            rw [← gonL_cons]; exact HR1.out
          rw [hga] at d11
          have hnz : (n : Int) < 7 := by omega
          have cx : wr.cell? ⟨w.heap.size, n, none⟩ = some (.slice (V'.a n) (L' n).length (V'.c n)) := HQ.out.box.cell1 n _ (cells7_get _ n hn7)
          have lx := cell_lt cx
          have HCl : Hid ((L' n).length ≤ V'.c n ∧ (L' n).length ≤ 1024 ∧ (V'.a n = none → V'.c n = 0)) := ⟨HQ.out.cap n hn7, HQ.out.len n hn7, HQ.out.nil n hn7⟩
          have HRd : Hid (RdF wr (V'.a n) (L' n)) := HQ.out.rd n hn7
          have HGA : Hid (∀ W, Below wr.heap.size wr W → W.cell? ⟨w.heap.size + 1, 11, none⟩ = some (.slice (some ⟨g, o, none⟩) G P.gc) ∧ W.cell? ⟨g, o + k * 2, none⟩ = some (.int .i64 n) ∧ W.cell? ⟨g, o + k * 2 + 1, none⟩ = some (.int .u64 xn)) := fun W hb => ⟨cell_below hb d11, cell_below hb y0, cell_below hb y1⟩
          clear hx hat hat0 hgl HR HR1 hga
          obtain ⟨l, hl⟩ : ∃ l, Hid (L' n = l) := ⟨_, rfl⟩
          rw [hl.out] at HRd HCl HR2 cx
          obtain ⟨I, hI⟩ : ∃ I, Hid (l.findIdx (numB xn) = I) := ⟨_, rfl⟩
          rw [hI.out] at HR2
          obtain ⟨N, hN⟩ : ∃ N, Hid (l.length = N) := ⟨_, rfl⟩
          rw [hN.out] at HR2 cx HCl
          generalize hva : V'.a n = va at *
          generalize hvc : V'.c n = vc at *
          have HVa : Hid (V'.a n = va ∧ V'.c n = vc) := ⟨hva, hvc⟩
          have hNz : (N : Int) ≤ 1024 := by have := HCl.out.2.1; omega
          clear hva hvc
          obtain ⟨W4, rfl⟩ : ∃ W4, W4 = wr := ⟨_, rfl⟩
          go_wp2
          clear d11 ld y0 y1 cx lx
          go_loopw [12] (fun j wr => ∃ i : Nat, i ≤ N ∧ j = .int .i64 i ∧ Hid (I = i + (l.drop i).findIdx (numB xn)) ∧ Hid (Below W4.heap.size W4 wr)) (fun j _ => ((N : Int) - intOf j).toNat)
          case atStart => exact ⟨0, Nat.zero_le _, rfl, (show I = _ by rw [← hI.out]; simp), Below.refl _ _⟩
          case round =>
            obtain ⟨i, hi, rfl, HD, HB⟩ := hrel
            obtain ⟨d11, y0, y1⟩ := HGA.out wr HB.out
            have ld := cell_lt d11
            have ly := cell_lt y0
            have HQw : Hid (Qv w wr P e V' L' 1024) := HQ.out.below HB.out
            rcases Nat.lt_or_ge i N with hiN | hiN
            · have hiz : decide ((i : Int) < (N : Int)) = true := decide_eq_true (by omega)
              obtain ⟨f, hf⟩ : ∃ f, l[i]? = some f := ⟨_, List.getElem?_eq_getElem (by rw [hN.out]; exact hiN)⟩
              obtain ⟨ga, oa, e1, hat1⟩ := (HRd.out.below HB.out).at_ hf
              obtain ⟨z0, z1, z2, z3, z4, z5, z6, z7, z8, z9⟩ := hat1.f
              have HD' : Hid (I = i + if numB xn f then 0 else (l.drop (i + 1)).findIdx (numB xn) + 1) := by
                show _ = _
                rw [← fi_numB hf]; exact HD.out
              subst e1
              clear hf hat1 HD
              have hiz2 : (i : Int) < (N : Int) := by omega
              by_cases hnum : f.num = xn
              · have hq : (f.num != xn) = false := by simp [hnum]
                have hII : Hid (I = i) := by
                  have := HD'.out
                  rw [if_pos (by simp [numB, hnum])] at this
                  exact this
                clear HD'
                have hne : ((i : Int) == (N : Int)) = false := by simp; omega
                have HBq : Hid (∀ n, Below W4.heap.size W4 (wr.drewN n)) := fun n => belN HB.out n
                go_wp2_with (first | go_quiet (fail) | go_big_quiet (fail))
                have HB5 : Hid (Below W4.heap.size W4 (wr.drewN nq)) := HBq.out nq
                clear z0 z1 z2 z3 z4 z5 z6 z7 z8 z9 d11 y0 y1 ld ly HQw HB HBq hq
                generalize wr.drewN nq = W5 at *
                obtain ⟨d11, y0, _⟩ := HGA.out W5 HB5.out
                have ld := cell_lt d11
                have ly := cell_lt y0
                have HQ5 : Hid (Qv w W5 P e V' L' 1024) := HQ.out.below HB5.out
                have hwI : IntKind.i64.wrap ((i : Int) + 1) = (i : Int) + 1 := by rw [IntKind.wrap_i64]; omega
                obtain ⟨K, hK⟩ : ∃ K, i + 1 + K = N := ⟨N - (i + 1), by omega⟩
                have HK : Hid (i + 1 + K = N) := hK
                have hc1 : ∀ W, (Instr.sliceAt 38 (.slice (some ⟨ga, oa, none⟩) N vc) none (some (.int .i64 (i : Int))) none).run Try.prog W = .ok (.slice (some ⟨ga, oa, none⟩) i vc) W := fun W => cutL_run _ N vc i (by have := HCl.out.1; omega) W
                have HRb : Hid (RdF W5 (cutF (some ⟨ga, oa, none⟩) vc (i + 1)) (l.drop (i + 1))) := rdf_cut (HRd.out.below HB5.out) (by rw [hN.out]; exact HCl.out.1)
                have HRn : Hid (cutF (some ⟨ga, oa, none⟩) vc (i + 1) ≠ none) := fun h => by have := cutF_none h; cases this
                have hc2 : ∀ W, (Instr.sliceAt 38 (.slice (some ⟨ga, oa, none⟩) N vc) (some (.int .i64 ((i : Int) + 1))) none none).run Try.prog W = .ok (.slice (cutF (some ⟨ga, oa, none⟩) vc (i + 1)) K (vc - (i + 1))) W := fun W => by
                  have := cutF_run (some ⟨ga, oa, none⟩) N vc (i + 1) (by omega) W
                  rw [show ((i + 1 : Nat) : Int) = (i : Int) + 1 by omega, show N - (i + 1) = K by omega] at this
                  exact this
                have hR1 : RdF (W5.alloc (.cells #[] 50)).drew (some ⟨ga, oa, none⟩) (l.take i) := (rdf_take (HRd.out.below HB5.out) i).below (al1 _ (.cells #[] 50)).drew
                have hO1 : RowF (W5.alloc (.cells #[] 50)).drew W5.heap.size (.slice (some ⟨W5.heap.size, 0, none⟩) 0 0) [] := rowF0 W5 (Nat.le_refl _)
                have H1 := app_run (n := i) (n' := i) hO1 (al1 W5 (.cells #[] 50)).size hR1 (cap := vc) (fun h => by cases h) (by simp only [List.length_nil, List.length_take, Nat.zero_add]; omega) (by rw [List.length_take, hN.out]; omega) (by rw [List.nil_append, List.length_take, hN.out]; omega)
                rw [List.nil_append] at H1
                generalize cutF (some ⟨ga, oa, none⟩) vc (i + 1) = aK at *
                generalize vc - (i + 1) = cK at *
                obtain ⟨M, hM⟩ : ∃ M, i + K = M := ⟨_, rfl⟩
                have HM : Hid (i + K = M) := hM
                have hln : (l.take i ++ l.drop (i + 1)).length = M := by rw [List.length_append, List.length_take, List.length_drop, hN.out]; omega
                have hldr : (l.drop (i + 1)).length = K := by rw [List.length_drop, hN.out]; omega
                have HLn : Hid ((l.take i ++ l.drop (i + 1)).length = M ∧ (l.drop (i + 1)).length = K ∧ (l.take i).length = i) := ⟨hln, hldr, by rw [List.length_take, hN.out]; omega⟩
                clear hM hK hln hldr HB5 hR1 hO1
                have HA : Hid (∀ W, Below W5.heap.size W5 W → W.cell? ⟨w.heap.size + 1, 11, none⟩ = some (.slice (some ⟨g, o, none⟩) G P.gc) ∧ W.cell? ⟨g, o + k * 2, none⟩ = some (.int .i64 n)) := fun W hb => ⟨cell_below hb d11, cell_below hb y0⟩
                have hBw0 : Hid (w.heap.size < W5.heap.size) := HQ5.out.box.lt
                go_region_held_law (fun w' => w'.cell? ⟨w.heap.size + 1, 11, none⟩ = some (.slice (some ⟨g, o, none⟩) G P.gc) ∧ w'.cell? ⟨g, o + k * 2, none⟩ = some (.int .i64 n))
                  (first
                    | (go_keep; done)
                    | exact HS8.out
                    | exact HA.out _ HB8.out
                    | exact HA.out _ HB7.out)
                  (first
                    | (refine step_app (by rfl) (by rfl) _ _ (by rfl) (by rfl) (by rfl) H2 ?_
                       rintro v8 w8 ⟨a8, c8, rfl, hr8, hc8, hu8, hb8⟩
                       have HB8 : Hid (Below W5.heap.size W5 w8) := HB7.out.trans hb8
                       obtain ⟨V8, hQ8⟩ := HQ5.out.put HB8.out hn7 (rowF_rdf hr8).1 (rowF_rdf hr8).2 HLn.out.1 (by rw [HLn.out.1]; exact hc8) (Nat.le_refl _) (by rw [HLn.out.1]; have := HK.out; have := HM.out; omega) (fun f hf => HQ5.out.ok n hn7 f (by rw [hl.out]; exact tdel_mem hf))
                       have HQ8 : Hid (Qv w (w8.setCell ⟨w.heap.size, n, none⟩ (.slice a8 M c8)) P e V8 (updL L' n (l.take i ++ l.drop (i + 1))) 1024) := hQ8
                       have q8 := (HQ5.out.below HB8.out).box.cell1 n _ (cells7_get _ n hn7)
                       have f8 := (HQ5.out.below HB8.out).box.frozen n
                       have l8 := (HQ5.out.below HB8.out).box.lt
                       have HS8 : Hid ((w8.setCell ⟨w.heap.size, n, none⟩ (.slice a8 M c8)).cell? ⟨w.heap.size + 1, 11, none⟩ = some (.slice (some ⟨g, o, none⟩) G P.gc) ∧ (w8.setCell ⟨w.heap.size, n, none⟩ (.slice a8 M c8)).cell? ⟨g, o + k * 2, none⟩ = some (.int .i64 n)) := ⟨cset (by omega) (HA.out w8 HB8.out).1, cset HGl.out (HA.out w8 HB8.out).2⟩
                       clear hr8 hu8 hb8 hQ8)
                    | (refine step_app (by rfl) (by rfl) _ _ (by rfl) (by rfl) (by rfl) H1 ?_
                       rintro v7 w7 ⟨a7, c7, rfl, hr7, hc7, hu7, hb7⟩
                       have HB7 : Hid (Below W5.heap.size W5 w7) := (al1 W5 (.cells #[] 50)).drew.trans hb7
                       have H2 := app_run (n := K) (n' := M) hr7 HB7.out.size (HRb.out.below HB7.out) (cap := cK) (fun h => absurd h HRn.out) (by rw [← List.length_append, HLn.out.1]; have := HK.out; have := HM.out; omega) HLn.out.2.1 HLn.out.1
                       clear hr7 hu7 hb7))
                have HN1 : Hid (RES = restR how (gonL (updL L' n (l.take i ++ l.drop (i + 1))) (e.gone.drop (k + 1))) e.added) := by
                  show _ = _
                  rw [HR2.out, if_pos (by rw [hII.out]; exact hiN), hII.out]; rfl
                clear q8 f8 l8 d11 y0 ld ly
                go_wp2
                go_roundw
                case rel => exact ⟨k + 1, V8, _, by omega, by go_num, HN1.out, HQ8.out⟩
                case measure => simp [intOf]; omega
              · have hq : (f.num != xn) = true := by simp [hnum]
                have HN : Hid (I = (i + 1) + (l.drop (i + 1)).findIdx (numB xn)) := by
                  have := HD'.out
                  rw [if_neg (by simp [numB, hnum])] at this
                  show I = _
                  omega
                clear HD'
                go_wp2_with (first | go_quiet (fail) | go_big_quiet (fail))
                go_roundw
                case rel => exact ⟨i + 1, by omega, by go_num, HN.out, belN HB.out _⟩
                case measure => simp [intOf]; omega
            · obtain rfl : N = i := by omega
              have hII : Hid (I = N) := by
                have := HD.out
                rw [List.drop_of_length_le (by rw [hN.out]; exact Nat.le_refl _)] at this
                exact this
              have hd : decide ((N : Int) < (N : Int)) = false := by simp
              have hzz : ¬ (N : Int) < (N : Int) := by omega
              have hez : ((N : Int) == (N : Int)) = true := by simp
              have hr : Hid (RES = (6, fun _ => [])) := by
                show _ = _
                rw [HR2.out, if_neg (by rw [hII.out]; omega)]; rfl
              have HBw : Hid (∀ n, Below w.heap.size w (wr.drewN n)) := fun n => belN HQw.out.bel n
              obtain ⟨r0, r1, r2, r3, r4, r5, r6, f0, f1, f2, f3, f4, f5, f6, lr⟩ := blk7 HQw.out.res
              go_wp2_with (first | go_quiet (fail) | go_big_quiet (fail))
              refine bodyPost_ret (v := .tuple #[.agg #[.slice none 0 0, .slice none 0 0, .slice none 0 0, .slice none 0 0, .slice none 0 0, .slice none 0 0, .slice none 0 0], .int .i64 6]) (by simp [results, Try.results19, go_sem, *]) rfl ?_
              exact rapp_no (HBw.out _) (by omega) hr.out _ _ _ _ _ _ _
        · obtain rfl : k = G := by omega
          have hkz : ¬ ((k : Int) < (k : Int)) := by omega
          obtain ⟨A, hA⟩ : ∃ A, Hid (e.added.length = A) := ⟨_, rfl⟩
          have hAz : (A : Int) ≤ 1024 := by have := HLz.out; rw [hA.out] at this; omega
          have HR3 : Hid (RES = finR how (addL how L' e.added)) := by
            show _ = _
            rw [HR.out, List.drop_of_length_le (by rw [hG.out]; exact Nat.le_refl _)]; rfl
          obtain ⟨W3, rfl⟩ : ∃ W3, W3 = wr := ⟨_, rfl⟩
          go_wp2
          clear d11 ld hkz HR
          go_loopw [13] (fun i wr => ∃ (q : Nat) (V2 : Vn) (L2 : Nat → List Fi), q ≤ A ∧ i = .int .i64 q ∧ Hid (RES = finR how (addL how L2 (e.added.drop q))) ∧ Hid (Qv w wr P e V2 L2 (1024 + q))) (fun i _ => (A : Int).toNat - (intOf i).toNat)
          case atStart => exact ⟨0, V', L', Nat.zero_le _, rfl, HR3.out, HQ.out⟩
          case round =>
            clear HQ HR3
            obtain ⟨q, V2, L2, hq, rfl, HR, HQ⟩ := hrel
            have d12 : wr.cell? ⟨w.heap.size + 1, 12, none⟩ = some (.slice P.aa A P.ac) := by
              have := HQ.out.edb.cell1 12 _ rfl
              rw [hA.out] at this
              exact this
            have ld := cell_lt d12
            by_cases hlt : q < A
            · have hqz : (q : Int) < (A : Int) := by omega
              obtain ⟨x, hx⟩ : ∃ x, e.added[q]? = some x := ⟨_, List.getElem?_eq_getElem (by rw [hA.out]; exact hlt)⟩
              obtain ⟨g, o, hga, hat0⟩ := HE.out.a.at_ hx
              have hat : At Ad.c wr g (o + q * 11) x := hat0.keep fun i v h => cell_below HQ.out.bel h
              obtain ⟨n, hn, hn7⟩ := isLv_nat (HAz.out x (List.mem_of_getElem? hx))
              have HXo : Hid (FOk x.f) := HAo.out x (List.mem_of_getElem? hx)
              obtain ⟨y0, y1, y2, y3, y4, y5, y6, y7, y8, y9, y10⟩ := hat.a
              have HR1 : Hid (RES = finR how (addL how L2 (x :: e.added.drop (q + 1)))) := by show _ = _; rw [← drop_get hx]; exact HR.out
              obtain ⟨xl, xf⟩ := x
              dsimp only at hn y0 y1 y2 y3 y4 y5 y6 y7 y8 y9 y10 HXo
              subst hn
              have HR2 : Hid (RES = finR how (addL how (updL L2 n (tins (L2 n) ((L2 n).findIdx (behB how n xf)) xf)) (e.added.drop (q + 1)))) := by
                show _ = _
                rw [← addL_cons]; exact HR1.out
              rw [hga] at d12
              have hnz : (n : Int) < 7 := by omega
              have cx : wr.cell? ⟨w.heap.size, n, none⟩ = some (.slice (V2.a n) (L2 n).length (V2.c n)) := HQ.out.box.cell1 n _ (cells7_get _ n hn7)
              have HCl : Hid ((L2 n).length ≤ V2.c n ∧ (L2 n).length ≤ 1024 + q ∧ (V2.a n = none → V2.c n = 0)) := ⟨HQ.out.cap n hn7, HQ.out.len n hn7, HQ.out.nil n hn7⟩
              have HRd : Hid (RdF wr (V2.a n) (L2 n)) := HQ.out.rd n hn7
              have HA : Hid (∀ W, Below wr.heap.size wr W → W.cell? ⟨w.heap.size + 1, 12, none⟩ = some (.slice (some ⟨g, o, none⟩) A P.ac) ∧ W.cell? ⟨g, o + q * 11, none⟩ = some (.int .i64 n) ∧ W.cell? ⟨g, o + q * 11 + 1, none⟩ = some (.int .u64 xf.num) ∧ W.cell? ⟨g, o + q * 11 + 2, none⟩ = some (.int .u64 xf.size) ∧ W.cell? ⟨g, o + q * 11 + 3, none⟩ = some (.string xf.sm.u) ∧ W.cell? ⟨g, o + q * 11 + 4, none⟩ = some (.int .u64 xf.sm.s) ∧ W.cell? ⟨g, o + q * 11 + 5, none⟩ = some (.int .i64 xf.sm.k) ∧ W.cell? ⟨g, o + q * 11 + 6, none⟩ = some (.string xf.la.u) ∧ W.cell? ⟨g, o + q * 11 + 7, none⟩ = some (.int .u64 xf.la.s) ∧ W.cell? ⟨g, o + q * 11 + 8, none⟩ = some (.int .i64 xf.la.k) ∧ W.cell? ⟨g, o + q * 11 + 9, none⟩ = some (.int .u64 xf.ents) ∧ W.cell? ⟨g, o + q * 11 + 10, none⟩ = some (.int .u64 xf.rngs)) := fun W hb =>
                ⟨cell_below hb d12, cell_below hb y0, cell_below hb y1, cell_below hb y2, cell_below hb y3, cell_below hb y4, cell_below hb y5, cell_below hb y6, cell_below hb y7, cell_below hb y8, cell_below hb y9, cell_below hb y10⟩
              clear hx hat hat0 HR HR1 hga
              obtain ⟨l, hl⟩ : ∃ l, Hid (L2 n = l) := ⟨_, rfl⟩
              rw [hl.out] at HRd HCl HR2 cx
              obtain ⟨I, hI⟩ : ∃ I, Hid (l.findIdx (behB how n xf) = I) := ⟨_, rfl⟩
              rw [hI.out] at HR2
              obtain ⟨N, hN⟩ : ∃ N, Hid (l.length = N) := ⟨_, rfl⟩
              rw [hN.out] at cx HCl
              generalize hva : V2.a n = va at *
              generalize hvc : V2.c n = vc at *
              have hNz : (N : Int) ≤ 2048 := by have := HCl.out.2.1; omega
              clear hva hvc
              obtain ⟨W4, rfl⟩ : ∃ W4, W4 = wr := ⟨_, rfl⟩
              have hlg := cell_lt y0
              have cxa : ∀ o, (W4.alloc o).cell? ⟨w.heap.size, n, none⟩ = some (.slice va N vc) := fun o => cell_below (al1 _ _) cx
              have lx := cell_lt cx
              go_wp2
              go_region_held_law (fun w' => w'.cell? ⟨w.heap.size + 1, 12, none⟩ = some (.slice (some ⟨g, o, none⟩) A P.ac) ∧ w'.cell? ⟨g, o + q * 11, none⟩ = some (.int .i64 n) ∧ w'.cell? ⟨g, o + q * 11 + 1, none⟩ = some (.int .u64 xf.num) ∧ w'.cell? ⟨g, o + q * 11 + 2, none⟩ = some (.int .u64 xf.size) ∧ w'.cell? ⟨g, o + q * 11 + 3, none⟩ = some (.string xf.sm.u) ∧ w'.cell? ⟨g, o + q * 11 + 4, none⟩ = some (.int .u64 xf.sm.s) ∧ w'.cell? ⟨g, o + q * 11 + 5, none⟩ = some (.int .i64 xf.sm.k) ∧ w'.cell? ⟨g, o + q * 11 + 6, none⟩ = some (.string xf.la.u) ∧ w'.cell? ⟨g, o + q * 11 + 7, none⟩ = some (.int .u64 xf.la.s) ∧ w'.cell? ⟨g, o + q * 11 + 8, none⟩ = some (.int .i64 xf.la.k) ∧ w'.cell? ⟨g, o + q * 11 + 9, none⟩ = some (.int .u64 xf.ents) ∧ w'.cell? ⟨g, o + q * 11 + 10, none⟩ = some (.int .u64 xf.rngs))
                (first
                  | exact HA.out _ (al1 _ _).drew
                  | exact HA.out _ (Below.refl _ _).drew
                  | (go_keep; done))
                (fail)
              have HF5 : Hid (Blk (W4.alloc xf.o).drew W4.heap.size 50 xf.c) := (box_new W4 xf).drew
              have HQ5 : Hid (Qv w (W4.alloc xf.o).drew P e V2 L2 (1024 + q)) := HQ.out.below (al1 _ _).drew
              have HR5 : Hid (RdF (W4.alloc xf.o).drew va l) := HRd.out.below (al1 _ _).drew
              have cx5 : (W4.alloc xf.o).drew.cell? ⟨w.heap.size, n, none⟩ = some (.slice va N vc) := cxa _
              have lx5 := cell_lt cx5
              clear cx cxa lx d12 ld y0 y1 y2 y3 y4 y5 y6 y7 y8 y9 y10 hlg HQ HRd HA
              generalize hW5 : (W4.alloc xf.o).drew = W5 at *
              clear hW5
              generalize W4.heap.size = B at *
              go_wp2
              clear cx5 lx5
              go_loopw [17] (fun j wr => ∃ i : Nat, i ≤ N ∧ j = .int .i64 i ∧ Hid (I = i + (l.drop i).findIdx (behB how n xf)) ∧ Hid (Below W5.heap.size W5 wr)) (fun j _ => ((N : Int) - intOf j).toNat)
              case atStart => exact ⟨0, Nat.zero_le _, rfl, (show I = _ by rw [← hI.out]; simp), Below.refl _ _⟩
              case round =>
                obtain ⟨i, hi, rfl, HD, HB⟩ := hrel
                have HFw : Hid (Blk wr B 50 xf.c) := HF5.out.upd (S := Non) (Upd.ofBelow HB.out) (fun h => h)
                have b0 := HFw.out.cell1 0 _ rfl
                have b2 := HFw.out.cell1 2 _ rfl
                have b3 := HFw.out.cell1 3 _ rfl
                have b4 := HFw.out.cell1 4 _ rfl
                have lB := HFw.out.lt
                have HBq : Hid (∀ n, Below W5.heap.size W5 (wr.drewN n)) := fun n => belN HB.out n
                have hcs : (N ≤ i ∧ I = i) ∨ (i < N ∧ ∃ f ga oa, va = some ⟨ga, oa, none⟩ ∧ F10 wr ga (oa + i * 10) f ∧ ((n = 0 ∧ f.num < xf.num ∧ I = i) ∨ (n ≠ 0 ∧ 0 < ordF how f.sm xf.sm ∧ I = i) ∨
                    (n = 0 ∧ ¬ f.num < xf.num ∧ I = (i + 1) + (l.drop (i + 1)).findIdx (behB how n xf)) ∨ (n ≠ 0 ∧ ¬ 0 < ordF how f.sm xf.sm ∧ I = (i + 1) + (l.drop (i + 1)).findIdx (behB how n xf)))) := by
                  rcases Nat.lt_or_ge i N with hiN | hiN
                  · right
                    refine ⟨hiN, ?_⟩
                    obtain ⟨f, hf⟩ : ∃ f, l[i]? = some f := ⟨_, List.getElem?_eq_getElem (by rw [hN.out]; exact hiN)⟩
                    obtain ⟨ga, oa, e1, hat1⟩ := (HR5.out.below HB.out).at_ hf
                    refine ⟨f, ga, oa, e1, hat1.f, ?_⟩
                    have h1 := HD.out
                    rw [fi_numB hf] at h1
                    by_cases hn0 : n = 0
                    · have hbb : behB how n xf f = decide (f.num < xf.num) := by unfold behB; rw [if_pos hn0]
                      rw [hbb] at h1
                      by_cases hc : f.num < xf.num
                      · rw [if_pos (by simp [hc])] at h1; exact .inl ⟨hn0, hc, h1⟩
                      · rw [if_neg (by simp [hc])] at h1; exact .inr (.inr (.inl ⟨hn0, hc, by omega⟩))
                    · have hbb : behB how n xf f = decide (0 < ordF how f.sm xf.sm) := by unfold behB; rw [if_neg hn0]
                      rw [hbb] at h1
                      by_cases hc : 0 < ordF how f.sm xf.sm
                      · rw [if_pos (by simp [hc])] at h1; exact .inr (.inl ⟨hn0, hc, h1⟩)
                      · rw [if_neg (by simp [hc])] at h1; exact .inr (.inr (.inr ⟨hn0, hc, by omega⟩))
                  · left
                    refine ⟨hiN, ?_⟩
                    have h1 := HD.out
                    rw [List.drop_of_length_le (by rw [hN.out]; exact hiN)] at h1
                    exact h1
                have HRw : Hid (RdF W5 va l) := HR5.out
                have hvl : Hid (va = none → vc = 0) := HCl.out.2.2
                clear HD HR5
                refine hcs.elim ?s3 ?ss
                case' ss =>
                  rintro ⟨hiN, f, ga, oa, hva, ⟨z0, z1, z2, z3, z4, z5, z6, z7, z8, z9⟩, hcs2⟩
                  clear hcs
                  refine hcs2.elim ?s1 (fun h => h.elim ?s2 (fun h => h.elim ?c1 ?c2))
                case' c2 =>
                  try clear h
                  try clear hcs2
                  rintro ⟨hn0, hc, hI'⟩
                  have HN : Hid (I = (i + 1) + (l.drop (i + 1)).findIdx (behB how n xf)) := hI'
                  have hd : decide ((i : Int) < (N : Int)) = true := decide_eq_true (by omega)
                  have hiz : (i : Int) < (N : Int) := by omega
                  have hz0 : ((n : Int) == 0) = false := by simp [hn0]
                  have hz1 : decide ((0 : Int) < (n : Int)) = true := decide_eq_true (by omega)
                  have hz1n : decide (0 < n) = true := decide_eq_true (by omega)
                  have HO : ∀ w, Calls Try.prog 52 #[.int .i64 how, .agg #[.string f.sm.u, .int .u64 f.sm.s, .int .i64 f.sm.k], .agg #[.string xf.sm.u, .int .u64 xf.sm.s, .int .i64 xf.sm.k]] w fun e w' => e = .returned (.int .i64 (ordK how f.sm.u f.sm.s f.sm.k xf.sm.u xf.sm.s xf.sm.k)) ∧ Below w.heap.size w w' := fun w => (rord_any how f.sm.u f.sm.s f.sm.k xf.sm.u xf.sm.s xf.sm.k w).mono fun e w' h => ⟨h.1, by rw [h.2]; exact bstep (al1 _ _) (al1 _ _)⟩
                  have hc2 : decide (ordK how f.sm.u f.sm.s f.sm.k xf.sm.u xf.sm.s xf.sm.k ≤ 0) = true := decide_eq_true (by have : ¬ 0 < ordK how f.sm.u f.sm.s f.sm.k xf.sm.u xf.sm.s xf.sm.k := hc; omega)
                  generalize ordK how f.sm.u f.sm.s f.sm.k xf.sm.u xf.sm.s xf.sm.k = O at *
                  subst hva
                  clear hI' hn0 hc
                  go_wp2_with fail
                  refine wp_region_held_drew (S := (fun w' => w'.cell? ⟨ga, oa + i * 10 + 2, none⟩ = some (.string f.sm.u) ∧ w'.cell? ⟨ga, oa + i * 10 + 3, none⟩ = some (.int .u64 f.sm.s) ∧ w'.cell? ⟨ga, oa + i * 10 + 4, none⟩ = some (.int .i64 f.sm.k) ∧ w'.cell? ⟨B, 2, none⟩ = some (.string xf.sm.u) ∧ w'.cell? ⟨B, 3, none⟩ = some (.int .u64 xf.sm.s) ∧ w'.cell? ⟨B, 4, none⟩ = some (.int .i64 xf.sm.k))) (by kernel_rfl) ?_ (fun hHeld => ?_)
                  · (try dsimp only); exact ⟨z2, z3, z4, b2, b3, b4⟩
                  refine wpAnyH_take (i := 0) (v := ?_) (by simp only [List.getElem?_toArray, List.getElem?_cons_zero, List.getElem?_cons_succ]; rfl) (by kernel_rfl) (by kernel_rfl) (by kernel_rfl) (by intro _ _ _ h; exact h) (Or.inl ⟨by rfl, ?_⟩) (by assumption) ?_
                  rotate_left
                  · intro w hSw; (try dsimp only at hSw); go_simp; (try with_reducible rfl)
                  (try simp only [Act.put, List.setIfInBounds_toArray, List.set_cons_zero, List.set_cons_succ])
                  refine wpAnyH_take (i := 1) (v := ?_) (by simp only [List.getElem?_toArray, List.getElem?_cons_zero, List.getElem?_cons_succ]; rfl) (by kernel_rfl) (by kernel_rfl) (by kernel_rfl) (by intro _ _ _ h; exact h) (Or.inl ⟨by rfl, ?_⟩) (by assumption) ?_
                  rotate_left
                  · intro w hSw; (try dsimp only at hSw); go_simp; (try with_reducible rfl)
                  (try simp only [Act.put, List.setIfInBounds_toArray, List.set_cons_zero, List.set_cons_succ])
                  refine wpAnyH_take (i := 2) (v := ?_) (by simp only [List.getElem?_toArray, List.getElem?_cons_zero, List.getElem?_cons_succ]; rfl) (by kernel_rfl) (by kernel_rfl) (by kernel_rfl) (by intro _ _ _ h; exact h) (Or.inl ⟨by rfl, ?_⟩) (by assumption) ?_
                  rotate_left
                  · intro w hSw; (try dsimp only at hSw); go_simp; (try with_reducible rfl)
                  (try simp only [Act.put, List.setIfInBounds_toArray, List.set_cons_zero, List.set_cons_succ])
                  refine wpAnyH_take (i := 3) (v := ?_) (by simp only [List.getElem?_toArray, List.getElem?_cons_zero, List.getElem?_cons_succ]; rfl) (by kernel_rfl) (by kernel_rfl) (by kernel_rfl) (by intro _ _ _ h; exact h) (Or.inl ⟨by rfl, ?_⟩) (by assumption) ?_
                  rotate_left
                  · intro w hSw; (try dsimp only at hSw); go_simp; (try with_reducible rfl)
                  (try simp only [Act.put, List.setIfInBounds_toArray, List.set_cons_zero, List.set_cons_succ])
                  refine wpAnyH_take (i := 4) (v := ?_) (by simp only [List.getElem?_toArray, List.getElem?_cons_zero, List.getElem?_cons_succ]; rfl) (by kernel_rfl) (by kernel_rfl) (by kernel_rfl) (by intro _ _ _ h; exact h) (Or.inl ⟨by rfl, ?_⟩) (by assumption) ?_
                  rotate_left
                  · intro w hSw; (try dsimp only at hSw); go_simp; (try with_reducible rfl)
                  (try simp only [Act.put, List.setIfInBounds_toArray, List.set_cons_zero, List.set_cons_succ])
                  refine wpAnyH_take (i := 5) (v := ?_) (by simp only [List.getElem?_toArray, List.getElem?_cons_zero, List.getElem?_cons_succ]; rfl) (by kernel_rfl) (by kernel_rfl) (by kernel_rfl) (by intro _ _ _ h; exact h) (Or.inl ⟨by rfl, ?_⟩) (by assumption) ?_
                  rotate_left
                  · intro w hSw; (try dsimp only at hSw); go_simp; (try with_reducible rfl)
                  (try simp only [Act.put, List.setIfInBounds_toArray, List.set_cons_zero, List.set_cons_succ])
                  refine wpAnyH_take (i := 6) (v := ?_) (by simp only [List.getElem?_toArray, List.getElem?_cons_zero, List.getElem?_cons_succ]; rfl) (by kernel_rfl) (by kernel_rfl) (by kernel_rfl) (by intro _ _ _ h; exact h) (Or.inl ⟨by rfl, ?_⟩) (by assumption) ?_
                  rotate_left
                  · intro w hSw; (try dsimp only at hSw); go_simp; (try with_reducible rfl)
                  (try simp only [Act.put, List.setIfInBounds_toArray, List.set_cons_zero, List.set_cons_succ])
                  refine wpAnyH_take (i := 7) (v := ?_) (by simp only [List.getElem?_toArray, List.getElem?_cons_zero, List.getElem?_cons_succ]; rfl) (by kernel_rfl) (by kernel_rfl) (by kernel_rfl) (by intro _ _ _ h; exact h) (Or.inl ⟨by rfl, ?_⟩) (by assumption) ?_
                  rotate_left
                  · intro w hSw; (try dsimp only at hSw); go_simp; (try with_reducible rfl)
                  (try simp only [Act.put, List.setIfInBounds_toArray, List.set_cons_zero, List.set_cons_succ])
                  refine wpAnyH_take (i := 8) (v := undef) (by simp only [List.getElem?_toArray, List.getElem?_cons_zero, List.getElem?_cons_succ]; rfl) (by kernel_rfl) (by kernel_rfl) (by kernel_rfl) (by intro _ _ _ h; exact h) (Or.inr ⟨by rfl, rfl⟩) (by assumption) ?_
                  (try simp only [Act.put, List.setIfInBounds_toArray, List.set_cons_zero, List.set_cons_succ])
                  refine wpAnyH_take (i := 9) (v := undef) (by simp only [List.getElem?_toArray, List.getElem?_cons_zero, List.getElem?_cons_succ]; rfl) (by kernel_rfl) (by kernel_rfl) (by kernel_rfl) (by intro _ _ _ h; exact h) (Or.inr ⟨by rfl, rfl⟩) (by assumption) ?_
                  (try simp only [Act.put, List.setIfInBounds_toArray, List.set_cons_zero, List.set_cons_succ])
                  refine wpAnyH_take (i := 10) (v := undef) (by simp only [List.getElem?_toArray, List.getElem?_cons_zero, List.getElem?_cons_succ]; rfl) (by kernel_rfl) (by kernel_rfl) (by kernel_rfl) (by intro _ _ _ h; exact h) (Or.inr ⟨by rfl, rfl⟩) (by assumption) ?_
                  (try simp only [Act.put, List.setIfInBounds_toArray, List.set_cons_zero, List.set_cons_succ])
                  refine wpAnyH_take (i := 11) (v := undef) (by simp only [List.getElem?_toArray, List.getElem?_cons_zero, List.getElem?_cons_succ]; rfl) (by kernel_rfl) (by kernel_rfl) (by kernel_rfl) (by intro _ _ _ h; exact h) (Or.inr ⟨by rfl, rfl⟩) (by assumption) ?_
                  (try simp only [Act.put, List.setIfInBounds_toArray, List.set_cons_zero, List.set_cons_succ])
                  refine wpAnyH_take (i := 12) (v := undef) (by simp only [List.getElem?_toArray, List.getElem?_cons_zero, List.getElem?_cons_succ]; rfl) (by kernel_rfl) (by kernel_rfl) (by kernel_rfl) (by intro _ _ _ h; exact h) (Or.inr ⟨by rfl, rfl⟩) (by assumption) ?_
                  (try simp only [Act.put, List.setIfInBounds_toArray, List.set_cons_zero, List.set_cons_succ])
                  refine wpAnyH_take (i := 13) (v := undef) (by simp only [List.getElem?_toArray, List.getElem?_cons_zero, List.getElem?_cons_succ]; rfl) (by kernel_rfl) (by kernel_rfl) (by kernel_rfl) (by intro _ _ _ h; exact h) (Or.inr ⟨by rfl, rfl⟩) (by assumption) ?_
                  (try simp only [Act.put, List.setIfInBounds_toArray, List.set_cons_zero, List.set_cons_succ])
                  refine wpAnyH_take (i := 14) (v := undef) (by simp only [List.getElem?_toArray, List.getElem?_cons_zero, List.getElem?_cons_succ]; rfl) (by kernel_rfl) (by kernel_rfl) (by kernel_rfl) (by intro _ _ _ h; exact h) (Or.inr ⟨by rfl, rfl⟩) (by assumption) ?_
                  (try simp only [Act.put, List.setIfInBounds_toArray, List.set_cons_zero, List.set_cons_succ])
                  refine wpAnyH_take (i := 15) (v := undef) (by simp only [List.getElem?_toArray, List.getElem?_cons_zero, List.getElem?_cons_succ]; rfl) (by kernel_rfl) (by kernel_rfl) (by kernel_rfl) (by intro _ _ _ h; exact h) (Or.inr ⟨by rfl, rfl⟩) (by assumption) ?_
                  (try simp only [Act.put, List.setIfInBounds_toArray, List.set_cons_zero, List.set_cons_succ])
                  refine wpAnyH_take (i := 16) (v := ?_) (by simp only [List.getElem?_toArray, List.getElem?_cons_zero, List.getElem?_cons_succ]; rfl) (by kernel_rfl) (by kernel_rfl) (by kernel_rfl) (by intro _ _ _ h; exact h) (Or.inl ⟨by rfl, ?_⟩) (by assumption) ?_
                  rotate_left
                  · intro w hSw; (try dsimp only at hSw); go_simp; (try with_reducible rfl)
                  (try simp only [Act.put, List.setIfInBounds_toArray, List.set_cons_zero, List.set_cons_succ])
                  refine wpAnyH_take (i := 17) (v := ?_) (by simp only [List.getElem?_toArray, List.getElem?_cons_zero, List.getElem?_cons_succ]; rfl) (by kernel_rfl) (by kernel_rfl) (by kernel_rfl) (by intro _ _ _ h; exact h) (Or.inl ⟨by rfl, ?_⟩) (by assumption) ?_
                  rotate_left
                  · intro w hSw; (try dsimp only at hSw); go_simp; (try with_reducible rfl)
                  (try simp only [Act.put, List.setIfInBounds_toArray, List.set_cons_zero, List.set_cons_succ])
                  refine wpAnyH_take (i := 18) (v := ?_) (by simp only [List.getElem?_toArray, List.getElem?_cons_zero, List.getElem?_cons_succ]; rfl) (by kernel_rfl) (by kernel_rfl) (by kernel_rfl) (by intro _ _ _ h; exact h) (Or.inl ⟨by rfl, ?_⟩) (by assumption) ?_
                  rotate_left
                  · intro w hSw; (try dsimp only at hSw); go_simp; (try with_reducible rfl)
                  (try simp only [Act.put, List.setIfInBounds_toArray, List.set_cons_zero, List.set_cons_succ])
                  refine wpAnyH_take (i := 19) (v := ?_) (by simp only [List.getElem?_toArray, List.getElem?_cons_zero, List.getElem?_cons_succ]; rfl) (by kernel_rfl) (by kernel_rfl) (by kernel_rfl) (by intro _ _ _ h; exact h) (Or.inl ⟨by rfl, ?_⟩) (by assumption) ?_
                  rotate_left
                  · intro w hSw; (try dsimp only at hSw); go_simp; (try with_reducible rfl)
                  (try simp only [Act.put, List.setIfInBounds_toArray, List.set_cons_zero, List.set_cons_succ])
                  refine wpAnyH_take (i := 20) (v := ?_) (by simp only [List.getElem?_toArray, List.getElem?_cons_zero, List.getElem?_cons_succ]; rfl) (by kernel_rfl) (by kernel_rfl) (by kernel_rfl) (by intro _ _ _ h; exact h) (Or.inl ⟨by rfl, ?_⟩) (by assumption) ?_
                  rotate_left
                  · intro w hSw; (try dsimp only at hSw); go_simp; (try with_reducible rfl)
                  (try simp only [Act.put, List.setIfInBounds_toArray, List.set_cons_zero, List.set_cons_succ])
                  refine wpAnyH_take (i := 21) (v := ?_) (by simp only [List.getElem?_toArray, List.getElem?_cons_zero, List.getElem?_cons_succ]; rfl) (by kernel_rfl) (by kernel_rfl) (by kernel_rfl) (by intro _ _ _ h; exact h) (Or.inl ⟨by rfl, ?_⟩) (by assumption) ?_
                  rotate_left
                  · intro w hSw; (try dsimp only at hSw); go_simp; (try with_reducible rfl)
                  (try simp only [Act.put, List.setIfInBounds_toArray, List.set_cons_zero, List.set_cons_succ])
                  refine wpAnyH_take (i := 22) (v := ?_) (by simp only [List.getElem?_toArray, List.getElem?_cons_zero, List.getElem?_cons_succ]; rfl) (by kernel_rfl) (by kernel_rfl) (by kernel_rfl) (by intro _ _ _ h; exact h) (Or.inl ⟨by rfl, ?_⟩) (by assumption) ?_
                  rotate_left
                  · intro w hSw; (try dsimp only at hSw); go_simp; (try with_reducible rfl)
                  (try simp only [Act.put, List.setIfInBounds_toArray, List.set_cons_zero, List.set_cons_succ])
                  refine wpAnyH_take (i := 23) (v := ?_) (by simp only [List.getElem?_toArray, List.getElem?_cons_zero, List.getElem?_cons_succ]; rfl) (by kernel_rfl) (by kernel_rfl) (by kernel_rfl) (by intro _ _ _ h; exact h) (Or.inl ⟨by rfl, ?_⟩) (by assumption) ?_
                  rotate_left
                  · intro w hSw; (try dsimp only at hSw); go_simp; (try with_reducible rfl)
                  (try simp only [Act.put, List.setIfInBounds_toArray, List.set_cons_zero, List.set_cons_succ])
                  refine wpAnyH_take (i := 24) (v := ?_) (by simp only [List.getElem?_toArray, List.getElem?_cons_zero, List.getElem?_cons_succ]; rfl) (by kernel_rfl) (by kernel_rfl) (by kernel_rfl) (by intro _ _ _ h; exact h) (Or.inl ⟨by rfl, ?_⟩) (by assumption) ?_
                  rotate_left
                  · intro w hSw; (try dsimp only at hSw); go_simp; (try with_reducible rfl)
                  (try simp only [Act.put, List.setIfInBounds_toArray, List.set_cons_zero, List.set_cons_succ])
                  refine wpAnyH_take (i := 25) (v := ?_) (by simp only [List.getElem?_toArray, List.getElem?_cons_zero, List.getElem?_cons_succ]; rfl) (by kernel_rfl) (by kernel_rfl) (by kernel_rfl) (by intro _ _ _ h; exact h) (Or.inl ⟨by rfl, ?_⟩) (by assumption) ?_
                  rotate_left
                  · intro w hSw; (try dsimp only at hSw); go_simp; (try with_reducible rfl)
                  (try simp only [Act.put, List.setIfInBounds_toArray, List.set_cons_zero, List.set_cons_succ])
                  refine wpAnyH_take (i := 26) (v := ?_) (by simp only [List.getElem?_toArray, List.getElem?_cons_zero, List.getElem?_cons_succ]; rfl) (by kernel_rfl) (by kernel_rfl) (by kernel_rfl) (by intro _ _ _ h; exact h) (Or.inl ⟨by rfl, ?_⟩) (by assumption) ?_
                  rotate_left
                  · intro w hSw; (try dsimp only at hSw); go_simp; (try with_reducible rfl)
                  (try simp only [Act.put, List.setIfInBounds_toArray, List.set_cons_zero, List.set_cons_succ])
                  refine wpAnyH_take (i := 27) (v := ?_) (by simp only [List.getElem?_toArray, List.getElem?_cons_zero, List.getElem?_cons_succ]; rfl) (by kernel_rfl) (by kernel_rfl) (by kernel_rfl) (by intro _ _ _ h; exact h) (Or.inl ⟨by rfl, ?_⟩) (by assumption) ?_
                  rotate_left
                  · intro w hSw; (try dsimp only at hSw); go_simp; (try with_reducible rfl)
                  (try simp only [Act.put, List.setIfInBounds_toArray, List.set_cons_zero, List.set_cons_succ])
                  refine wpAnyH_take (i := 28) (v := ?_) (by simp only [List.getElem?_toArray, List.getElem?_cons_zero, List.getElem?_cons_succ]; rfl) (by kernel_rfl) (by kernel_rfl) (by kernel_rfl) (by intro _ _ _ h; exact h) (Or.inl ⟨by rfl, ?_⟩) (by assumption) ?_
                  rotate_left
                  · intro w hSw; (try dsimp only at hSw); go_simp; (try with_reducible rfl)
                  (try simp only [Act.put, List.setIfInBounds_toArray, List.set_cons_zero, List.set_cons_succ])
                  refine wpAnyH_ready (rs := [29]) (by kernel_rfl) (by simp) ?_
                  refine AllReadyH.cons rfl (fun K hK => ?_) AllReadyH.nil
                  refine step_call52 (by rfl) (by rfl) _ _ _ _ (by rfl) _ _ _ (by rfl) (by rfl) (by rfl) (HO _) ?_
                  rintro e w7 ⟨rfl, hb7⟩
                  refine ⟨_, rfl, ?_⟩
                  have HB7 : Hid (Below W5.heap.size W5 w7) := bstep HB.out (bstep (Below.refl _ _).drew hb7)
                  have hbw7 : Below wr.heap.size wr w7 := bstep (Below.refl _ _).drew hb7
                  refine hK.out _ _ ⟨cell_below hbw7 z2, cell_below hbw7 z3, cell_below hbw7 z4, cell_below hbw7 b2, cell_below hbw7 b3, cell_below hbw7 b4⟩ (fun hHeld => ?_)
                  clear hbw7 hb7
                  clear hK K
                  (try simp only [Act.put, List.setIfInBounds_toArray, List.set_cons_zero, List.set_cons_succ])
                  refine wpAnyH_take (i := 30) (v := ?_) (by simp only [List.getElem?_toArray, List.getElem?_cons_zero, List.getElem?_cons_succ]; rfl) (by kernel_rfl) (by kernel_rfl) (by kernel_rfl) (by intro _ _ _ h; exact h) (Or.inl ⟨by rfl, ?_⟩) (by assumption) ?_
                  rotate_left
                  · intro w hSw; (try dsimp only at hSw); go_simp; (try with_reducible rfl)
                  (try simp only [Act.put, List.setIfInBounds_toArray, List.set_cons_zero, List.set_cons_succ])
                  refine wpAnyH_take (i := 31) (v := ?_) (by simp only [List.getElem?_toArray, List.getElem?_cons_zero, List.getElem?_cons_succ]; rfl) (by kernel_rfl) (by kernel_rfl) (by kernel_rfl) (by intro _ _ _ h; exact h) (Or.inl ⟨by rfl, ?_⟩) (by assumption) ?_
                  rotate_left
                  · intro w hSw; (try dsimp only at hSw); go_simp; (try with_reducible rfl)
                  (try simp only [Act.put, List.setIfInBounds_toArray, List.set_cons_zero, List.set_cons_succ])
                  refine wpAnyH_take (i := 32) (v := ?_) (by simp only [List.getElem?_toArray, List.getElem?_cons_zero, List.getElem?_cons_succ]; rfl) (by kernel_rfl) (by kernel_rfl) (by kernel_rfl) (by intro _ _ _ h; exact h) (Or.inl ⟨by rfl, ?_⟩) (by assumption) ?_
                  rotate_left
                  · intro w hSw; (try dsimp only at hSw); go_simp; (try with_reducible rfl)
                  (try simp only [Act.put, List.setIfInBounds_toArray, List.set_cons_zero, List.set_cons_succ])
                  refine wpAnyH_take (i := 33) (v := ?_) (by simp only [List.getElem?_toArray, List.getElem?_cons_zero, List.getElem?_cons_succ]; rfl) (by kernel_rfl) (by kernel_rfl) (by kernel_rfl) (by intro _ _ _ h; exact h) (Or.inl ⟨by rfl, ?_⟩) (by assumption) ?_
                  rotate_left
                  · intro w hSw; (try dsimp only at hSw); go_simp; (try with_reducible rfl)
                  (try simp only [Act.put, List.setIfInBounds_toArray, List.set_cons_zero, List.set_cons_succ])
                  refine wpAnyH_done (by kernel_rfl) ?_ _
                  clear hHeld
                  go_wp2
                  go_roundw
                  case rel => exact ⟨i + 1, by omega, by go_num, HN.out, HB7.out⟩
                  case measure => simp [intOf]; omega
                case' c1 =>
                  try clear h
                  try clear hcs2
                  rintro ⟨hn0, hc, hI'⟩
                  have HN : Hid (I = (i + 1) + (l.drop (i + 1)).findIdx (behB how n xf)) := hI'
                  have hd : decide ((i : Int) < (N : Int)) = true := decide_eq_true (by omega)
                  have hiz : (i : Int) < (N : Int) := by omega
                  have hz0 : ((n : Int) == 0) = true := by simp [hn0]
                  have hc2 : decide (xf.num ≤ f.num) = true := decide_eq_true (by omega)
                  subst hva
                  clear hI' hn0 hc
                  go_wp2_with (first | go_quiet (fail) | go_big_quiet (fail))
                  go_roundw
                  case rel => exact ⟨i + 1, by omega, by go_num, HN.out, belN HB.out _⟩
                  case measure => simp [intOf]; omega
                case' s2 =>
                  try clear h
                  try clear hcs2
                  rintro ⟨hn0, hc, hI'⟩
                  have HII : Hid (I = i) := hI'
                  have hd : decide ((i : Int) < (N : Int)) = true := decide_eq_true (by omega)
                  have hiz : (i : Int) < (N : Int) := by omega
                  have hz0 : ((n : Int) == 0) = false := by simp [hn0]
                  have hz1 : decide ((0 : Int) < (n : Int)) = true := decide_eq_true (by omega)
                  have hz1n : decide (0 < n) = true := decide_eq_true (by omega)
                  have HO : ∀ w, Calls Try.prog 52 #[.int .i64 how, .agg #[.string f.sm.u, .int .u64 f.sm.s, .int .i64 f.sm.k], .agg #[.string xf.sm.u, .int .u64 xf.sm.s, .int .i64 xf.sm.k]] w fun e w' => e = .returned (.int .i64 (ordK how f.sm.u f.sm.s f.sm.k xf.sm.u xf.sm.s xf.sm.k)) ∧ Below w.heap.size w w' := fun w => (rord_any how f.sm.u f.sm.s f.sm.k xf.sm.u xf.sm.s xf.sm.k w).mono fun e w' h => ⟨h.1, by rw [h.2]; exact bstep (al1 _ _) (al1 _ _)⟩
                  have hc2 : decide (ordK how f.sm.u f.sm.s f.sm.k xf.sm.u xf.sm.s xf.sm.k ≤ 0) = false := decide_eq_false (by have : 0 < ordK how f.sm.u f.sm.s f.sm.k xf.sm.u xf.sm.s xf.sm.k := hc; omega)
                  generalize ordK how f.sm.u f.sm.s f.sm.k xf.sm.u xf.sm.s xf.sm.k = O at *
                  subst hva
                  clear hI' hn0 hc
                  go_wp2_with fail
                  refine wp_region_held_drew (S := (fun w' => w'.cell? ⟨ga, oa + i * 10 + 2, none⟩ = some (.string f.sm.u) ∧ w'.cell? ⟨ga, oa + i * 10 + 3, none⟩ = some (.int .u64 f.sm.s) ∧ w'.cell? ⟨ga, oa + i * 10 + 4, none⟩ = some (.int .i64 f.sm.k) ∧ w'.cell? ⟨B, 2, none⟩ = some (.string xf.sm.u) ∧ w'.cell? ⟨B, 3, none⟩ = some (.int .u64 xf.sm.s) ∧ w'.cell? ⟨B, 4, none⟩ = some (.int .i64 xf.sm.k))) (by kernel_rfl) ?_ (fun hHeld => ?_)
                  · (try dsimp only); exact ⟨z2, z3, z4, b2, b3, b4⟩
                  refine wpAnyH_take (i := 0) (v := ?_) (by simp only [List.getElem?_toArray, List.getElem?_cons_zero, List.getElem?_cons_succ]; rfl) (by kernel_rfl) (by kernel_rfl) (by kernel_rfl) (by intro _ _ _ h; exact h) (Or.inl ⟨by rfl, ?_⟩) (by assumption) ?_
                  rotate_left
                  · intro w hSw; (try dsimp only at hSw); go_simp; (try with_reducible rfl)
                  (try simp only [Act.put, List.setIfInBounds_toArray, List.set_cons_zero, List.set_cons_succ])
                  refine wpAnyH_take (i := 1) (v := ?_) (by simp only [List.getElem?_toArray, List.getElem?_cons_zero, List.getElem?_cons_succ]; rfl) (by kernel_rfl) (by kernel_rfl) (by kernel_rfl) (by intro _ _ _ h; exact h) (Or.inl ⟨by rfl, ?_⟩) (by assumption) ?_
                  rotate_left
                  · intro w hSw; (try dsimp only at hSw); go_simp; (try with_reducible rfl)
                  (try simp only [Act.put, List.setIfInBounds_toArray, List.set_cons_zero, List.set_cons_succ])
                  refine wpAnyH_take (i := 2) (v := ?_) (by simp only [List.getElem?_toArray, List.getElem?_cons_zero, List.getElem?_cons_succ]; rfl) (by kernel_rfl) (by kernel_rfl) (by kernel_rfl) (by intro _ _ _ h; exact h) (Or.inl ⟨by rfl, ?_⟩) (by assumption) ?_
                  rotate_left
                  · intro w hSw; (try dsimp only at hSw); go_simp; (try with_reducible rfl)
                  (try simp only [Act.put, List.setIfInBounds_toArray, List.set_cons_zero, List.set_cons_succ])
                  refine wpAnyH_take (i := 3) (v := ?_) (by simp only [List.getElem?_toArray, List.getElem?_cons_zero, List.getElem?_cons_succ]; rfl) (by kernel_rfl) (by kernel_rfl) (by kernel_rfl) (by intro _ _ _ h; exact h) (Or.inl ⟨by rfl, ?_⟩) (by assumption) ?_
                  rotate_left
                  · intro w hSw; (try dsimp only at hSw); go_simp; (try with_reducible rfl)
                  (try simp only [Act.put, List.setIfInBounds_toArray, List.set_cons_zero, List.set_cons_succ])
                  refine wpAnyH_take (i := 4) (v := ?_) (by simp only [List.getElem?_toArray, List.getElem?_cons_zero, List.getElem?_cons_succ]; rfl) (by kernel_rfl) (by kernel_rfl) (by kernel_rfl) (by intro _ _ _ h; exact h) (Or.inl ⟨by rfl, ?_⟩) (by assumption) ?_
                  rotate_left
                  · intro w hSw; (try dsimp only at hSw); go_simp; (try with_reducible rfl)
                  (try simp only [Act.put, List.setIfInBounds_toArray, List.set_cons_zero, List.set_cons_succ])
                  refine wpAnyH_take (i := 5) (v := ?_) (by simp only [List.getElem?_toArray, List.getElem?_cons_zero, List.getElem?_cons_succ]; rfl) (by kernel_rfl) (by kernel_rfl) (by kernel_rfl) (by intro _ _ _ h; exact h) (Or.inl ⟨by rfl, ?_⟩) (by assumption) ?_
                  rotate_left
                  · intro w hSw; (try dsimp only at hSw); go_simp; (try with_reducible rfl)
                  (try simp only [Act.put, List.setIfInBounds_toArray, List.set_cons_zero, List.set_cons_succ])
                  refine wpAnyH_take (i := 6) (v := ?_) (by simp only [List.getElem?_toArray, List.getElem?_cons_zero, List.getElem?_cons_succ]; rfl) (by kernel_rfl) (by kernel_rfl) (by kernel_rfl) (by intro _ _ _ h; exact h) (Or.inl ⟨by rfl, ?_⟩) (by assumption) ?_
                  rotate_left
                  · intro w hSw; (try dsimp only at hSw); go_simp; (try with_reducible rfl)
                  (try simp only [Act.put, List.setIfInBounds_toArray, List.set_cons_zero, List.set_cons_succ])
                  refine wpAnyH_take (i := 7) (v := ?_) (by simp only [List.getElem?_toArray, List.getElem?_cons_zero, List.getElem?_cons_succ]; rfl) (by kernel_rfl) (by kernel_rfl) (by kernel_rfl) (by intro _ _ _ h; exact h) (Or.inl ⟨by rfl, ?_⟩) (by assumption) ?_
                  rotate_left
                  · intro w hSw; (try dsimp only at hSw); go_simp; (try with_reducible rfl)
                  (try simp only [Act.put, List.setIfInBounds_toArray, List.set_cons_zero, List.set_cons_succ])
                  refine wpAnyH_take (i := 8) (v := undef) (by simp only [List.getElem?_toArray, List.getElem?_cons_zero, List.getElem?_cons_succ]; rfl) (by kernel_rfl) (by kernel_rfl) (by kernel_rfl) (by intro _ _ _ h; exact h) (Or.inr ⟨by rfl, rfl⟩) (by assumption) ?_
                  (try simp only [Act.put, List.setIfInBounds_toArray, List.set_cons_zero, List.set_cons_succ])
                  refine wpAnyH_take (i := 9) (v := undef) (by simp only [List.getElem?_toArray, List.getElem?_cons_zero, List.getElem?_cons_succ]; rfl) (by kernel_rfl) (by kernel_rfl) (by kernel_rfl) (by intro _ _ _ h; exact h) (Or.inr ⟨by rfl, rfl⟩) (by assumption) ?_
                  (try simp only [Act.put, List.setIfInBounds_toArray, List.set_cons_zero, List.set_cons_succ])
                  refine wpAnyH_take (i := 10) (v := undef) (by simp only [List.getElem?_toArray, List.getElem?_cons_zero, List.getElem?_cons_succ]; rfl) (by kernel_rfl) (by kernel_rfl) (by kernel_rfl) (by intro _ _ _ h; exact h) (Or.inr ⟨by rfl, rfl⟩) (by assumption) ?_
                  (try simp only [Act.put, List.setIfInBounds_toArray, List.set_cons_zero, List.set_cons_succ])
                  refine wpAnyH_take (i := 11) (v := undef) (by simp only [List.getElem?_toArray, List.getElem?_cons_zero, List.getElem?_cons_succ]; rfl) (by kernel_rfl) (by kernel_rfl) (by kernel_rfl) (by intro _ _ _ h; exact h) (Or.inr ⟨by rfl, rfl⟩) (by assumption) ?_
                  (try simp only [Act.put, List.setIfInBounds_toArray, List.set_cons_zero, List.set_cons_succ])
                  refine wpAnyH_take (i := 12) (v := undef) (by simp only [List.getElem?_toArray, List.getElem?_cons_zero, List.getElem?_cons_succ]; rfl) (by kernel_rfl) (by kernel_rfl) (by kernel_rfl) (by intro _ _ _ h; exact h) (Or.inr ⟨by rfl, rfl⟩) (by assumption) ?_
                  (try simp only [Act.put, List.setIfInBounds_toArray, List.set_cons_zero, List.set_cons_succ])
                  refine wpAnyH_take (i := 13) (v := undef) (by simp only [List.getElem?_toArray, List.getElem?_cons_zero, List.getElem?_cons_succ]; rfl) (by kernel_rfl) (by kernel_rfl) (by kernel_rfl) (by intro _ _ _ h; exact h) (Or.inr ⟨by rfl, rfl⟩) (by assumption) ?_
                  (try simp only [Act.put, List.setIfInBounds_toArray, List.set_cons_zero, List.set_cons_succ])
                  refine wpAnyH_take (i := 14) (v := undef) (by simp only [List.getElem?_toArray, List.getElem?_cons_zero, List.getElem?_cons_succ]; rfl) (by kernel_rfl) (by kernel_rfl) (by kernel_rfl) (by intro _ _ _ h; exact h) (Or.inr ⟨by rfl, rfl⟩) (by assumption) ?_
                  (try simp only [Act.put, List.setIfInBounds_toArray, List.set_cons_zero, List.set_cons_succ])
                  refine wpAnyH_take (i := 15) (v := undef) (by simp only [List.getElem?_toArray, List.getElem?_cons_zero, List.getElem?_cons_succ]; rfl) (by kernel_rfl) (by kernel_rfl) (by kernel_rfl) (by intro _ _ _ h; exact h) (Or.inr ⟨by rfl, rfl⟩) (by assumption) ?_
                  (try simp only [Act.put, List.setIfInBounds_toArray, List.set_cons_zero, List.set_cons_succ])
                  refine wpAnyH_take (i := 16) (v := ?_) (by simp only [List.getElem?_toArray, List.getElem?_cons_zero, List.getElem?_cons_succ]; rfl) (by kernel_rfl) (by kernel_rfl) (by kernel_rfl) (by intro _ _ _ h; exact h) (Or.inl ⟨by rfl, ?_⟩) (by assumption) ?_
                  rotate_left
                  · intro w hSw; (try dsimp only at hSw); go_simp; (try with_reducible rfl)
                  (try simp only [Act.put, List.setIfInBounds_toArray, List.set_cons_zero, List.set_cons_succ])
                  refine wpAnyH_take (i := 17) (v := ?_) (by simp only [List.getElem?_toArray, List.getElem?_cons_zero, List.getElem?_cons_succ]; rfl) (by kernel_rfl) (by kernel_rfl) (by kernel_rfl) (by intro _ _ _ h; exact h) (Or.inl ⟨by rfl, ?_⟩) (by assumption) ?_
                  rotate_left
                  · intro w hSw; (try dsimp only at hSw); go_simp; (try with_reducible rfl)
                  (try simp only [Act.put, List.setIfInBounds_toArray, List.set_cons_zero, List.set_cons_succ])
                  refine wpAnyH_take (i := 18) (v := ?_) (by simp only [List.getElem?_toArray, List.getElem?_cons_zero, List.getElem?_cons_succ]; rfl) (by kernel_rfl) (by kernel_rfl) (by kernel_rfl) (by intro _ _ _ h; exact h) (Or.inl ⟨by rfl, ?_⟩) (by assumption) ?_
                  rotate_left
                  · intro w hSw; (try dsimp only at hSw); go_simp; (try with_reducible rfl)
                  (try simp only [Act.put, List.setIfInBounds_toArray, List.set_cons_zero, List.set_cons_succ])
                  refine wpAnyH_take (i := 19) (v := ?_) (by simp only [List.getElem?_toArray, List.getElem?_cons_zero, List.getElem?_cons_succ]; rfl) (by kernel_rfl) (by kernel_rfl) (by kernel_rfl) (by intro _ _ _ h; exact h) (Or.inl ⟨by rfl, ?_⟩) (by assumption) ?_
                  rotate_left
                  · intro w hSw; (try dsimp only at hSw); go_simp; (try with_reducible rfl)
                  (try simp only [Act.put, List.setIfInBounds_toArray, List.set_cons_zero, List.set_cons_succ])
                  refine wpAnyH_take (i := 20) (v := ?_) (by simp only [List.getElem?_toArray, List.getElem?_cons_zero, List.getElem?_cons_succ]; rfl) (by kernel_rfl) (by kernel_rfl) (by kernel_rfl) (by intro _ _ _ h; exact h) (Or.inl ⟨by rfl, ?_⟩) (by assumption) ?_
                  rotate_left
                  · intro w hSw; (try dsimp only at hSw); go_simp; (try with_reducible rfl)
                  (try simp only [Act.put, List.setIfInBounds_toArray, List.set_cons_zero, List.set_cons_succ])
                  refine wpAnyH_take (i := 21) (v := ?_) (by simp only [List.getElem?_toArray, List.getElem?_cons_zero, List.getElem?_cons_succ]; rfl) (by kernel_rfl) (by kernel_rfl) (by kernel_rfl) (by intro _ _ _ h; exact h) (Or.inl ⟨by rfl, ?_⟩) (by assumption) ?_
                  rotate_left
                  · intro w hSw; (try dsimp only at hSw); go_simp; (try with_reducible rfl)
                  (try simp only [Act.put, List.setIfInBounds_toArray, List.set_cons_zero, List.set_cons_succ])
                  refine wpAnyH_take (i := 22) (v := ?_) (by simp only [List.getElem?_toArray, List.getElem?_cons_zero, List.getElem?_cons_succ]; rfl) (by kernel_rfl) (by kernel_rfl) (by kernel_rfl) (by intro _ _ _ h; exact h) (Or.inl ⟨by rfl, ?_⟩) (by assumption) ?_
                  rotate_left
                  · intro w hSw; (try dsimp only at hSw); go_simp; (try with_reducible rfl)
                  (try simp only [Act.put, List.setIfInBounds_toArray, List.set_cons_zero, List.set_cons_succ])
                  refine wpAnyH_take (i := 23) (v := ?_) (by simp only [List.getElem?_toArray, List.getElem?_cons_zero, List.getElem?_cons_succ]; rfl) (by kernel_rfl) (by kernel_rfl) (by kernel_rfl) (by intro _ _ _ h; exact h) (Or.inl ⟨by rfl, ?_⟩) (by assumption) ?_
                  rotate_left
                  · intro w hSw; (try dsimp only at hSw); go_simp; (try with_reducible rfl)
                  (try simp only [Act.put, List.setIfInBounds_toArray, List.set_cons_zero, List.set_cons_succ])
                  refine wpAnyH_take (i := 24) (v := ?_) (by simp only [List.getElem?_toArray, List.getElem?_cons_zero, List.getElem?_cons_succ]; rfl) (by kernel_rfl) (by kernel_rfl) (by kernel_rfl) (by intro _ _ _ h; exact h) (Or.inl ⟨by rfl, ?_⟩) (by assumption) ?_
                  rotate_left
                  · intro w hSw; (try dsimp only at hSw); go_simp; (try with_reducible rfl)
                  (try simp only [Act.put, List.setIfInBounds_toArray, List.set_cons_zero, List.set_cons_succ])
                  refine wpAnyH_take (i := 25) (v := ?_) (by simp only [List.getElem?_toArray, List.getElem?_cons_zero, List.getElem?_cons_succ]; rfl) (by kernel_rfl) (by kernel_rfl) (by kernel_rfl) (by intro _ _ _ h; exact h) (Or.inl ⟨by rfl, ?_⟩) (by assumption) ?_
                  rotate_left
                  · intro w hSw; (try dsimp only at hSw); go_simp; (try with_reducible rfl)
                  (try simp only [Act.put, List.setIfInBounds_toArray, List.set_cons_zero, List.set_cons_succ])
                  refine wpAnyH_take (i := 26) (v := ?_) (by simp only [List.getElem?_toArray, List.getElem?_cons_zero, List.getElem?_cons_succ]; rfl) (by kernel_rfl) (by kernel_rfl) (by kernel_rfl) (by intro _ _ _ h; exact h) (Or.inl ⟨by rfl, ?_⟩) (by assumption) ?_
                  rotate_left
                  · intro w hSw; (try dsimp only at hSw); go_simp; (try with_reducible rfl)
                  (try simp only [Act.put, List.setIfInBounds_toArray, List.set_cons_zero, List.set_cons_succ])
                  refine wpAnyH_take (i := 27) (v := ?_) (by simp only [List.getElem?_toArray, List.getElem?_cons_zero, List.getElem?_cons_succ]; rfl) (by kernel_rfl) (by kernel_rfl) (by kernel_rfl) (by intro _ _ _ h; exact h) (Or.inl ⟨by rfl, ?_⟩) (by assumption) ?_
                  rotate_left
                  · intro w hSw; (try dsimp only at hSw); go_simp; (try with_reducible rfl)
                  (try simp only [Act.put, List.setIfInBounds_toArray, List.set_cons_zero, List.set_cons_succ])
                  refine wpAnyH_take (i := 28) (v := ?_) (by simp only [List.getElem?_toArray, List.getElem?_cons_zero, List.getElem?_cons_succ]; rfl) (by kernel_rfl) (by kernel_rfl) (by kernel_rfl) (by intro _ _ _ h; exact h) (Or.inl ⟨by rfl, ?_⟩) (by assumption) ?_
                  rotate_left
                  · intro w hSw; (try dsimp only at hSw); go_simp; (try with_reducible rfl)
                  (try simp only [Act.put, List.setIfInBounds_toArray, List.set_cons_zero, List.set_cons_succ])
                  refine wpAnyH_ready (rs := [29]) (by kernel_rfl) (by simp) ?_
                  refine AllReadyH.cons rfl (fun K hK => ?_) AllReadyH.nil
                  refine step_call52 (by rfl) (by rfl) _ _ _ _ (by rfl) _ _ _ (by rfl) (by rfl) (by rfl) (HO _) ?_
                  rintro e w7 ⟨rfl, hb7⟩
                  refine ⟨_, rfl, ?_⟩
                  have HB7 : Hid (Below W5.heap.size W5 w7) := bstep HB.out (bstep (Below.refl _ _).drew hb7)
                  have hbw7 : Below wr.heap.size wr w7 := bstep (Below.refl _ _).drew hb7
                  refine hK.out _ _ ⟨cell_below hbw7 z2, cell_below hbw7 z3, cell_below hbw7 z4, cell_below hbw7 b2, cell_below hbw7 b3, cell_below hbw7 b4⟩ (fun hHeld => ?_)
                  clear hbw7 hb7
                  clear hK K
                  (try simp only [Act.put, List.setIfInBounds_toArray, List.set_cons_zero, List.set_cons_succ])
                  refine wpAnyH_take (i := 30) (v := ?_) (by simp only [List.getElem?_toArray, List.getElem?_cons_zero, List.getElem?_cons_succ]; rfl) (by kernel_rfl) (by kernel_rfl) (by kernel_rfl) (by intro _ _ _ h; exact h) (Or.inl ⟨by rfl, ?_⟩) (by assumption) ?_
                  rotate_left
                  · intro w hSw; (try dsimp only at hSw); go_simp; (try with_reducible rfl)
                  (try simp only [Act.put, List.setIfInBounds_toArray, List.set_cons_zero, List.set_cons_succ])
                  refine wpAnyH_take (i := 31) (v := ?_) (by simp only [List.getElem?_toArray, List.getElem?_cons_zero, List.getElem?_cons_succ]; rfl) (by kernel_rfl) (by kernel_rfl) (by kernel_rfl) (by intro _ _ _ h; exact h) (Or.inl ⟨by rfl, ?_⟩) (by assumption) ?_
                  rotate_left
                  · intro w hSw; (try dsimp only at hSw); go_simp; (try with_reducible rfl)
                  (try simp only [Act.put, List.setIfInBounds_toArray, List.set_cons_zero, List.set_cons_succ])
                  refine wpAnyH_take (i := 32) (v := ?_) (by simp only [List.getElem?_toArray, List.getElem?_cons_zero, List.getElem?_cons_succ]; rfl) (by kernel_rfl) (by kernel_rfl) (by kernel_rfl) (by intro _ _ _ h; exact h) (Or.inl ⟨by rfl, ?_⟩) (by assumption) ?_
                  rotate_left
                  · intro w hSw; (try dsimp only at hSw); go_simp; (try with_reducible rfl)
                  (try simp only [Act.put, List.setIfInBounds_toArray, List.set_cons_zero, List.set_cons_succ])
                  refine wpAnyH_take (i := 33) (v := ?_) (by simp only [List.getElem?_toArray, List.getElem?_cons_zero, List.getElem?_cons_succ]; rfl) (by kernel_rfl) (by kernel_rfl) (by kernel_rfl) (by intro _ _ _ h; exact h) (Or.inl ⟨by rfl, ?_⟩) (by assumption) ?_
                  rotate_left
                  · intro w hSw; (try dsimp only at hSw); go_simp; (try with_reducible rfl)
                  (try simp only [Act.put, List.setIfInBounds_toArray, List.set_cons_zero, List.set_cons_succ])
                  refine wpAnyH_done (by kernel_rfl) ?_ _
                  clear hHeld
                  go_wp2
                  have HB6 : Hid (Below W5.heap.size W5 w7) := HB7.out
                  clear HB7 hd hiz hz0 hz1 hz1n hc2 HO b0 b2 b3 b4 lB HFw HBq HB z0 z1 z2 z3 z4 z5 z6 z7 z8 z9
                  generalize w7 = W6 at *
                  generalize (some ⟨ga, oa, none⟩ : Option Addr) = va at *
                case' s1 =>
                  try clear h
                  try clear hcs2
                  rintro ⟨hn0, hc, hI'⟩
                  have HII : Hid (I = i) := hI'
                  have hd : decide ((i : Int) < (N : Int)) = true := decide_eq_true (by omega)
                  have hiz : (i : Int) < (N : Int) := by omega
                  have hz0 : ((n : Int) == 0) = true := by simp [hn0]
                  have hz1 : decide ((0 : Int) < (n : Int)) = false := decide_eq_false (by omega)
                  have hz1n : decide (0 < n) = false := decide_eq_false (by omega)
                  have hc2 : decide (xf.num ≤ f.num) = false := decide_eq_false (by omega)
                  subst hva
                  clear hI' hn0 hc
                  go_wp2_with (first | go_quiet (fail) | go_big_quiet (fail))
                  have HB6 : Hid (Below W5.heap.size W5 (wr.drewN nq)) := HBq.out nq
                  clear hd hiz hz0 hz1 hz1n hc2 b0 b2 b3 b4 lB HFw HBq HB z0 z1 z2 z3 z4 z5 z6 z7 z8 z9
                  generalize wr.drewN nq = W6 at *
                  generalize (some ⟨ga, oa, none⟩ : Option Addr) = va at *
                case' s3 =>
                  clear hcs
                  rintro ⟨hiN, hI'⟩
                  have HII : Hid (I = i) := hI'
                  have hd : decide ((i : Int) < (N : Int)) = false := decide_eq_false (by omega)
                  have hiz : ¬ (i : Int) < (N : Int) := by omega
                  clear hI'
                  go_wp2_with (first | go_quiet (fail) | go_big_quiet (fail))
                  have HB6 : Hid (Below W5.heap.size W5 (wr.drewN nq)) := HBq.out nq
                  clear hd hiz b0 b2 b3 b4 lB HFw HBq HB
                  generalize wr.drewN nq = W6 at *
                all_goals
                  have HQ6 : Hid (Qv w W6 P e V2 L2 (1024 + q)) := HQ5.out.below HB6.out
                  have HF6 : Hid (Blk W6 B 50 xf.c) := HF5.out.upd (S := Non) (Upd.ofBelow HB6.out) (fun h => h)
                  have HR6 : Hid (RdF W6 va l) := HRw.out.below HB6.out
                  have e0 := HF6.out.cell1 0 _ rfl
                  have e1 := HF6.out.cell1 1 _ rfl
                  have e2 := HF6.out.cell1 2 _ rfl
                  have e3 := HF6.out.cell1 3 _ rfl
                  have e4 := HF6.out.cell1 4 _ rfl
                  have e5 := HF6.out.cell1 5 _ rfl
                  have e6 := HF6.out.cell1 6 _ rfl
                  have e7 := HF6.out.cell1 7 _ rfl
                  have e8 := HF6.out.cell1 8 _ rfl
                  have e9 := HF6.out.cell1 9 _ rfl
                  have HA : Hid (∀ W, Below W6.heap.size W6 W → W.cell? ⟨B, 0, none⟩ = some (.int .u64 xf.num) ∧ W.cell? ⟨B, 1, none⟩ = some (.int .u64 xf.size) ∧ W.cell? ⟨B, 2, none⟩ = some (.string xf.sm.u) ∧ W.cell? ⟨B, 3, none⟩ = some (.int .u64 xf.sm.s) ∧ W.cell? ⟨B, 4, none⟩ = some (.int .i64 xf.sm.k) ∧ W.cell? ⟨B, 5, none⟩ = some (.string xf.la.u) ∧ W.cell? ⟨B, 6, none⟩ = some (.int .u64 xf.la.s) ∧ W.cell? ⟨B, 7, none⟩ = some (.int .i64 xf.la.k) ∧ W.cell? ⟨B, 8, none⟩ = some (.int .u64 xf.ents) ∧ W.cell? ⟨B, 9, none⟩ = some (.int .u64 xf.rngs)) := fun W hb =>
                    ⟨cell_below hb e0, cell_below hb e1, cell_below hb e2, cell_below hb e3, cell_below hb e4, cell_below hb e5, cell_below hb e6, cell_below hb e7, cell_below hb e8, cell_below hb e9⟩
                  have hc1 : ∀ W, (Instr.sliceAt 38 (.slice va N vc) none (some (.int .i64 (i : Int))) none).run Try.prog W = .ok (.slice va i vc) W := fun W => cutL_run _ N vc i (by have := HCl.out.1; omega) W
                  have hlt' : (l.take i).length = i := by rw [List.length_take, hN.out]; omega
                  have HLi : Hid ((l.take i).length = i ∧ (l.take i ++ [xf]).length = i + 1) := ⟨hlt', by rw [List.length_append, hlt']; rfl⟩
                  have hRt : ∀ W, Below W6.heap.size W6 W → RdF W va (l.take i) := fun W hb => rdf_take (HR6.out.below hb) i
                  have hl96 : ([] ++ l.take i).length * 96 ≤ 140737488355328 := by rw [List.nil_append, hlt']; omega
                  have hA0 : RowF (W6.alloc (.cells #[] 50)).drew W6.heap.size (.slice (some ⟨W6.heap.size, 0, none⟩) 0 0) [] := rowF0 W6 (Nat.le_refl _)
                  have hB0 : RowF ((W6.alloc (.cells #[] 50)).alloc xf.o).drew W6.heap.size (.slice (some ⟨W6.heap.size, 0, none⟩) 0 0) [] := row_al hA0 xf.o
                  have hC0 : RowF ((W6.alloc xf.o).alloc (.cells #[] 50)).drew W6.heap.size (.slice (some ⟨W6.heap.size + 1, 0, none⟩) 0 0) [] := by
                    have := rowF0 (W6.alloc xf.o) (b := W6.heap.size) (by simp)
                    rw [World.size_alloc] at this
                    exact this
                  have bA : Below W6.heap.size W6 (W6.alloc (.cells #[] 50)).drew := (al1 _ _).drew
                  have bB : Below W6.heap.size W6 ((W6.alloc (.cells #[] 50)).alloc xf.o).drew := (bstep (al1 _ _) (al1 _ _)).drew
                  have bC : Below W6.heap.size W6 ((W6.alloc xf.o).alloc (.cells #[] 50)).drew := (bstep (al1 _ _) (al1 _ _)).drew
                  have H1A := app_run (n := i) (n' := i) hA0 bA.size (hRt _ bA) (cap := vc) hvl.out (by rw [← List.length_append]; exact hl96) hlt' (by rw [List.nil_append]; exact hlt')
                  have H1B := app_run (n := i) (n' := i) hB0 bB.size (hRt _ bB) (cap := vc) hvl.out (by rw [← List.length_append]; exact hl96) hlt' (by rw [List.nil_append]; exact hlt')
                  have H1C := app_run (n := i) (n' := i) hC0 bC.size (hRt _ bC) (cap := vc) hvl.out (by rw [← List.length_append]; exact hl96) hlt' (by rw [List.nil_append]; exact hlt')
                  rw [List.nil_append] at H1A H1B H1C
                  have HbA : Hid (Below W6.heap.size W6 (W6.alloc (.cells #[] 50)).drew) := bA
                  have HbB : Hid (Below W6.heap.size W6 ((W6.alloc (.cells #[] 50)).alloc xf.o).drew) := bB
                  have HbC : Hid (Below W6.heap.size W6 ((W6.alloc xf.o).alloc (.cells #[] 50)).drew) := bC
                  have HxB : Hid (Blk ((W6.alloc (.cells #[] 50)).alloc xf.o).drew (W6.heap.size + 1) 50 xf.c) := by
                    have := box_new (W6.alloc (.cells #[] 50)) xf
                    rw [World.size_alloc] at this
                    exact this.drew
                  have HxC : Hid (Blk ((W6.alloc xf.o).alloc (.cells #[] 50)).drew W6.heap.size 50 xf.c) := ((box_new W6 xf).alloc _).drew
                  have HL97 : Hid (((l.take i).length + [xf].length) * 96 ≤ 140737488355328) := by show (_ + 1) * 96 ≤ _; rw [hlt']; omega
                  have hwI : IntKind.i64.wrap ((i : Int) + 1) = (i : Int) + 1 := by rw [IntKind.wrap_i64]; omega
                  clear hA0 hB0 hC0 bA bB bC hRt hl96 hlt'
                  go_cut [18] (fun t wd => ∃ a8 c8, t = .slice a8 (i + 1) c8 ∧ Hid (Below W6.heap.size W6 wd) ∧ Hid (RowF wd W6.heap.size (.slice a8 (i + 1) c8) (l.take i ++ [xf])))
                  case first =>
                    go_region_held_law (fun w' => w'.cell? ⟨B, 0, none⟩ = some (.int .u64 xf.num) ∧ w'.cell? ⟨B, 1, none⟩ = some (.int .u64 xf.size) ∧ w'.cell? ⟨B, 2, none⟩ = some (.string xf.sm.u) ∧ w'.cell? ⟨B, 3, none⟩ = some (.int .u64 xf.sm.s) ∧ w'.cell? ⟨B, 4, none⟩ = some (.int .i64 xf.sm.k) ∧ w'.cell? ⟨B, 5, none⟩ = some (.string xf.la.u) ∧ w'.cell? ⟨B, 6, none⟩ = some (.int .u64 xf.la.s) ∧ w'.cell? ⟨B, 7, none⟩ = some (.int .i64 xf.la.k) ∧ w'.cell? ⟨B, 8, none⟩ = some (.int .u64 xf.ents) ∧ w'.cell? ⟨B, 9, none⟩ = some (.int .u64 xf.rngs))
                      (first
                        | exact HA.out _ HB8.out
                        | exact HA.out _ (bstep HB7.out (al1 _ _))
                        | exact HA.out _ HB7.out
                        | exact HA.out _ HbA.out
                        | exact HA.out _ HbB.out
                        | exact HA.out _ HbC.out
                        | exact HA.out _ (al1 _ _).drew
                        | (go_keep; done))
                      (first
                        | (refine step_app (by rfl) (by rfl) _ _ (by rfl) (by rfl) (by rfl) H2 ?_
                           rintro v8 w8 ⟨a8, c8, rfl, hr8, hc8, hu8, hb8⟩
                           have HB8 : Hid (Below W6.heap.size W6 w8) := HB7.out.trans hb8
                           have HR8 : Hid (RowF w8 W6.heap.size (.slice a8 (i + 1) c8) (l.take i ++ [xf])) := hr8
                           clear hr8 hu8 hb8 hc8)
                        | (refine step_app (by rfl) (by rfl) _ _ (by rfl) (by rfl) (by rfl) H2A ?_
                           rintro v8 w8 ⟨a8, c8, rfl, hr8, hc8, hu8, hb8⟩
                           have HB8 : Hid (Below W6.heap.size W6 w8) := HB7.out.trans (((al1 _ _).mono HB7.out.size).trans hb8)
                           have HR8 : Hid (RowF w8 W6.heap.size (.slice a8 (i + 1) c8) (l.take i ++ [xf])) := hr8
                           clear hr8 hu8 hb8 hc8)
                        | (refine step_app (by rfl) (by rfl) _ _ (by rfl) (by rfl) (by rfl) H1A ?_
                           rintro v7 w7 ⟨a7, c7, rfl, hr7, hc7, hu7, hb7⟩
                           have HB7 : Hid (Below W6.heap.size W6 w7) := HbA.out.trans hb7
                           have H2A := app_run (n := 1) (n' := i + 1) (row_al hr7 xf.o) (bstep HB7.out (al1 _ _)).size (srcF w7 xf) (cap := 1) (fun h => by cases h) HL97.out rfl HLi.out.2
                           clear hr7 hu7 hb7 hc7)
                        | (refine step_app (by rfl) (by rfl) _ _ (by rfl) (by rfl) (by rfl) H1B ?_
                           rintro v7 w7 ⟨a7, c7, rfl, hr7, hc7, hu7, hb7⟩
                           have HB7 : Hid (Below W6.heap.size W6 w7) := HbB.out.trans hb7
                           have H2 := app_run (n := 1) (n' := i + 1) hr7 HB7.out.size (blk_rdf (HxB.out.upd hu7 (fun h => by have h' : some W6.heap.size = some (W6.heap.size + 1) := h; simp at h'))) (cap := 1) (fun h => by cases h) HL97.out rfl HLi.out.2
                           clear hr7 hu7 hb7 hc7)
                        | (refine step_app (by rfl) (by rfl) _ _ (by rfl) (by rfl) (by rfl) H1C ?_
                           rintro v7 w7 ⟨a7, c7, rfl, hr7, hc7, hu7, hb7⟩
                           have HB7 : Hid (Below W6.heap.size W6 w7) := HbC.out.trans hb7
                           have H2 := app_run (n := 1) (n' := i + 1) hr7 HB7.out.size (blk_rdf (HxC.out.upd hu7 (fun h => by have h' : some (W6.heap.size + 1) = some W6.heap.size := h; simp at h'))) (cap := 1) (fun h => by cases h) HL97.out rfl HLi.out.2
                           clear hr7 hu7 hb7 hc7))
                    all_goals
                      go_wp2
                      go_meet
                      exact ⟨a8, c8, rfl, HB8, HR8⟩
                  case rest =>
                    obtain ⟨a8, c8, rfl, HB8, HR8⟩ := hcut
                    obtain ⟨K, hK⟩ : ∃ K, i + K = N := ⟨N - i, by omega⟩
                    obtain ⟨M, hM⟩ : ∃ M, N + 1 = M := ⟨_, rfl⟩
                    have hc2 : ∀ W, (Instr.sliceAt 38 (.slice va N vc) (some (.int .i64 (i : Int))) none none).run Try.prog W = .ok (.slice (cutF va vc i) K (vc - i)) W := fun W => by
                      have := cutF_run va N vc i (by omega) W
                      rw [show N - i = K by omega] at this
                      exact this
                    have hll : (l.drop i).length = K := by rw [List.length_drop, hN.out]; omega
                    have hl2 : ((l.take i ++ [xf]) ++ l.drop i).length = M := by rw [List.length_append, HLi.out.2, hll]; omega
                    have het : (l.take i ++ [xf]) ++ l.drop i = tins l i xf := by rw [List.append_assoc]; rfl
                    have hcn : cutF va vc i = none → vc - i = 0 := fun h => by have := hvl.out (cutF_none h); omega
                    have hRc : RdF _ (cutF va vc i) (l.drop i) := rdf_cut (HR6.out.below HB8.out) (by rw [hN.out]; exact HCl.out.1)
                    generalize cutF va vc i = aK at *
                    generalize vc - i = cK at *
                    obtain ⟨v9, w9, hr9, a9, c9, hv9, hrow9, hc9, hu9, hb9⟩ := app_run (n := K) (n' := M) HR8.out HB8.out.size hRc (cap := cK) hcn (by rw [HLi.out.2, hll]; omega) hll hl2
                    subst hv9
                    have HB9 : Hid (Below W6.heap.size W6 w9) := HB8.out.trans hb9
                    obtain ⟨V9, hQ9⟩ := HQ6.out.put HB9.out hn7 (rowF_rdf hrow9).1 (rowF_rdf hrow9).2 hl2 (by rw [hl2]; exact hc9) (N' := 1024 + (q + 1)) (by omega) (by rw [hl2]; have := HCl.out.2.1; omega) (fun f hf => by
                      rw [het] at hf
                      rcases tins_mem hf with rfl | h
                      · exact HXo.out
                      · exact HQ6.out.ok n hn7 f (by rw [hl.out]; exact h))
                    have HQ9 : Hid (Qv w (w9.setCell ⟨w.heap.size, n, none⟩ (.slice a9 M c9)) P e V9 (updL L2 n ((l.take i ++ [xf]) ++ l.drop i)) (1024 + (q + 1))) := hQ9
                    have HN1 : Hid (RES = finR how (addL how (updL L2 n ((l.take i ++ [xf]) ++ l.drop i)) (e.added.drop (q + 1)))) := by
                      show _ = _
                      rw [het, HR2.out, HII.out]
                    have q9 := (HQ6.out.below HB9.out).box.cell1 n _ (cells7_get _ n hn7)
                    have f9 := (HQ6.out.below HB9.out).box.frozen n
                    have l9 := (HQ6.out.below HB9.out).box.lt
                    clear hll hl2 het hcn hRc hrow9 hc9 hu9 hb9 hQ9 hM hK H1A H1B H1C e0 e1 e2 e3 e4 e5 e6 e7 e8 e9 hc1 HxB HxC HbA HbB HbC HL97 HA hwI
                    go_wp2_with (at_builtin; refine Lib.wpList_append_run _ rfl _ _ _ _ rfl _ _ rfl rfl _ _ hr9 ?_)
                    go_roundw
                    case rel => exact ⟨q + 1, V9, _, by omega, by go_num, HN1.out, HQ9.out⟩
                    case measure => simp [intOf]; omega
            · obtain rfl : q = A := by omega
              have hz : ¬ ((q : Int) < q) := by omega
              have HF : Hid (RES = finR how L2) := by
                show _ = _
                rw [HR.out, List.drop_of_length_le (by rw [hA.out]; exact Nat.le_refl _)]; rfl
              clear HR
              obtain ⟨x0, x1, x2, x3, x4, x5, x6, _, _, _, _, _, _, _, lx⟩ := blk7 HQ.out.box
              have HRv : Hid (RdV wr V2 L2) := HQ.out.rdv (by omega)
              have H22' := qcheck_any HRv.out how
              obtain ⟨C3, hC3⟩ : ∃ C3, Hid (chkE how L2 = C3) := ⟨_, rfl⟩
              rw [hC3.out] at H22'
              by_cases hc3 : C3 = 0
              · have hc3' : (C3 != 0) = false := by simp [hc3]
                have hr : Hid (RES = (0, L2)) := by show _ = _; rw [HF.out]; unfold finR; rw [hC3.out, if_neg (by simp [hc3])]
                clear HF
                go_wp2_with (go_at_call 22; refine H22'.mono ?_; rintro en w9 ⟨rfl, hb9⟩
                             have HQ9 : Hid (Qv w w9 P e V2 L2 (1024 + q)) := HQ.out.below hb9
                             obtain ⟨r0, r1, r2, r3, r4, r5, r6, f0, f1, f2, f3, f4, f5, f6, lr⟩ := blk7 HQ9.out.res
                             obtain ⟨s0, s1, s2, s3, s4, s5, s6, _, _, _, _, _, _, _, ls⟩ := blk7 HQ9.out.box)
                refine bodyPost_ret (v := .tuple #[.agg (verA V2 L2), .int .i64 0]) (by simp [results, Try.results19, go_sem, *]) rfl ?_
                have U := upd7 w9 (w.heap.size + 1 + 1) (vsl V2 L2 0) (vsl V2 L2 1) (vsl V2 L2 2) (vsl V2 L2 3) (vsl V2 L2 4) (vsl V2 L2 5) (vsl V2 L2 6)
                have hbl := Upd.bel HQ9.out.bel U (fun j hj => by omega) HQ9.out.bel.size
                have hrd : RdV _ V2 L2 := ⟨fun i hi => rdf_upd HQ9.out.res (fun _ => ⟨_, _, _, rfl⟩) (HQ9.out.rd i hi) U, HQ9.out.nil, fun i hi => by have := HQ9.out.len i hi; omega, HQ9.out.ok⟩
                unfold RApp
                rw [hr.out]
                exact ⟨V2, rfl, hrd, hbl⟩
              · have hc3' : (C3 != 0) = true := by simp [hc3]
                have hr : Hid (RES = (C3, fun _ => [])) := by show _ = _; rw [HF.out]; unfold finR; rw [hC3.out, if_pos hc3]
                clear HF
                go_wp2_with (go_at_call 22; refine H22'.mono ?_; rintro en w9 ⟨rfl, hb9⟩
                             have HQ9 : Hid (Qv w w9 P e V2 L2 (1024 + q)) := HQ.out.below hb9
                             have HB10 : Hid (Below w.heap.size w w9) := HQ9.out.bel
                             obtain ⟨r0, r1, r2, r3, r4, r5, r6, f0, f1, f2, f3, f4, f5, f6, lr⟩ := blk7 HQ9.out.res)
                refine bodyPost_ret (v := .tuple #[.agg #[.slice none 0 0, .slice none 0 0, .slice none 0 0, .slice none 0 0, .slice none 0 0, .slice none 0 0, .slice none 0 0], .int .i64 C3]) (by simp [results, Try.results19, go_sem, *]) rfl ?_
                exact rapp_no HB10.out (by omega) hr.out _ _ _ _ _ _ _
    · have hc2' : (C2 != 0) = true := by simp [hc2]
      have hr : Hid (RES = (C2, fun _ => [])) := by show _ = _; rw [← hRES.out]; unfold appR; rw [hC1.out, if_neg (by simp [hc1]), hC2.out, if_pos hc2]
      clear hRES
      go_enter Try.func19, Try.ntmps19
      go_wp2_with (first
        | (go_at_call 22; refine H22.mono ?_; rintro en w2 ⟨rfl, hb2⟩
           have X2 := HB1.out.2.1.upd (S := Non) (Upd.ofBelow hb2) (fun h => h)
           obtain ⟨d0, d1, d2, d3, d4, d5, d6, d7, d8, d9, d10, d11, d12, ld⟩ := ed13 X2
           have H36 := HCe.out _ (bstep HB1.out.1 hb2)
           clear X2)
        | (go_at_call 36; refine H36.mono ?_; rintro en w3 ⟨rfl, hb3⟩
           have X2 := HB1.out.2.2.upd (S := Non) (Upd.ofBelow (bstep hb2 hb3)) (fun h => h)
           obtain ⟨r0, r1, r2, r3, r4, r5, r6, f0, f1, f2, f3, f4, f5, f6, lr⟩ := blk7 X2
           clear X2))
      refine bodyPost_ret (v := .tuple #[.agg #[.slice none 0 0, .slice none 0 0, .slice none 0 0, .slice none 0 0, .slice none 0 0, .slice none 0 0, .slice none 0 0], .int .i64 C2]) (by simp [results, Try.results19, go_sem, *]) rfl ?_
      exact rapp_no (bstep (bstep HB1.out.1 hb2) hb3) (by omega) hr.out _ _ _ _ _ _ _
  · have hc1' : (C1 != 0) = true := by simp [hc1]
    have hr : Hid (RES = (C1, fun _ => [])) := by show _ = _; rw [← hRES.out]; unfold appR; rw [hC1.out, if_pos hc1]
    clear hRES
    go_enter Try.func19, Try.ntmps19
    go_wp2_with (go_at_call 22; refine H22.mono ?_; rintro e w2 ⟨rfl, hb2⟩
                 have X2 := HB1.out.2.2.upd (S := Non) (Upd.ofBelow hb2) (fun h => h)
                 obtain ⟨r0, r1, r2, r3, r4, r5, r6, f0, f1, f2, f3, f4, f5, f6, lr⟩ := blk7 X2
                 clear X2)
    refine bodyPost_ret (v := .tuple #[.agg #[.slice none 0 0, .slice none 0 0, .slice none 0 0, .slice none 0 0, .slice none 0 0, .slice none 0 0, .slice none 0 0], .int .i64 C1]) (by simp [results, Try.results19, go_sem, *]) rfl ?_
    exact rapp_no (bstep HB1.out.1 hb2) (by omega) hr.out _ _ _ _ _ _ _
end Go.Proofs.Ytkmpcheamdadcaa
