/-
  spread, walked.
-/
import Derived.Test.YtkmpcheamdadcaaXb
import Derived.Lib.AppendZeros
import Derived.Laws.EntriesVeiled
import Derived.Deep.RegionLaw
namespace Go.Proofs.Ytkmpcheamdadcaa
open Go.RowKit
set_option linter.unusedVariables false
set_option linter.unusedSimpArgs false
def sprT (how : Int) (l : List Fi) (T : List Bool) : List Bool := spr how l l.length ((List.range l.length).filter fun i => T.getD i false) ((List.range l.length).filter fun i => !T.getD i false) T
theorem step_call67 {ops : Array Oper} {o : Oper} {a : Act} {w : World} {K : Act → World → Prop} {Q : Exit → Act → World → Prop} {Ex : Prop} (hw : Region.wanted o (yielded ops a.tmps) = true) {d : Nat} (hd : o.dst = some d) (x y z t : Operand) (ts : Array TypeId)
    (ho : o.op = .call { callee := .value (.func 67), args := #[x, y, z, t], argTypes := ts }) (u v q p : Value) (hx : a.eval x = u) (hy : a.eval y = v) (hz : a.eval z = q) (ht : a.eval t = p) {R : Ending → World → Prop} (hc : Calls Try.prog 67 #[u, v, q, p] w R)
    (h : ∀ e w', R e w' → ∃ r, e = .returned r ∧ K (a.put (some d) r) w') :
    if Region.wanted o (yielded ops a.tmps) = true then Oper.wp Try.prog o a w K Q else Ex := by
  rw [if_pos hw]
  have he := enters_of (P := Try.prog) Try.func67 (by kernel_rfl) rfl #[u, v, q, p]
  unfold Oper.wp execOp
  simp only [ho, resolve, invoke, Sem.run_bind, Sem.run_pure, Result.andThen_ok, List.map_toArray, List.map_cons, List.map_nil, hx, hy, hz, ht, go_sem]
  show Oper.upon Try.prog o a K Q (Sem.run Try.prog (callFunc 67 (#[] ++ #[a.eval x, a.eval y, a.eval z, a.eval t] ++ #[])) w)
  rw [show (#[] ++ #[a.eval x, a.eval y, a.eval z, a.eval t] ++ #[] : Array Value) = #[u, v, q, p] by simp [hx, hy, hz, ht], he, Oper.upon_enter]
  refine hc.mono ?_
  intro e w' hR
  obtain ⟨r, rfl, hk⟩ := h e w' hR
  show K (a.put o.dst r) w'
  rw [hd]; exact hk
theorem rdf_hold {w w' : World} {a : Option Addr} {l : List Fi} {tb : Nat} (h : RdF w a l) (u : Upd (fun b => b = tb) w w') (hne : l = [] ∨ ∀ g o, a = some ⟨g, o, none⟩ → g ≠ tb) : RdF w' a l := by
  rcases hne with e | e
  · exact .inl e
  · exact h.upd u (fun g o e1 e2 => e g o e1 e2)
theorem Blk.index {w : World} {b : Nat} {t : TypeId} {cs : List Value} (h : Blk w b t cs) {i : Nat} {v : Value} (hv : cs[i]? = some v) : w.cell? ⟨b, 0 + i * 1, none⟩ = some v := by
  rw [Nat.zero_add, Nat.mul_one]; exact h.cell1 i v hv
set_option maxRecDepth 100000 in
set_option maxHeartbeats 2000000 in
theorem spread_any {w : World} {a : Option Addr} {cap : Nat} {l : List Fi} (hr : RdF w a l) (hl : l.length * 96 ≤ 140737488355328) {tb : Nat} {T : List Bool} (ht : Blk w tb 4 (bls T)) (hT : T.length = l.length) (hne : l = [] ∨ ∀ g o, a = some ⟨g, o, none⟩ → g ≠ tb) (how : Int) :
    Calls Try.prog 68 #[.int .i64 how, .slice a l.length cap, .slice (some ⟨tb, 0, none⟩) l.length l.length] w fun e w' => e = .returned (.tuple #[]) ∧ Blk w' tb 4 (bls (sprT how l T)) ∧ Upd (fun b => b = tb) w w' := by
  have H : Hid (RdF w a l ∧ Blk w tb 4 (bls T) ∧ T.length = l.length ∧ (l = [] ∨ ∀ g o, a = some ⟨g, o, none⟩ → g ≠ tb)) := ⟨hr, ht, hT, hne⟩
  have htb := ht.lt
  obtain ⟨R, hR⟩ : ∃ R, Hid (sprT how l T = R) := ⟨_, rfl⟩
  rw [hR.out]
  obtain ⟨N, hN⟩ : ∃ N, Hid (l.length = N) := ⟨_, rfl⟩
  rw [hN.out] at hl ⊢
  clear hr ht hT hne
  go_enter Try.func68, Try.ntmps68
  go_wp2_with fail
  go_loopw [6, 7, 15] (fun v6 v7 i wr => ∃ k : Nat, k ≤ N ∧ i = .int .i64 k ∧ Hid (Lo w tb l T k wr v6 v7)) (fun _ _ i _ => ((N : Int) - intOf i).toNat)
  case atStart => exact ⟨0, Nat.zero_le _, rfl, ⟨Qi.nil _ _, Qi.nil _ _, (fun b h => by cases h), Below.refl _ _⟩⟩
  case round =>
    obtain ⟨k, hk, rfl, HL⟩ := hrel
    rcases Nat.lt_or_ge k N with hkN | hkN
    · have hkz : (k : Int) < (N : Int) := by omega
      obtain ⟨b, hb⟩ : ∃ b, T[k]? = some b := ⟨_, List.getElem?_eq_getElem (by rw [H.out.2.2.1, hN.out]; exact hkN)⟩
      have hc := (H.out.2.1.upd (S := Non) (Upd.ofBelow HL.out.bel) (fun h => h)).cell1 k _ (bls_get hb)
      have hbs := HL.out.bel.size
      have hD : Hid (T.getD k false = b) := by show T.getD k false = b; rw [List.getD_eq_getElem?_getD, hb]; rfl
      clear hb
      have hbk := Blk.new wr 3 [.int .i64 (k : Int)]
      have hlw : Hid (∀ m, m ≤ k → (m + 1) * 8 ≤ 140737488355328) := fun m hm => by omega
      cases b
      · obtain ⟨v7', w7, hr7, hq7, hu7, ho7⟩ := run_push (HL.out.q7.below (al1 wr (.cells #[.int .i64 (k : Int)] 3))) (by simp; omega) hbk 135 (hlw.out _ (flt_len _ k))
        have HL' : Hid (Lo w tb l T (k + 1) w7 u6 v7') := HL.out.f hD.out hq7 hu7 ho7
        clear hq7 hu7 ho7 hbk
        go_wp2_with (at_builtin; refine Lib.wpList_append_run _ rfl _ _ _ _ rfl _ _ rfl rfl _ _ hr7 ?_)
        go_roundw
        case rel => exact ⟨k + 1, by omega, by go_num, HL'⟩
        case measure => simp [intOf]; omega
      · obtain ⟨v6', w6, hr6, hq6, hu6, ho6⟩ := run_push (HL.out.q6.below (al1 wr (.cells #[.int .i64 (k : Int)] 3))) (by simp; omega) hbk 135 (hlw.out _ (flt_len _ k))
        have HL' : Hid (Lo w tb l T (k + 1) w6 v6' u7) := HL.out.t hD.out hq6 hu6 ho6
        clear hq6 hu6 ho6 hbk
        go_wp2_with (at_builtin; refine Lib.wpList_append_run _ rfl _ _ _ _ rfl _ _ rfl rfl _ _ hr6 ?_)
        go_roundw
        case rel => exact ⟨k + 1, by omega, by go_num, HL'⟩
        case measure => simp [intOf]; omega
    · obtain rfl : k = N := by omega
      have hz : ¬ ((k : Int) < k) := by omega
      have HS : Hid (∃ W L T1, Sp w tb how l R W L T1 k wr u6 u7) := by
        have hL := HL.out
        have h2 := flt_two (fun i => T.getD i false) k
        refine ⟨_, _, T, hL.q6, hL.q7, hL.apart, H.out.2.1.upd (S := Non) (Upd.ofBelow hL.bel) (fun h => h), Upd.ofBelow hL.bel, by omega, ?_, ?_, ?_, H.out.2.2.1, by rw [hN.out]; omega⟩
        · rw [← hR.out]; unfold sprT; rw [hN.out]
        · intro i hi; rw [hN.out]; simpa using (List.mem_filter.1 hi).1
        · intro i hi; rw [hN.out]; simpa using (List.mem_filter.1 hi).1
      clear HL hz
      go_wp2_with fail
      go_loopw [6, 7] (fun v6 v7 wr => Hid (∃ W L T1 q, Sp w tb how l R W L T1 q wr v6 v7)) (fun v6 v7 _ => lenV v6 + lenV v7)
      case atStart => obtain ⟨W, L, T1, h⟩ := HS.out; exact ⟨W, L, T1, k, h⟩
      case round =>
        clear HS
        obtain ⟨W, L, T1, q, HP0⟩ := hrel.out
        have HP : Hid (Sp w tb how l R W L T1 q wr u6 u7) := HP0
        clear hrel HP0
        cases W with
        | nil =>
          obtain ⟨a6, c6, rfl⟩ := HP.out.q6.slice
          have HF : Hid (Blk wr tb 4 (bls R) ∧ Upd (fun b => b = tb) w wr) := by
            refine ⟨?_, HP.out.upd⟩
            have h1 := HP.out.out
            have h2 := HP.out.told
            cases q <;> (simp only [spr] at h1; subst h1; exact h2)
          clear HP
          simp only [List.length_nil]
          go_wp2_with fail
          go_end0
          exact ⟨rfl, HF.out⟩
        | cons x W =>
          obtain ⟨g6, o6, p6, rfl, hp1, hp2, hx6, hq6⟩ := HP.out.q6.head
          obtain ⟨f, hf⟩ : ∃ f, l[x]? = some f := ⟨_, List.getElem?_eq_getElem (HP.out.mw x (List.mem_cons_self ..))⟩
          obtain ⟨ga, oa, rfl, hat⟩ := (rdf_hold H.out.1 HP.out.upd H.out.2.2.2).at_ hf
          obtain ⟨t0, t1, t2, t3, t4, t5, t6, t7, t8, t9⟩ := hat.f
          have hxk : (x : Int) < (k : Int) := by have := HP.out.mw x (List.mem_cons_self ..); rw [hN.out] at this; omega
          have hwz : (0 : Int) < ((W.length + 1 : Nat) : Int) := by omega
          have hp1' : ((1 : Nat) : Int) ≤ ((W.length + 1 : Nat) : Int) := by omega
          have hp3 : ((W.length + 1 : Nat) : Int) ≤ (p6 : Int) := by omega
          have hp4 : (p6 : Int) ≤ 9223372036854775807 := by unfold maxLen at hp2; omega
          have HF6 : Hid (l[x]? = some f) := hf
          have HQ6 : Hid (Qi wr w.heap.size (.slice (if p6 = 1 then some ⟨g6, o6, none⟩ else some ⟨g6, o6 + 1, none⟩) W.length (p6 - 1)) W) := hq6
          clear hf hat hq6
          generalize hWn : W.length = M at *
          have HWn : Hid (W.length = M) := hWn
          clear hWn
          have hMl : Hid (M + L.length + 1 ≤ k) := by
            have h1 := HP.out.n
            rw [hN.out] at h1
            have := HWn.out
            simp only [List.length_cons] at h1
            show _ ≤ _; omega
          have HQ1 : Hid (p6 = 1 → Qi wr w.heap.size (.slice (some ⟨g6, o6, none⟩) M 0) W) := fun e => by
            have := HQ6.out; rw [if_pos e, e] at this; exact this
          have HQ2 : Hid (¬ p6 = 1 → Qi wr w.heap.size (.slice (some ⟨g6, o6 + 1, none⟩) M (p6 - 1)) W) := fun e => by
            have := HQ6.out; rw [if_neg e] at this; exact this
          rcases HP.out.q7 with ⟨rfl, hL0⟩ | ⟨g7, o7, c7, cur7, rfl, hb7, hk7, hl7, hm7, hs7, hi7⟩
          · subst hL0
            by_cases hp : p6 = 1
            · subst hp
              obtain rfl : M = 0 := by omega
              have HS2 := HP.out.next0 (HQ1.out rfl) f.o
              clear HP HQ1 HQ2 HQ6
              go_wp2_with fail
              go_loopw [6, 10, 46] (fun v6 v10 i w2 => v6 = .slice (some ⟨g6, o6, none⟩) 0 0 ∧ v10 = .slice none 0 0 ∧ i = .int .i64 0 ∧ Hid (∃ q', Sp w tb how l R W [] T1 q' w2 (.slice (some ⟨g6, o6, none⟩) 0 0) (.slice none 0 0))) (fun _ _ _ _ => 0)
              case atStart => exact ⟨rfl, rfl, rfl, HS2⟩
              case round =>
                clear HS2
                obtain ⟨rfl, rfl, rfl, HS3⟩ := hrel
                go_wp2_with fail
                go_roundw
                case rel => obtain ⟨q', h⟩ := HS3.out; exact ⟨W, [], T1, q', h⟩
                case measure => simp [lenV]
            ·
              have HS2 := HP.out.next0 (HQ2.out hp) f.o
              clear HP HQ1 HQ2 HQ6
              go_wp2_with fail
              go_loopw [6, 10, 46] (fun v6 v10 i w2 => v6 = .slice (some ⟨g6, o6 + 1, none⟩) M (p6 - 1) ∧ v10 = .slice none 0 0 ∧ i = .int .i64 0 ∧ Hid (∃ q', Sp w tb how l R W [] T1 q' w2 (.slice (some ⟨g6, o6 + 1, none⟩) M (p6 - 1)) (.slice none 0 0))) (fun _ _ _ _ => 0)
              case atStart => exact ⟨rfl, rfl, rfl, HS2⟩
              case round =>
                clear HS2
                obtain ⟨rfl, rfl, rfl, HS3⟩ := hrel
                go_wp2_with fail
                go_roundw
                case rel => obtain ⟨q', h⟩ := HS3.out; exact ⟨W, [], T1, q', h⟩
                case measure => simp [lenV]
          · generalize hJ0 : L.length = J at *
            have HJ : Hid (L.length = J) := hJ0
            clear hJ0
            have hJ3 : (J : Int) ≤ (c7 : Int) := by omega
            have hJ4 : (c7 : Int) ≤ 9223372036854775807 := by unfold maxLen at hm7; omega
            have hJ5 : (0 : Int) ≤ (c7 : Int) := by omega
            rw [← HJ.out] at HP
            by_cases hp : p6 = 1
            · subst hp
              obtain rfl : M = 0 := by omega
              have HS2 : Hid (Hl w tb l wr.heap.size f g7 o7 c7 L 0 (W, [], T1) (wr.alloc f.o) (.slice (some ⟨g6, o6, none⟩) 0 0) (.slice (some ⟨g7, o7, none⟩) 0 c7)) := Hl.start HP.out (HQ1.out rfl) rfl hb7 hk7 hs7 hi7 f
              clear HQ1 HQ2 HQ6 hb7 hk7 hs7 hi7
              obtain ⟨FB, hFB⟩ : ∃ FB, Hid (wr.heap.size = FB) := ⟨_, rfl⟩
              go_wp2_with fail
              go_loopw [6, 10, 46] (fun v6 v10 i w2 => ∃ j : Nat, j ≤ J ∧ i = .int .i64 j ∧ Hid (Hl w tb l FB f g7 o7 c7 L j ((L.take j).foldl (stp how l f) (W, [], T1)) w2 v6 v10)) (fun _ _ i _ => ((J : Int) - intOf i).toNat)
              case atStart => exact ⟨0, Nat.zero_le _, rfl, by rw [← hFB.out]; exact HS2.out⟩
              case round =>
                clear HS2
                obtain ⟨j, hj, rfl, HH⟩ := hrel
                rcases Nat.lt_or_ge j J with hjJ | hjJ
                · obtain ⟨x', hx'⟩ : ∃ x', L[j]? = some x' := ⟨_, List.getElem?_eq_getElem (by rw [HJ.out]; exact hjJ)⟩
                  have hlx : Hid (x' < l.length) := HP.out.ml x' (List.mem_of_getElem? hx')
                  have hlt : Hid (x' < T1.length) := by show _ < _; rw [HP.out.lt]; exact hlx.out
                  obtain ⟨f', hf'⟩ : ∃ f', l[x']? = some f' := ⟨_, List.getElem?_eq_getElem hlx.out⟩
                  have hlen := stp_len how l f (L.take j) (W, [], T1)
                  have hstep : Hid ((L.take (j + 1)).foldl (stp how l f) (W, [], T1) = stp how l f ((L.take j).foldl (stp how l f) (W, [], T1)) x') := by
                    show _ = _
                    rw [List.take_add_one, hx', List.foldl_append]; rfl
                  have hgd : Hid (l.getD x' default = f') := by show l.getD x' default = f'; rw [List.getD_eq_getElem?_getD, hf']; rfl
                  generalize (L.take j).foldl (stp how l f) (W, [], T1) = s at *
                  have hm0 : Hid (s.2.1.length ≤ j) := by
                    have := hlen.2.1
                    simp only [List.length_nil, Nat.zero_add, List.length_take] at this
                    show _ ≤ _; omega
                  have hT2 : Hid (x' < s.2.2.length) := by
                    have := hlen.2.2
                    show _ < _; rw [this]; exact hlt.out
                  have hW2 : Hid ((s.1.length + 1) * 8 ≤ 140737488355328) := by
                    have h1 := hlen.1
                    have h2 := HWn.out
                    have h3 := hMl.out
                    have h4 := HJ.out
                    simp only [List.length_nil, Nat.add_zero, List.length_take] at h1
                    show _ ≤ _; omega
                  obtain ⟨b0, hb0⟩ : ∃ b0, s.2.2[x']? = some b0 := ⟨_, List.getElem?_eq_getElem hT2.out⟩
                  have HT := HH.out.told
                  have ct := HT.cell1 x' _ (bls_get hb0)
                  have ctf := HT.frozen x'
                  have ctl := HT.lt
                  have cx := HH.out.look hx'
                  have cb2 := HH.out.box.cell1 2 _ rfl
                  have cb5 := HH.out.box.cell1 5 _ rfl
                  rw [← hFB.out] at cb2 cb5
                  obtain ⟨ga', oa', e', hat'⟩ := (rdf_hold H.out.1 HH.out.upd H.out.2.2.2).at_ hf'
                  cases e'
                  obtain ⟨y0, y1, y2, y3, y4, y5, y6, y7, y8, y9⟩ := hat'.f
                  have hxk' : (x' : Int) < (k : Int) := by have := hlx.out; rw [hN.out] at this; omega
                  have hjz : (j : Int) < (J : Int) := by omega
                  have HR := fun w => reaches_any how f' f.sm.u f.la.u w
                  obtain ⟨cur, c1, c2, c3, c4⟩ := HH.out.row
                  have hv10 := HH.out.v10
                  subst hv10
                  have hbase2 : Hid (w.heap.size ≤ wr.heap.size) := HH.out.upd.size
                  clear hx' hf' hb0 hat' HT hlen hlx hlt t0 t1 t2 t3 t4 t5 t6 t7 t8 t9 hx6
                  cases hrc : rchB how f' f.sm.u f.la.u
                  · rw [hrc] at HR
                    have hr7 := run_push_room (w := ((wr.alloc f'.o).alloc (.cells #[.int .i64 (x' : Int)] 3)).drew) (((c1.alloc f'.o).alloc (.cells #[.int .i64 (x' : Int)] 3)).drew) (n := s.2.1.length) (cap := c7) (by have := hm0.out; omega) c2 (Blk.new (wr.alloc f'.o) 3 [.int .i64 (x' : Int)]).drew 135
                    rw [World.size_alloc] at hr7
                    have HH' : Hid (Hl w tb l FB f g7 o7 c7 L (j + 1) ((L.take (j + 1)).foldl (stp how l f) (W, [], T1)) ((((wr.alloc f'.o).alloc (.cells #[.int .i64 (x' : Int)] 3)).setCell ⟨g7, o7 + s.2.1.length, none⟩ (.int .i64 (x' : Int))).drew) u6 (.slice (some ⟨g7, o7, none⟩) (s.2.1.length + 1) c7)) := by
                      rw [hstep.out]
                      unfold stp
                      rw [hgd.out, hrc]
                      exact (((HH.out.alloc f'.o).alloc (.cells #[.int .i64 (x' : Int)] 3)).still (by rw [HJ.out]; exact hjJ) (by rw [HJ.out]; exact hl7) hm0.out).drew
                    clear HH hstep hgd hm0 hT2 hW2 c1 c2 c3 c4 hrc
                    go_wp2_with fail
                    go_region_law ((refine step_call67 (by rfl) (by rfl) _ _ _ _ _ (by rfl) _ _ _ _ (by rfl) (by rfl) (by rfl) (by rfl) (HR _) ?_; rintro e w3 ⟨rfl, rfl⟩; refine ⟨_, rfl, ?_⟩))
                    go_wp2_with (at_builtin; refine Lib.wpList_append_run _ rfl _ _ _ _ rfl _ _ rfl rfl _ _ hr7 ?_)
                    go_roundw
                    case rel => first | exact ⟨j + 1, by omega, by go_num, HH'⟩ | exact ⟨_, _, _, _, _, _, _, _, _, _, _, _, _, _, _, _, _, _, _, _, _, _, _, _, _, _, _, _, _, _, _, ⟨j + 1, by omega, by go_num, HH'⟩, rfl⟩
                    case measure => simp [intOf]; omega
                    all_goals ((first | refine ⟨⟨_, _, _, _, _, _, _, _, _, _, _, _, _, _, _, _, _, _, _, _, _, _, _, _, _, _, _, _, _, _, _, ⟨j + 1, by omega, by go_num, HH'⟩, rfl⟩, ?_⟩ | refine ⟨⟨j + 1, by omega, by go_num, HH'⟩, ?_⟩); simp [intOf]; omega)
                  · rw [hrc] at HR
                    have HM := (((HH.out.mark x').alloc f'.o).alloc (.cells #[.int .i64 (x' : Int)] 3)).drew
                    have hbk := (Blk.new ((wr.setCell ⟨tb, x', none⟩ (.bool true)).alloc f'.o) 3 [.int .i64 (x' : Int)]).drew
                    rw [World.size_alloc, World.size_setCell] at hbk
                    obtain ⟨v6', w6', hr6, hq6', hu6, ho6⟩ := run_push (HM.q6) (by have := hbase2.out; simp; omega) hbk 135 hW2.out
                    have HH' : Hid (Hl w tb l FB f g7 o7 c7 L (j + 1) ((L.take (j + 1)).foldl (stp how l f) (W, [], T1)) w6' v6' (.slice (some ⟨g7, o7, none⟩) s.2.1.length c7)) := by
                      rw [hstep.out]
                      unfold stp
                      rw [hgd.out, hrc]
                      exact HM.work hq6' hu6 ho6 htb
                    clear HH HM hbk hq6' hu6 ho6 hstep hgd hm0 hT2 hW2 c1 c2 c3 c4 hrc
                    go_wp2_with fail
                    go_region_law ((refine step_call67 (by rfl) (by rfl) _ _ _ _ _ (by rfl) _ _ _ _ (by rfl) (by rfl) (by rfl) (by rfl) (HR _) ?_; rintro e w3 ⟨rfl, rfl⟩; refine ⟨_, rfl, ?_⟩))
                    go_wp2_with (at_builtin; refine Lib.wpList_append_run _ rfl _ _ _ _ rfl _ _ rfl rfl _ _ hr6 ?_)
                    go_roundw
                    case rel => first | exact ⟨j + 1, by omega, by go_num, HH'⟩ | exact ⟨_, _, _, _, _, _, _, _, _, _, _, _, _, _, _, _, _, _, _, _, _, _, _, _, _, _, _, _, _, _, _, ⟨j + 1, by omega, by go_num, HH'⟩, rfl⟩
                    case measure => simp [intOf]; omega
                    all_goals ((first | refine ⟨⟨_, _, _, _, _, _, _, _, _, _, _, _, _, _, _, _, _, _, _, _, _, _, _, _, _, _, _, _, _, _, _, ⟨j + 1, by omega, by go_num, HH'⟩, rfl⟩, ?_⟩ | refine ⟨⟨j + 1, by omega, by go_num, HH'⟩, ?_⟩); simp [intOf]; omega)
                · obtain rfl : j = J := by omega
                  have HS3 : Hid (∃ q', Sp w tb how l R (hold1 how l f W L T1).1 (hold1 how l f W L T1).2.1 (hold1 how l f W L T1).2.2 q' wr u6 u10) := by
                    have hh := HH.out
                    rw [List.take_of_length_le (by rw [HJ.out]; exact Nat.le_refl _)] at hh
                    refine HP.out.next HF6.out (fb := FB) (g := g7) (o := o7) (cap := c7) ?_ (by rw [HJ.out]; exact hl7) hm7
                    rw [HJ.out]; exact hh
                  have HZ : Hid (lenV u6 + lenV u10 < 0 + 1 + j) := by
                    have hh := HH.out
                    have h1 := stp_len how l f L (W, [], T1)
                    rw [List.take_of_length_le (by rw [HJ.out]; exact Nat.le_refl _)] at hh
                    obtain ⟨a', c', e'⟩ := hh.q6.slice
                    have h2 := hh.v10
                    have h3 := HWn.out
                    have h4 := HJ.out
                    simp only [List.length_nil, Nat.add_zero] at h1
                    rw [e', h2]
                    simp only [lenV]
                    show _ < _; omega
                  clear HH
                  have hz : ¬ ((j : Int) < j) := by omega
                  go_wp2_with fail
                  go_roundw
                  case rel => obtain ⟨q', h⟩ := HS3.out; exact ⟨_, _, _, q', h⟩
                  case measure =>
                    have := HZ.out
                    simpa [lenV] using this
            ·
              have HS2 : Hid (Hl w tb l wr.heap.size f g7 o7 c7 L 0 (W, [], T1) (wr.alloc f.o) (.slice (some ⟨g6, o6 + 1, none⟩) M (p6 - 1)) (.slice (some ⟨g7, o7, none⟩) 0 c7)) := Hl.start HP.out (HQ2.out hp) rfl hb7 hk7 hs7 hi7 f
              clear HQ1 HQ2 HQ6 hb7 hk7 hs7 hi7
              obtain ⟨FB, hFB⟩ : ∃ FB, Hid (wr.heap.size = FB) := ⟨_, rfl⟩
              go_wp2_with fail
              go_loopw [6, 10, 46] (fun v6 v10 i w2 => ∃ j : Nat, j ≤ J ∧ i = .int .i64 j ∧ Hid (Hl w tb l FB f g7 o7 c7 L j ((L.take j).foldl (stp how l f) (W, [], T1)) w2 v6 v10)) (fun _ _ i _ => ((J : Int) - intOf i).toNat)
              case atStart => exact ⟨0, Nat.zero_le _, rfl, by rw [← hFB.out]; exact HS2.out⟩
              case round =>
                clear HS2
                obtain ⟨j, hj, rfl, HH⟩ := hrel
                rcases Nat.lt_or_ge j J with hjJ | hjJ
                · obtain ⟨x', hx'⟩ : ∃ x', L[j]? = some x' := ⟨_, List.getElem?_eq_getElem (by rw [HJ.out]; exact hjJ)⟩
                  have hlx : Hid (x' < l.length) := HP.out.ml x' (List.mem_of_getElem? hx')
                  have hlt : Hid (x' < T1.length) := by show _ < _; rw [HP.out.lt]; exact hlx.out
                  obtain ⟨f', hf'⟩ : ∃ f', l[x']? = some f' := ⟨_, List.getElem?_eq_getElem hlx.out⟩
                  have hlen := stp_len how l f (L.take j) (W, [], T1)
                  have hstep : Hid ((L.take (j + 1)).foldl (stp how l f) (W, [], T1) = stp how l f ((L.take j).foldl (stp how l f) (W, [], T1)) x') := by
                    show _ = _
                    rw [List.take_add_one, hx', List.foldl_append]; rfl
                  have hgd : Hid (l.getD x' default = f') := by show l.getD x' default = f'; rw [List.getD_eq_getElem?_getD, hf']; rfl
                  generalize (L.take j).foldl (stp how l f) (W, [], T1) = s at *
                  have hm0 : Hid (s.2.1.length ≤ j) := by
                    have := hlen.2.1
                    simp only [List.length_nil, Nat.zero_add, List.length_take] at this
                    show _ ≤ _; omega
                  have hT2 : Hid (x' < s.2.2.length) := by
                    have := hlen.2.2
                    show _ < _; rw [this]; exact hlt.out
                  have hW2 : Hid ((s.1.length + 1) * 8 ≤ 140737488355328) := by
                    have h1 := hlen.1
                    have h2 := HWn.out
                    have h3 := hMl.out
                    have h4 := HJ.out
                    simp only [List.length_nil, Nat.add_zero, List.length_take] at h1
                    show _ ≤ _; omega
                  obtain ⟨b0, hb0⟩ : ∃ b0, s.2.2[x']? = some b0 := ⟨_, List.getElem?_eq_getElem hT2.out⟩
                  have HT := HH.out.told
                  have ct := HT.cell1 x' _ (bls_get hb0)
                  have ctf := HT.frozen x'
                  have ctl := HT.lt
                  have cx := HH.out.look hx'
                  have cb2 := HH.out.box.cell1 2 _ rfl
                  have cb5 := HH.out.box.cell1 5 _ rfl
                  rw [← hFB.out] at cb2 cb5
                  obtain ⟨ga', oa', e', hat'⟩ := (rdf_hold H.out.1 HH.out.upd H.out.2.2.2).at_ hf'
                  cases e'
                  obtain ⟨y0, y1, y2, y3, y4, y5, y6, y7, y8, y9⟩ := hat'.f
                  have hxk' : (x' : Int) < (k : Int) := by have := hlx.out; rw [hN.out] at this; omega
                  have hjz : (j : Int) < (J : Int) := by omega
                  have HR := fun w => reaches_any how f' f.sm.u f.la.u w
                  obtain ⟨cur, c1, c2, c3, c4⟩ := HH.out.row
                  have hv10 := HH.out.v10
                  subst hv10
                  have hbase2 : Hid (w.heap.size ≤ wr.heap.size) := HH.out.upd.size
                  clear hx' hf' hb0 hat' HT hlen hlx hlt t0 t1 t2 t3 t4 t5 t6 t7 t8 t9 hx6
                  cases hrc : rchB how f' f.sm.u f.la.u
                  · rw [hrc] at HR
                    have hr7 := run_push_room (w := ((wr.alloc f'.o).alloc (.cells #[.int .i64 (x' : Int)] 3)).drew) (((c1.alloc f'.o).alloc (.cells #[.int .i64 (x' : Int)] 3)).drew) (n := s.2.1.length) (cap := c7) (by have := hm0.out; omega) c2 (Blk.new (wr.alloc f'.o) 3 [.int .i64 (x' : Int)]).drew 135
                    rw [World.size_alloc] at hr7
                    have HH' : Hid (Hl w tb l FB f g7 o7 c7 L (j + 1) ((L.take (j + 1)).foldl (stp how l f) (W, [], T1)) ((((wr.alloc f'.o).alloc (.cells #[.int .i64 (x' : Int)] 3)).setCell ⟨g7, o7 + s.2.1.length, none⟩ (.int .i64 (x' : Int))).drew) u6 (.slice (some ⟨g7, o7, none⟩) (s.2.1.length + 1) c7)) := by
                      rw [hstep.out]
                      unfold stp
                      rw [hgd.out, hrc]
                      exact (((HH.out.alloc f'.o).alloc (.cells #[.int .i64 (x' : Int)] 3)).still (by rw [HJ.out]; exact hjJ) (by rw [HJ.out]; exact hl7) hm0.out).drew
                    clear HH hstep hgd hm0 hT2 hW2 c1 c2 c3 c4 hrc
                    go_wp2_with fail
                    go_region_law ((refine step_call67 (by rfl) (by rfl) _ _ _ _ _ (by rfl) _ _ _ _ (by rfl) (by rfl) (by rfl) (by rfl) (HR _) ?_; rintro e w3 ⟨rfl, rfl⟩; refine ⟨_, rfl, ?_⟩))
                    go_wp2_with (at_builtin; refine Lib.wpList_append_run _ rfl _ _ _ _ rfl _ _ rfl rfl _ _ hr7 ?_)
                    go_roundw
                    case rel => first | exact ⟨j + 1, by omega, by go_num, HH'⟩ | exact ⟨_, _, _, _, _, _, _, _, _, _, _, _, _, _, _, _, _, _, _, _, _, _, _, _, _, _, _, _, _, _, _, ⟨j + 1, by omega, by go_num, HH'⟩, rfl⟩
                    case measure => simp [intOf]; omega
                    all_goals ((first | refine ⟨⟨_, _, _, _, _, _, _, _, _, _, _, _, _, _, _, _, _, _, _, _, _, _, _, _, _, _, _, _, _, _, _, ⟨j + 1, by omega, by go_num, HH'⟩, rfl⟩, ?_⟩ | refine ⟨⟨j + 1, by omega, by go_num, HH'⟩, ?_⟩); simp [intOf]; omega)
                  · rw [hrc] at HR
                    have HM := (((HH.out.mark x').alloc f'.o).alloc (.cells #[.int .i64 (x' : Int)] 3)).drew
                    have hbk := (Blk.new ((wr.setCell ⟨tb, x', none⟩ (.bool true)).alloc f'.o) 3 [.int .i64 (x' : Int)]).drew
                    rw [World.size_alloc, World.size_setCell] at hbk
                    obtain ⟨v6', w6', hr6, hq6', hu6, ho6⟩ := run_push (HM.q6) (by have := hbase2.out; simp; omega) hbk 135 hW2.out
                    have HH' : Hid (Hl w tb l FB f g7 o7 c7 L (j + 1) ((L.take (j + 1)).foldl (stp how l f) (W, [], T1)) w6' v6' (.slice (some ⟨g7, o7, none⟩) s.2.1.length c7)) := by
                      rw [hstep.out]
                      unfold stp
                      rw [hgd.out, hrc]
                      exact HM.work hq6' hu6 ho6 htb
                    clear HH HM hbk hq6' hu6 ho6 hstep hgd hm0 hT2 hW2 c1 c2 c3 c4 hrc
                    go_wp2_with fail
                    go_region_law ((refine step_call67 (by rfl) (by rfl) _ _ _ _ _ (by rfl) _ _ _ _ (by rfl) (by rfl) (by rfl) (by rfl) (HR _) ?_; rintro e w3 ⟨rfl, rfl⟩; refine ⟨_, rfl, ?_⟩))
                    go_wp2_with (at_builtin; refine Lib.wpList_append_run _ rfl _ _ _ _ rfl _ _ rfl rfl _ _ hr6 ?_)
                    go_roundw
                    case rel => first | exact ⟨j + 1, by omega, by go_num, HH'⟩ | exact ⟨_, _, _, _, _, _, _, _, _, _, _, _, _, _, _, _, _, _, _, _, _, _, _, _, _, _, _, _, _, _, _, ⟨j + 1, by omega, by go_num, HH'⟩, rfl⟩
                    case measure => simp [intOf]; omega
                    all_goals ((first | refine ⟨⟨_, _, _, _, _, _, _, _, _, _, _, _, _, _, _, _, _, _, _, _, _, _, _, _, _, _, _, _, _, _, _, ⟨j + 1, by omega, by go_num, HH'⟩, rfl⟩, ?_⟩ | refine ⟨⟨j + 1, by omega, by go_num, HH'⟩, ?_⟩); simp [intOf]; omega)
                · obtain rfl : j = J := by omega
                  have HS3 : Hid (∃ q', Sp w tb how l R (hold1 how l f W L T1).1 (hold1 how l f W L T1).2.1 (hold1 how l f W L T1).2.2 q' wr u6 u10) := by
                    have hh := HH.out
                    rw [List.take_of_length_le (by rw [HJ.out]; exact Nat.le_refl _)] at hh
                    refine HP.out.next HF6.out (fb := FB) (g := g7) (o := o7) (cap := c7) ?_ (by rw [HJ.out]; exact hl7) hm7
                    rw [HJ.out]; exact hh
                  have HZ : Hid (lenV u6 + lenV u10 < M + 1 + j) := by
                    have hh := HH.out
                    have h1 := stp_len how l f L (W, [], T1)
                    rw [List.take_of_length_le (by rw [HJ.out]; exact Nat.le_refl _)] at hh
                    obtain ⟨a', c', e'⟩ := hh.q6.slice
                    have h2 := hh.v10
                    have h3 := HWn.out
                    have h4 := HJ.out
                    simp only [List.length_nil, Nat.add_zero] at h1
                    rw [e', h2]
                    simp only [lenV]
                    show _ < _; omega
                  clear HH
                  have hz : ¬ ((j : Int) < j) := by omega
                  go_wp2_with fail
                  go_roundw
                  case rel => obtain ⟨q', h⟩ := HS3.out; exact ⟨_, _, _, q', h⟩
                  case measure =>
                    have := HZ.out
                    simpa [lenV] using this
end Go.Proofs.Ytkmpcheamdadcaa
