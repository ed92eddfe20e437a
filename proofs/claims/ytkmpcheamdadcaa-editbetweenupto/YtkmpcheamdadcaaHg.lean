/-
  The reference's Between f24.
-/
import Derived.Test.YtkmpcheamdadcaaHf
import Derived.Test.YtkmpcheamdadcaaHa
import Derived.Deep.DeepCutAuto
namespace Go.Proofs.Ytkmpcheamdadcaa
open Go.RowKit
set_option linter.unusedVariables false
set_option linter.unusedSimpArgs false
/-- A call of has, the reference's, at a step of a region. -/
theorem step_call62 {ops : Array Oper} {o : Oper} {a : Act} {w : World} {K : Act → World → Prop} {Q : Exit → Act → World → Prop} {Ex : Prop} (hgd : o.guard = none) (x y : Operand) (ts : Array TypeId)
    (ho : o.op = .call { callee := .value (.func 62), args := #[x, y], argTypes := ts }) (v u : Value) (hx : a.eval x = v) (hy : a.eval y = u) {R : Ending → World → Prop} (hc : Calls Try.prog 62 #[v, u] w R)
    (h : ∀ e w', R e w' → ∃ r, e = .returned r ∧ K (a.put o.dst r) w') :
    if Region.wanted o (yielded ops a.tmps) = true then Oper.wp Try.prog o a w K Q else Ex := by
  have hw : Region.wanted o (yielded ops a.tmps) = true := by simp [Region.wanted, hgd]
  rw [if_pos hw]
  have he := enters_of (P := Try.prog) Try.func62 (by kernel_rfl) rfl #[v, u]
  unfold Oper.wp execOp
  simp only [ho, resolve, invoke, Sem.run_bind, Sem.run_pure, Result.andThen_ok, List.map_toArray, List.map_cons, List.map_nil, hx, hy, go_sem]
  show Oper.upon Try.prog o a K Q (Sem.run Try.prog (callFunc 62 (#[] ++ #[a.eval x, a.eval y] ++ #[])) w)
  rw [show (#[] ++ #[a.eval x, a.eval y] ++ #[] : Array Value) = #[v, u] by simp [hx, hy], he, Oper.upon_enter]
  refine hc.mono ?_
  intro e w' hR
  obtain ⟨r, rfl, hk⟩ := h e w' hR
  exact hk
set_option maxRecDepth 100000 in
set_option maxHeartbeats 4000000 in
theorem rbetween_any {w : World} {V U : Vn} {L M : Nat → List Fi} (h : RdV w V L) (k : RdV w U M) (hL : ∀ i, i < 7 → (L i).length ≤ 1048576) (hM : ∀ i, i < 7 → (M i).length ≤ 1048576) :
    Calls Try.prog 24 #[.agg (verA V L), .agg (verA U M)] w fun en w' => (∃ P, en = .returned (.agg (edA P (betE L M))) ∧ OwnE w' (w.heap.size + 4) P (betE L M)) ∧ Below w.heap.size w w' := by
  have HV : Hid (RdV w V L ∧ RdV w U M) := ⟨h, k⟩
  have HS : Hid ((∀ i, i < 7 → (L i).length ≤ 1048576) ∧ ∀ i, i < 7 → (M i).length ≤ 1048576) := ⟨hL, hM⟩
  obtain ⟨W3, hW3⟩ : ∃ W3, W3 = ((w.alloc (.cells (verA V L) 41)).alloc (.cells (verA U M) 41)).alloc (.cells (edA ⟨none, 0, none, 0⟩ ed0) 27) := ⟨_, rfl⟩
  have HBx : Hid (∀ W, Below W3.heap.size W3 W → ∀ k, k < 7 → W.cell? ⟨w.heap.size, k, none⟩ = some (vsl V L k) ∧ W.cell? ⟨w.heap.size + 1, k, none⟩ = some (vsl U M k)) := fun W hb k hk => by
    rw [hW3] at hb
    have := verK (w := w.alloc (.cells (verA V L) 41)) (bstep (al1 _ _) hb) k hk
    rw [World.size_alloc] at this
    exact ⟨verK (bstep (al1 _ _) (bstep (al1 _ _) hb)) k hk, this⟩
  have HB1 : Hid (Below w.heap.size w W3) := by show Below _ _ _; rw [hW3]; exact bstep (bstep (al1 _ _) (al1 _ _)) (al1 _ _)
  have hs3 : W3.heap.size = w.heap.size + 3 := by rw [hW3]; simp
  have HR0 : Hid (Blk W3 (w.heap.size + 2) 27 (edA ⟨none, 0, none, 0⟩ ed0).toList) := by
    have := Blk.new ((w.alloc (.cells (verA V L) 41)).alloc (.cells (verA U M) 41)) 27 (edA ⟨none, 0, none, 0⟩ ed0).toList
    rw [World.size_alloc, World.size_alloc] at this
    show Blk _ _ _ _
    rw [hW3]; exact this
  have HE0 : Hid (∃ P, Bt (w.heap.size + 4) (W3.alloc (.cells (edA ⟨none, 0, none, 0⟩ ed0) 27)) (w.heap.size + 1 + 1 + 1) P { ed0 with gone := betG L M 0, added := betA L M 0 }) := by
    refine ⟨⟨none, 0, none, 0⟩, ?_, ⟨World.ownsRow_nil _ _ _ _, World.ownsRow_nil _ _ _ _⟩, by omega, by rw [World.size_alloc, hs3]; exact Nat.le_refl _⟩
    have := Blk.new W3 27 (edA ⟨none, 0, none, 0⟩ ed0).toList
    rw [hs3] at this
    exact this
  have HB4 : Hid (Below W3.heap.size W3 (W3.alloc (.cells (edA ⟨none, 0, none, 0⟩ ed0) 27))) := al1 _ _
  clear h k hL hM
  go_enter Try.func24, Try.ntmps24
  go_wp2
  generalize HW : World.alloc (World.alloc (World.alloc (World.alloc w _) _) _) (.cells _ 27) = W4
  have HW' : W4 = W3.alloc (.cells (edA ⟨none, 0, none, 0⟩ ed0) 27) := by rw [← HW, hW3]; rfl
  rw [← HW'] at HE0 HB4
  clear HW HW' hW3
  go_loopw [6] (fun i wr => ∃ k : Nat, k ≤ 7 ∧ i = .int .i64 k ∧ Hid (∃ P, Bt (w.heap.size + 4) wr (w.heap.size + 1 + 1 + 1) P { ed0 with gone := betG L M k, added := betA L M k }) ∧ Hid (Below W3.heap.size W3 wr)) (fun i _ => (7 - intOf i).toNat)
  case atStart => exact ⟨0, by decide, rfl, HE0.out, HB4.out⟩
  case round =>
    clear HE0 HB4
    obtain ⟨k, hk, rfl, HE, HB⟩ := hrel
    have HBw : Hid (Below w.heap.size w wr) := bstep HB1.out HB.out
    rcases Nat.lt_or_ge k 7 with hk7 | hk7
    · have hkz : (k : Int) < 7 := by omega
      have HN1 : Hid ((betG L M k).length ≤ 6 * 1048576 ∧ (betA L M k).length ≤ 6 * 1048576) :=
        ⟨Nat.le_trans (betG_len HS.out.1 k (by omega)) (by omega), Nat.le_trans (betA_len HS.out.2 k (by omega)) (by omega)⟩
      have HRk : Hid (RdF w (V.a k) (L k) ∧ RdF w (U.a k) (M k)) := ⟨HV.out.1.rd k hk7, HV.out.2.rd k hk7⟩
      have hl1 := HS.out.1 k hk7
      have hl2 := HS.out.2 k hk7
      have HBk : Hid (∀ W, Below W3.heap.size W3 W → W.cell? ⟨w.heap.size, k, none⟩ = some (.slice (V.a k) (L k).length (V.c k)) ∧ W.cell? ⟨w.heap.size + 1, k, none⟩ = some (.slice (U.a k) (M k).length (U.c k))) := fun W hb => HBx.out W hb k hk7
      have HG0 : Hid (betG L M (k + 1) = betG L M k ++ (misB (L k) (M k)).map (fun f => ⟨k, f.num⟩) ∧ betA L M (k + 1) = betA L M k ++ (misB (M k) (L k)).map (fun f => ⟨k, f⟩)) := ⟨rfl, rfl⟩
      obtain ⟨G1, A1, HX1⟩ : ∃ G1 A1, Hid (betG L M (k + 1) = G1 ∧ betA L M (k + 1) = A1) := ⟨_, _, rfl, rfl⟩
      rw [HX1.out.1, HX1.out.2] at HG0
      generalize betG L M k = G0 at *
      generalize betA L M k = A0 at *
      generalize L k = l at *
      generalize M k = m at *
      generalize V.a k = a at *
      generalize V.c k = ca at *
      generalize U.a k = b at *
      generalize U.c k = cb at *
      obtain ⟨N, hN⟩ : ∃ N, Hid (l.length = N) := ⟨_, rfl⟩
      obtain ⟨T, hT⟩ : ∃ T, Hid (m.length = T) := ⟨_, rfl⟩
      rw [hN.out] at hl1 HBk
      rw [hT.out] at hl2 HBk
      have hNz : (N : Int) ≤ 1048576 := by omega
      have hTz : (T : Int) ≤ 1048576 := by omega
      obtain ⟨W5, rfl⟩ : ∃ W5, W5 = wr := ⟨_, rfl⟩
      have HE2 : Hid (∃ P, Bt (w.heap.size + 4) W5 (w.heap.size + 1 + 1 + 1) P { ed0 with gone := G0 ++ (misB (l.take 0) m).map (fun f => ⟨k, f.num⟩), added := A0 }) := by
        obtain ⟨P, hP⟩ := HE.out
        exact ⟨P, by simpa [misB] using hP⟩
      go_wp2
      go_loopw [7] (fun i wr => ∃ j : Nat, j ≤ N ∧ i = .int .i64 j ∧ Hid (∃ P, Bt (w.heap.size + 4) wr (w.heap.size + 1 + 1 + 1) P { ed0 with gone := G0 ++ (misB (l.take j) m).map (fun f => ⟨k, f.num⟩), added := A0 }) ∧ Hid (Below W3.heap.size W3 wr)) (fun i _ => ((N : Int) - intOf i).toNat)
      case atStart => exact ⟨0, Nat.zero_le _, rfl, HE2.out, HB.out⟩
      case round =>
        clear HE2 HB HE HBw
        obtain ⟨j, hj, rfl, HE, HB⟩ := hrel
        have HBw : Hid (Below w.heap.size w wr) := bstep HB1.out HB.out
        obtain ⟨cx, cy⟩ := HBk.out wr HB.out
        have lx := cell_lt cx
        have ly := cell_lt cy
        rcases Nat.lt_or_ge j N with hjN | hjN
        · have hjz : (j : Int) < (N : Int) := by omega
          obtain ⟨g, hg⟩ : ∃ g, l[j]? = some g := ⟨_, List.getElem?_eq_getElem (by rw [hN.out]; exact hjN)⟩
          obtain ⟨ga, oa, e1, hat1⟩ := (HRk.out.1.below HBw.out).at_ hg
          obtain ⟨y0, y1, y2, y3, y4, y5, y6, y7, y8, y9⟩ := hat1.f
          rw [e1] at cx
          have HS1 : Hid (l.take (j + 1) = l.take j ++ [g]) := take_snoc' hg
          have HH := rhas_any (w := (wr.alloc g.o).drew) (cap := cb) ((HRk.out.2.below (bstep HBw.out (al1 wr g.o))).below (Below.refl _ _).drew) (by rw [hT.out]; omega) g
          rw [hT.out] at HH
          have HH' : Calls Try.prog 62 #[.slice b T cb, .agg #[.int .u64 g.num, .int .u64 g.size, .string g.sm.u, .int .u64 g.sm.s, .int .i64 g.sm.k, .string g.la.u, .int .u64 g.la.s, .int .i64 g.la.k, .int .u64 g.ents, .int .u64 g.rngs]] (wr.alloc g.o).drew fun e w' => e = .returned (.bool (hasB m g)) ∧ Below (wr.alloc g.o).drew.heap.size (wr.alloc g.o).drew w' := HH
          obtain ⟨q, hq⟩ : ∃ q, Hid (hasB m g = q) := ⟨_, rfl⟩
          rw [hq.out] at HH'
          go_wp2
          go_cut [38] (fun v wd => ∃ w2, w2 = wd ∧ v = .bool (!q) ∧ Hid (Below (wr.alloc g.o).heap.size (wr.alloc g.o) w2))
          case first =>
            go_region_law (first
              | (refine step_call62 (by rfl) _ _ _ (by rfl) _ _ (by rfl) (by rfl) HH' ?_
                 rintro e w2 ⟨rfl, hb⟩
                 refine ⟨_, rfl, ?_⟩
                 have HB2 : Hid (Below (wr.alloc g.o).heap.size (wr.alloc g.o) w2) := bstep (Below.refl _ _).drew hb))
            all_goals
              go_wp2
              go_meet
              exact ⟨_, rfl, rfl, HB2⟩
          case rest =>
          obtain ⟨w2, rfl, rfl, HB2⟩ := hcut
          have hb2 : Below wr.heap.size wr w2 := bstep (al1 wr g.o) HB2.out
          obtain ⟨P, hP⟩ := HE.out
          have hP2 := hP.below hb2
          have HBn : Hid (Below W3.heap.size W3 w2) := bstep HB.out hb2
          cases q
          · obtain ⟨G, hG⟩ : ∃ G, Hid (G0 ++ (misB (l.take j) m).map (fun f => (⟨k, f.num⟩ : Gn)) = G) := ⟨_, rfl⟩
            have HG1 : Hid (G0 ++ (misB (l.take (j + 1)) m).map (fun f => (⟨k, f.num⟩ : Gn)) = G ++ [⟨k, g.num⟩]) := by show _ = _; rw [HS1.out, misB_snoc_yes hq.out, List.map_append, ← List.append_assoc, hG.out]; rfl
            have hGl : G.length ≤ 8388608 := by
              have := HN1.out
              have h2 := misB_len (l.take j) m
              rw [List.length_take] at h2
              rw [← hG.out, List.length_append, List.length_map]
              omega
            rw [hG.out] at hP2
            obtain ⟨n7, hn7⟩ : ∃ n7, Hid (G.length = n7) := ⟨_, rfl⟩
            have hn7z : n7 ≤ 8388608 := by rw [← hn7.out]; exact hGl
            have X := Blk.new w2 66 (Gn.c ⟨k, g.num⟩)
            have b2 : Below w2.heap.size w2 (w2.alloc (.cells #[.int .i64 k, .int .u64 g.num] 66)) := al1 _ _
            obtain ⟨a3, c3, w7, hr7, hp7⟩ := (hP2.below b2).addGone X hGl 24
            have q0 : w2.cell? ⟨w.heap.size + 1 + 1 + 1, 11, none⟩ = some (.slice P.ga n7 P.gc) := by rw [← hn7.out]; exact hP2.b.cell1 11 _ rfl
            have l0 := hP2.b.lt
            have hBg : Blk w2 wr.heap.size 50 g.c := (HB2.out.block _ (by simp)).trans (Blk.new wr 50 g.c)
            have g0 := hBg.cell1 0 _ rfl
            have lg := hBg.lt
            have hr8 : (Builtin.append_ #[24, 24] 24 #[.slice P.ga n7 P.gc, .slice (some ⟨w2.heap.size, 0, none⟩) 1 1]).run Try.prog (w2.alloc (.cells #[.int .i64 k, .int .u64 g.num] 66)) = .ok (.slice a3 (n7 + 1) c3) w7 := by rw [← hn7.out]; exact hr7
            have e7 : ({ ed0 with gone := G, added := A0 } : Ed).gone.length = n7 := hn7.out
            rw [e7] at hp7
            obtain ⟨q7, hq7⟩ := hp7.c
            have z7 := hp7.z
            have l7 := hp7.lt
            have HE' : Hid (∃ P, Bt (w.heap.size + 4) (w7.setCell ⟨w.heap.size + 1 + 1 + 1, 11, none⟩ (.slice a3 (n7 + 1) c3)) (w.heap.size + 1 + 1 + 1) P { ed0 with gone := G0 ++ (misB (l.take (j + 1)) m).map (fun f => ⟨k, f.num⟩), added := A0 }) := by
              rw [HG1.out]; exact ⟨_, hp7.t⟩
            have HB' : Hid (Below W3.heap.size W3 (w7.setCell ⟨w.heap.size + 1 + 1 + 1, 11, none⟩ (.slice a3 (n7 + 1) c3))) := hp7.g W3 (bstep HBn.out b2) (by rw [hs3]; exact Nat.le_refl _)
            clear HE HB hP hP2 hp7 hr7 X HG1 hG hg hat1 b2 hGl e7 HS1 HH HH' HBn HB2 hb2 hBg hq cx cy lx ly HBw
            go_wp2_with (at_builtin; refine wpList_appt rfl _ _ rfl rfl rfl hr8 ?_)
            go_roundw
            case rel => exact ⟨j + 1, by omega, by go_num, HE', HB'⟩
            case measure => simp [intOf]; omega
          · have HE' : Hid (∃ P, Bt (w.heap.size + 4) w2 (w.heap.size + 1 + 1 + 1) P { ed0 with gone := G0 ++ (misB (l.take (j + 1)) m).map (fun f => ⟨k, f.num⟩), added := A0 }) := by
              show ∃ P, _
              rw [HS1.out, misB_snoc_no hq.out]
              exact ⟨P, hP2⟩
            clear HE HB hP hP2 hg hat1 HS1 HH HH' HB2 hb2 hq cx cy lx ly HBw
            go_wp2
            go_roundw
            case rel => exact ⟨j + 1, by omega, by go_num, HE', HBn⟩
            case measure => simp [intOf]; omega
        · obtain rfl : j = N := by omega
          have hz : ¬ ((j : Int) < j) := by omega
          have HE5 : Hid (∃ P, Bt (w.heap.size + 4) wr (w.heap.size + 1 + 1 + 1) P { ed0 with gone := G1, added := A0 ++ (misB (m.take 0) l).map (fun f => ⟨k, f⟩) }) := by
            have := HE.out
            rw [List.take_of_length_le (by rw [hN.out]; exact Nat.le_refl _), ← HG0.out.1] at this
            show ∃ P, _
            simpa [misB] using this
          clear HE
          obtain ⟨W6, rfl⟩ : ∃ W6, W6 = wr := ⟨_, rfl⟩
          go_wp2
          clear cx cy lx ly HBw hj
          go_loopw [9] (fun i wr => ∃ i' : Nat, i' ≤ T ∧ i = .int .i64 i' ∧ Hid (∃ P, Bt (w.heap.size + 4) wr (w.heap.size + 1 + 1 + 1) P { ed0 with gone := G1, added := A0 ++ (misB (m.take i') l).map (fun f => ⟨k, f⟩) }) ∧ Hid (Below W3.heap.size W3 wr)) (fun i _ => ((T : Int) - intOf i).toNat)
          case atStart => exact ⟨0, Nat.zero_le _, rfl, HE5.out, HB.out⟩
          case round =>
            clear HE5 HB
            obtain ⟨i, hi, rfl, HE, HB⟩ := hrel
            have HBw : Hid (Below w.heap.size w wr) := bstep HB1.out HB.out
            obtain ⟨cx, cy⟩ := HBk.out wr HB.out
            have lx := cell_lt cx
            have ly := cell_lt cy
            rcases Nat.lt_or_ge i T with hiT | hiT
            · have hiz : (i : Int) < (T : Int) := by omega
              obtain ⟨g, hg⟩ : ∃ g, m[i]? = some g := ⟨_, List.getElem?_eq_getElem (by rw [hT.out]; exact hiT)⟩
              obtain ⟨ga, oa, e1, hat1⟩ := (HRk.out.2.below HBw.out).at_ hg
              obtain ⟨y0, y1, y2, y3, y4, y5, y6, y7, y8, y9⟩ := hat1.f
              rw [e1] at cy
              have HS1 : Hid (m.take (i + 1) = m.take i ++ [g]) := take_snoc' hg
              have HH := rhas_any (w := (wr.alloc g.o).drew) (cap := ca) ((HRk.out.1.below (bstep HBw.out (al1 wr g.o))).below (Below.refl _ _).drew) (by rw [hN.out]; omega) g
              rw [hN.out] at HH
              have HH' : Calls Try.prog 62 #[.slice a j ca, .agg #[.int .u64 g.num, .int .u64 g.size, .string g.sm.u, .int .u64 g.sm.s, .int .i64 g.sm.k, .string g.la.u, .int .u64 g.la.s, .int .i64 g.la.k, .int .u64 g.ents, .int .u64 g.rngs]] (wr.alloc g.o).drew fun e w' => e = .returned (.bool (hasB l g)) ∧ Below (wr.alloc g.o).drew.heap.size (wr.alloc g.o).drew w' := HH
              obtain ⟨q, hq⟩ : ∃ q, Hid (hasB l g = q) := ⟨_, rfl⟩
              rw [hq.out] at HH'
              go_wp2
              go_cut [70] (fun v wd => ∃ w2, w2 = wd ∧ v = .bool (!q) ∧ Hid (Below (wr.alloc g.o).heap.size (wr.alloc g.o) w2))
              case first =>
                go_region_law (first
                  | (refine step_call62 (by rfl) _ _ _ (by rfl) _ _ (by rfl) (by rfl) HH' ?_
                     rintro e w2 ⟨rfl, hb⟩
                     refine ⟨_, rfl, ?_⟩
                     have HB2 : Hid (Below (wr.alloc g.o).heap.size (wr.alloc g.o) w2) := bstep (Below.refl _ _).drew hb))
                all_goals
                  go_wp2
                  go_meet
                  exact ⟨_, rfl, rfl, HB2⟩
              case rest =>
              obtain ⟨w2, rfl, rfl, HB2⟩ := hcut
              have hb2 : Below wr.heap.size wr w2 := bstep (al1 wr g.o) HB2.out
              obtain ⟨P, hP⟩ := HE.out
              have hP2 := hP.below hb2
              have HBn : Hid (Below W3.heap.size W3 w2) := bstep HB.out hb2
              cases q
              · obtain ⟨G, hG⟩ : ∃ G, Hid (A0 ++ (misB (m.take i) l).map (fun f => (⟨k, f⟩ : Ad)) = G) := ⟨_, rfl⟩
                have HG1 : Hid (A0 ++ (misB (m.take (i + 1)) l).map (fun f => (⟨k, f⟩ : Ad)) = G ++ [⟨k, g⟩]) := by show _ = _; rw [HS1.out, misB_snoc_yes hq.out, List.map_append, ← List.append_assoc, hG.out]; rfl
                have hGl : G.length ≤ 8388608 := by
                  have := HN1.out
                  have h2 := misB_len (m.take i) l
                  rw [List.length_take] at h2
                  rw [← hG.out, List.length_append, List.length_map]
                  omega
                rw [hG.out] at hP2
                obtain ⟨n7, hn7⟩ : ∃ n7, Hid (G.length = n7) := ⟨_, rfl⟩
                have hn7z : n7 ≤ 8388608 := by rw [← hn7.out]; exact hGl
                have X := Blk.new w2 64 (Ad.c ⟨k, g⟩)
                have b2 : Below w2.heap.size w2 (w2.alloc (Ad.o ⟨k, g⟩)) := al1 _ _
                obtain ⟨a3, c3, w7, hr7, hp7⟩ := (hP2.below b2).addAdded X hGl 25
                have q0 : w2.cell? ⟨w.heap.size + 1 + 1 + 1, 12, none⟩ = some (.slice P.aa n7 P.ac) := by rw [← hn7.out]; exact hP2.b.cell1 12 _ rfl
                have l0 := hP2.b.lt
                have hBg : Blk w2 wr.heap.size 50 g.c := (HB2.out.block _ (by simp)).trans (Blk.new wr 50 g.c)
                have g0 := hBg.cell1 0 _ rfl
                have g1 := hBg.cell1 1 _ rfl
                have g2 := hBg.cell1 2 _ rfl
                have g3 := hBg.cell1 3 _ rfl
                have g4 := hBg.cell1 4 _ rfl
                have g5 := hBg.cell1 5 _ rfl
                have g6 := hBg.cell1 6 _ rfl
                have g7 := hBg.cell1 7 _ rfl
                have g8 := hBg.cell1 8 _ rfl
                have g9 := hBg.cell1 9 _ rfl
                have lg := hBg.lt
                have hr8 : (Builtin.append_ #[25, 25] 25 #[.slice P.aa n7 P.ac, .slice (some ⟨w2.heap.size, 0, none⟩) 1 1]).run Try.prog (w2.alloc (Ad.o ⟨k, g⟩)) = .ok (.slice a3 (n7 + 1) c3) w7 := by rw [← hn7.out]; exact hr7
                have e7 : ({ ed0 with gone := G1, added := G } : Ed).added.length = n7 := hn7.out
                rw [e7] at hp7
                obtain ⟨q7, hq7⟩ := hp7.c
                have z7 := hp7.z
                have l7 := hp7.lt
                have HE' : Hid (∃ P, Bt (w.heap.size + 4) (w7.setCell ⟨w.heap.size + 1 + 1 + 1, 12, none⟩ (.slice a3 (n7 + 1) c3)) (w.heap.size + 1 + 1 + 1) P { ed0 with gone := G1, added := A0 ++ (misB (m.take (i + 1)) l).map (fun f => ⟨k, f⟩) }) := by
                  rw [HG1.out]; exact ⟨_, hp7.t⟩
                have HB' : Hid (Below W3.heap.size W3 (w7.setCell ⟨w.heap.size + 1 + 1 + 1, 12, none⟩ (.slice a3 (n7 + 1) c3))) := hp7.g W3 (bstep HBn.out b2) (by rw [hs3]; exact Nat.le_refl _)
                clear HE HB hP hP2 hp7 hr7 X HG1 hG hg hat1 b2 hGl e7 HS1 HH HH' HBn HB2 hb2 hBg hq cx cy lx ly HBw
                go_wp2_with (at_builtin; refine wpList_appt rfl _ _ rfl rfl rfl hr8 ?_)
                go_roundw
                case rel => exact ⟨i + 1, by omega, by go_num, HE', HB'⟩
                case measure => simp [intOf]; omega
              · have HE' : Hid (∃ P, Bt (w.heap.size + 4) w2 (w.heap.size + 1 + 1 + 1) P { ed0 with gone := G1, added := A0 ++ (misB (m.take (i + 1)) l).map (fun f => ⟨k, f⟩) }) := by
                  show ∃ P, _
                  rw [HS1.out, misB_snoc_no hq.out]
                  exact ⟨P, hP2⟩
                clear HE HB hP hP2 hg hat1 HS1 HH HH' HB2 hb2 hq cx cy lx ly HBw
                go_wp2
                go_roundw
                case rel => exact ⟨i + 1, by omega, by go_num, HE', HBn⟩
                case measure => simp [intOf]; omega
            · obtain rfl : i = T := by omega
              have hz2 : ¬ ((i : Int) < i) := by omega
              have HE5 : Hid (∃ P, Bt (w.heap.size + 4) wr (w.heap.size + 1 + 1 + 1) P { ed0 with gone := G1, added := A1 }) := by
                have := HE.out
                rw [List.take_of_length_le (by rw [hT.out]; exact Nat.le_refl _), ← HG0.out.2] at this
                exact this
              have HF : Hid (∃ P, Bt (w.heap.size + 4) wr (w.heap.size + 1 + 1 + 1) P { ed0 with gone := betG L M (k + 1), added := betA L M (k + 1) }) := by
                rw [HX1.out.1, HX1.out.2]
                exact HE5.out
              clear HE HE5
              go_wp2
              go_roundw
              case rel => exact ⟨k + 1, by omega, by go_num, HF, HB⟩
              case measure => simp [intOf]; omega
    · obtain rfl : k = 7 := by omega
      have hz : ¬ ((7 : Int) < 7) := by decide
      obtain ⟨P, hP⟩ := HE.out
      have hP' : Bt (w.heap.size + 4) wr (w.heap.size + 1 + 1 + 1) P (betE L M) := hP
      have HP : Hid (OwnE wr (w.heap.size + 4) P (betE L M) ∧ Below w.heap.size w wr) := ⟨hP'.o, HBw.out⟩
      obtain ⟨e, he⟩ : ∃ e, Hid (betE L M = e) := ⟨_, rfl⟩
      rw [he.out] at hP' HP
      have R6 : Blk wr (w.heap.size + 1 + 1) 27 (edA ⟨none, 0, none, 0⟩ ed0).toList := (HB.out.block _ (by rw [hs3]; omega)).trans HR0.out
      obtain ⟨b0, b1, b2, b3, b4, b5, b6, b7, b8, b9, b10, b11, b12, l6⟩ := ed13 hP'.b
      obtain ⟨r0, r1, r2, r3, r4, r5, r6, r7, r8, r9, r10, r11, r12, m6⟩ := ed13 R6
      have f0 := R6.frozen 0
      have f1 := R6.frozen 1
      have f2 := R6.frozen 2
      have f3 := R6.frozen 3
      have f4 := R6.frozen 4
      have f5 := R6.frozen 5
      have f6 := R6.frozen 6
      have f7 := R6.frozen 7
      have f8 := R6.frozen 8
      have f9 := R6.frozen 9
      have f10 := R6.frozen 10
      have f11 := R6.frozen 11
      have f12 := R6.frozen 12
      clear HE hP hP' HBw HB R6 HR0 HBx HB1 HV HS
      go_wp2
      refine bodyPost_ret (v := .agg (edA P e)) (by simp [results, Try.results24, go_sem, *]) rfl ?_
      rw [he.out]
      have U := upd13 wr (w.heap.size + 1 + 1) (.int .u32 e.fam) (.bool e.ma) (.bool e.dr) (.string e.name) (.int .i64 e.how) (.bool e.hl) (.bool e.hn) (.bool e.hs) (.int .u64 e.log) (.int .u64 e.next) (.int .u64 e.seq) (.slice P.ga e.gone.length P.gc) (.slice P.aa e.added.length P.ac)
      obtain ⟨⟨hg, ha⟩, hb⟩ := HP.out
      refine ⟨⟨P, rfl, ⟨?_, ?_⟩⟩, Upd.bel hb U (fun j hj => by omega) hb.size⟩
      · exact row_upd hg U (fun k hk e => by have := (row_blk hg k hk).1; omega)
      · exact row_upd ha U (fun k hk e => by have := (row_blk ha k hk).1; omega)
end Go.Proofs.Ytkmpcheamdadcaa
