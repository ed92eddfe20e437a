/-
  Between f23: what is gone and what is added, level by level.
-/
import Derived.Test.YtkmpcheamdadcaaHe
import Derived.Deep.DeepCutAuto
namespace Go.Proofs.Ytkmpcheamdadcaa
open Go.RowKit
set_option linter.unusedVariables false
set_option linter.unusedSimpArgs false
/-- A call of missing at a step of a region. -/
theorem step_call61 {ops : Array Oper} {o : Oper} {a : Act} {w : World} {K : Act → World → Prop} {Q : Exit → Act → World → Prop} {Ex : Prop} (hgd : o.guard = none) (x y : Operand) (ts : Array TypeId)
    (ho : o.op = .call { callee := .value (.func 61), args := #[x, y], argTypes := ts }) (v u : Value) (hx : a.eval x = v) (hy : a.eval y = u) {R : Ending → World → Prop} (hc : Calls Try.prog 61 #[v, u] w R)
    (h : ∀ e w', R e w' → ∃ r, e = .returned r ∧ K (a.put o.dst r) w') :
    if Region.wanted o (yielded ops a.tmps) = true then Oper.wp Try.prog o a w K Q else Ex := by
  have hw : Region.wanted o (yielded ops a.tmps) = true := by simp [Region.wanted, hgd]
  rw [if_pos hw]
  have he := enters_of (P := Try.prog) Try.func61 (by kernel_rfl) rfl #[v, u]
  unfold Oper.wp execOp
  simp only [ho, resolve, invoke, Sem.run_bind, Sem.run_pure, Result.andThen_ok, List.map_toArray, List.map_cons, List.map_nil, hx, hy, go_sem]
  show Oper.upon Try.prog o a K Q (Sem.run Try.prog (callFunc 61 (#[] ++ #[a.eval x, a.eval y] ++ #[])) w)
  rw [show (#[] ++ #[a.eval x, a.eval y] ++ #[] : Array Value) = #[v, u] by simp [hx, hy], he, Oper.upon_enter]
  refine hc.mono ?_
  intro e w' hR
  obtain ⟨r, rfl, hk⟩ := h e w' hR
  exact hk
set_option maxRecDepth 100000 in
set_option maxHeartbeats 4000000 in
theorem between_any {w : World} {V U : Vn} {L M : Nat → List Fi} (h : RdV w V L) (k : RdV w U M) (hL : ∀ i, i < 7 → (L i).length ≤ 1048576) (hM : ∀ i, i < 7 → (M i).length ≤ 1048576) (kL : ∀ i, i < 7 → ∀ f ∈ L i, FKy f) (kM : ∀ i, i < 7 → ∀ f ∈ M i, FKy f) :
    Calls Try.prog 23 #[.agg (verA V L), .agg (verA U M)] w fun en w' => (∃ P, en = .returned (.agg (edA P (betE L M))) ∧ OwnE w' (w.heap.size + 4) P (betE L M)) ∧ Below w.heap.size w w' := by
  have HV : Hid (RdV w V L ∧ RdV w U M) := ⟨h, k⟩
  have HS : Hid ((∀ i, i < 7 → (L i).length ≤ 1048576) ∧ ∀ i, i < 7 → (M i).length ≤ 1048576) := ⟨hL, hM⟩
  have HK : Hid ((∀ i, i < 7 → ∀ f ∈ L i, FKy f) ∧ ∀ i, i < 7 → ∀ f ∈ M i, FKy f) := ⟨kL, kM⟩
  obtain ⟨W3, hW3⟩ : ∃ W3, W3 = ((w.alloc (.cells (verA V L) 41)).alloc (.cells (verA U M) 41)).alloc (.cells (edA ⟨none, 0, none, 0⟩ ed0) 27) := ⟨_, rfl⟩
  have HBx : Hid (∀ W, Below W3.heap.size W3 W → ∀ k, k < 7 → W.cell? ⟨w.heap.size, k, none⟩ = some (vsl V L k) ∧ W.cell? ⟨w.heap.size + 1, k, none⟩ = some (vsl U M k)) := fun W hb k hk => by
    rw [hW3] at hb
    have := verK (w := w.alloc (.cells (verA V L) 41)) (bstep (al1 _ _) hb) k hk
    rw [World.size_alloc] at this
    exact ⟨verK (bstep (al1 _ _) (bstep (al1 _ _) hb)) k hk, this⟩
  have HB1 : Hid (Below w.heap.size w W3) := by show Below _ _ _; rw [hW3]; exact bstep (bstep (al1 _ _) (al1 _ _)) (al1 _ _)
  have hs3 : W3.heap.size = w.heap.size + 3 := by rw [hW3]; simp
  have HR0 : Hid (Blk W3 (w.heap.size + 2) 27 (edA ⟨none, 0, none, 0⟩ ed0).toList) := by
    have := Blk.new ((w.alloc (.cells (verA V L) 41)).alloc (.cells (verA U M) 41)) 27 (edA ⟨none, 0, none, 0⟩ ed0).toList
    rw [World.size_alloc, World.size_alloc] at this
    show Blk _ _ _ _
    rw [hW3]; exact this
  have HE0 : Hid (∃ P, Bt (w.heap.size + 4) (W3.alloc (.cells (edA ⟨none, 0, none, 0⟩ ed0) 27)) (w.heap.size + 1 + 1 + 1) P { ed0 with gone := betG L M 0, added := betA L M 0 }) := by
    refine ⟨⟨none, 0, none, 0⟩, ?_, ⟨World.ownsRow_nil _ _ _ _, World.ownsRow_nil _ _ _ _⟩, by omega, by rw [World.size_alloc, hs3]; exact Nat.le_refl _⟩
    have := Blk.new W3 27 (edA ⟨none, 0, none, 0⟩ ed0).toList
    rw [hs3] at this
    exact this
  have HB4 : Hid (Below W3.heap.size W3 (W3.alloc (.cells (edA ⟨none, 0, none, 0⟩ ed0) 27))) := al1 _ _
  clear h k hL hM kL kM
  go_enter Try.func23, Try.ntmps23
  go_wp2
  generalize HW : World.alloc (World.alloc (World.alloc (World.alloc w _) _) _) (.cells _ 27) = W4
  have HW' : W4 = W3.alloc (.cells (edA ⟨none, 0, none, 0⟩ ed0) 27) := by rw [← HW, hW3]; rfl
  rw [← HW'] at HE0 HB4
  clear HW HW' hW3
  go_loopw [11] (fun i wr => ∃ k : Nat, k ≤ 7 ∧ i = .int .i64 k ∧ Hid (∃ P, Bt (w.heap.size + 4) wr (w.heap.size + 1 + 1 + 1) P { ed0 with gone := betG L M k, added := betA L M k }) ∧ Hid (Below W3.heap.size W3 wr)) (fun i _ => (7 - intOf i).toNat)
  case atStart => exact ⟨0, by decide, rfl, HE0.out, HB4.out⟩
  case round =>
    clear HE0 HB4
    obtain ⟨k, hk, rfl, HE, HB⟩ := hrel
    have HBw : Hid (Below w.heap.size w wr) := bstep HB1.out HB.out
    rcases Nat.lt_or_ge k 7 with hk7 | hk7
    · have hkz : (k : Int) < 7 := by omega
      obtain ⟨cx, cy⟩ := HBx.out wr HB.out k hk7
      unfold vsl at cx cy
      have lx := cell_lt cx
      have ly := cell_lt cy
      have S1 : Calls Try.prog 61 #[.slice (V.a k) (L k).length (V.c k), .slice (U.a k) (M k).length (U.c k)] wr.drew fun e w' => (∃ v, e = .returned v ∧ RowF w' (wr.drew.heap.size + 1) v (misB (L k) (M k))) ∧ Below wr.drew.heap.size wr.drew w' :=
        missing_any ((HV.out.1.rd k hk7).below HBw.out.drew) ((HV.out.2.rd k hk7).below HBw.out.drew) (HV.out.1.len k hk7) (HV.out.2.len k hk7) (HK.out.1 k hk7) (HK.out.2 k hk7)
      have HN1 : Hid ((misB (L k) (M k)).length ≤ 1048576 ∧ (betG L M k).length ≤ 6 * 1048576 ∧ (betA L M k).length ≤ 6 * 1048576) :=
        ⟨Nat.le_trans (misB_len _ _) (HS.out.1 k hk7), Nat.le_trans (betG_len HS.out.1 k (by omega)) (by omega), Nat.le_trans (betA_len HS.out.2 k (by omega)) (by omega)⟩
      obtain ⟨W5, rfl⟩ : ∃ W5, W5 = wr := ⟨_, rfl⟩
      obtain ⟨u, hu⟩ : ∃ u, Hid (misB (L k) (M k) = u) := ⟨_, rfl⟩
      obtain ⟨N, hN⟩ : ∃ N, Hid (u.length = N) := ⟨_, rfl⟩
      have hs5 : w.heap.size + 4 ≤ W5.drew.heap.size + 1 := by
        obtain ⟨P, hP⟩ := HE.out
        have := hP.m.2
        show _ ≤ W5.heap.size + 1
        omega
      have HN2 : Hid (N ≤ 1048576 ∧ (betG L M k).length ≤ 6 * 1048576 ∧ (betA L M k).length ≤ 6 * 1048576) := by have := HN1.out; rw [hu.out, hN.out] at this; exact this
      have hNz : (N : Int) ≤ 1048576 := by have := HN2.out.1; omega
      have HEd : Hid (∃ P, Bt (w.heap.size + 4) W5.drew (w.heap.size + 1 + 1 + 1) P { ed0 with gone := betG L M k ++ (u.take 0).map (fun f => ⟨k, f.num⟩), added := betA L M k }) := by
        obtain ⟨P, hP⟩ := HE.out
        exact ⟨P, by simpa using hP.below (Below.drew (Below.refl _ _))⟩
      clear HE HN1
      go_wp2
      go_cut [22, 23, 24] (fun v n i w2 => ∃ a2 c2, v = .slice a2 N c2 ∧ n = .int .i64 N ∧ i = .int .i64 0 ∧ Hid (∃ P, Bt (w.heap.size + 4) w2 (w.heap.size + 1 + 1 + 1) P { ed0 with gone := betG L M k ++ (u.take 0).map (fun f => ⟨k, f.num⟩), added := betA L M k }) ∧ Hid (RowF w2 (w.heap.size + 4) (.slice a2 N c2) u) ∧ Hid (Below W3.heap.size W3 w2))
      case first =>
        go_region_law (first
          | (refine step_call61 (by rfl) _ _ _ (by rfl) _ _ (by rfl) (by rfl) S1 ?_
             rintro e w2 ⟨⟨v, rfl, hr⟩, hb⟩
             refine ⟨_, rfl, ?_⟩
             have HE2 : Hid (∃ P, Bt (w.heap.size + 4) w2 (w.heap.size + 1 + 1 + 1) P { ed0 with gone := betG L M k ++ (u.take 0).map (fun f => ⟨k, f.num⟩), added := betA L M k }) := by
               obtain ⟨P, hP⟩ := HEd.out
               exact ⟨P, hP.below hb⟩
             have HB2 : Hid (Below W3.heap.size W3 w2) := bstep HB.out.drew hb
             obtain ⟨a2, c2, rfl⟩ := row_slice hr
             rw [hu.out] at hr ⊢
             rw [hN.out] at hr ⊢
             have HR2 : Hid (RowF w2 (w.heap.size + 4) (.slice a2 N c2) u) := World.ownsRow.mono hr hs5))
        all_goals
          go_wp2
          go_meet
          exact ⟨_, _, rfl, rfl, rfl, HE2, HR2, HB2⟩
      case rest =>
      clear HEd S1 cx cy lx ly HBw HB hs5
      obtain ⟨a2, c2, rfl, rfl, rfl, HE2, HR2, HB2⟩ := hcut
      go_wp2
      go_loopw [24] (fun i wr => ∃ j : Nat, j ≤ N ∧ i = .int .i64 j ∧ Hid (∃ P, Bt (w.heap.size + 4) wr (w.heap.size + 1 + 1 + 1) P { ed0 with gone := betG L M k ++ (u.take j).map (fun f => ⟨k, f.num⟩), added := betA L M k }) ∧ Hid (RowF wr (w.heap.size + 4) (.slice a2 N c2) u) ∧ Hid (Below W3.heap.size W3 wr)) (fun i _ => ((N : Int) - intOf i).toNat)
      case atStart => exact ⟨0, Nat.zero_le _, rfl, HE2.out, HR2.out, HB2.out⟩
      case round =>
        clear HE2 HR2 HB2
        obtain ⟨j, hj, rfl, HE, HR, HB⟩ := hrel
        rcases Nat.lt_or_ge j N with hjN | hjN
        · have hjz : (j : Int) < (N : Int) := by omega
          obtain ⟨g, hg⟩ : ∃ g, u[j]? = some g := ⟨_, List.getElem?_eq_getElem (by rw [hN.out]; exact hjN)⟩
          have r9 : RdF wr a2 u := by
            obtain ⟨a9, c9, e9, _, r9, _⟩ := row_rd fi_k HR.out
            have e9' : a2 = a9 := by injection e9
            rw [e9']; exact r9
          obtain ⟨ga, oa, e1, hat1⟩ := r9.at_ hg
          obtain ⟨y0, y1, y2, y3, y4, y5, y6, y7, y8, y9⟩ := hat1.f
          subst e1
          have HT : Hid (u.take (j + 1) = u.take j ++ [g]) := take_snoc' hg
          obtain ⟨P, hP⟩ := HE.out
          obtain ⟨G, hG⟩ : ∃ G, Hid (betG L M k ++ (u.take j).map (fun f => (⟨k, f.num⟩ : Gn)) = G) := ⟨_, rfl⟩
          have HG1 : Hid (betG L M k ++ (u.take (j + 1)).map (fun f => (⟨k, f.num⟩ : Gn)) = G ++ [⟨k, g.num⟩]) := by show _ = _; rw [HT.out, List.map_append, ← List.append_assoc, hG.out]; rfl
          have hGl : G.length ≤ 8388608 := by
            have := HN2.out
            rw [← hG.out, List.length_append, List.length_map, List.length_take]
            omega
          rw [hG.out] at hP
          obtain ⟨n7, hn7⟩ : ∃ n7, Hid (G.length = n7) := ⟨_, rfl⟩
          have hn7z : n7 ≤ 8388608 := by rw [← hn7.out]; exact hGl
          have X := Blk.new (wr.alloc g.o) 66 (Gn.c ⟨k, g.num⟩)
          rw [World.size_alloc] at X
          have b2 : Below wr.heap.size wr ((wr.alloc g.o).alloc (.cells #[.int .i64 k, .int .u64 g.num] 66)) := bstep (al1 _ _) (al1 _ _)
          obtain ⟨a3, c3, w7, hr7, hp7⟩ := (hP.below b2).addGone X hGl 24
          have q0 : (wr.alloc g.o).cell? ⟨w.heap.size + 1 + 1 + 1, 11, none⟩ = some (.slice P.ga n7 P.gc) := by rw [← hn7.out]; exact (hP.below (al1 wr g.o)).b.cell1 11 _ rfl
          have l0 := (hP.below (al1 wr g.o)).b.lt
          have hr8 : (Builtin.append_ #[24, 24] 24 #[.slice P.ga n7 P.gc, .slice (some ⟨wr.heap.size + 1, 0, none⟩) 1 1]).run Try.prog ((wr.alloc g.o).alloc (.cells #[.int .i64 k, .int .u64 g.num] 66)) = .ok (.slice a3 (n7 + 1) c3) w7 := by rw [← hn7.out]; exact hr7
          have e7 : ({ ed0 with gone := G, added := betA L M k } : Ed).gone.length = n7 := hn7.out
          rw [e7] at hp7
          obtain ⟨q7, hq7⟩ := hp7.c
          have z7 := hp7.z
          have l7 := hp7.lt
          have HE' : Hid (∃ P, Bt (w.heap.size + 4) (w7.setCell ⟨w.heap.size + 1 + 1 + 1, 11, none⟩ (.slice a3 (n7 + 1) c3)) (w.heap.size + 1 + 1 + 1) P { ed0 with gone := betG L M k ++ (u.take (j + 1)).map (fun f => ⟨k, f.num⟩), added := betA L M k }) := by
            rw [HG1.out]; exact ⟨_, hp7.t⟩
          have HR' : Hid (RowF (w7.setCell ⟨w.heap.size + 1 + 1 + 1, 11, none⟩ (.slice a3 (n7 + 1) c3)) (w.heap.size + 4) (.slice (some ⟨ga, oa, none⟩) N c2) u) := hp7.r _ _ _ (row_upd (S := Non) HR.out (Upd.ofBelow b2) (fun _ _ h => h))
          have HB' : Hid (Below W3.heap.size W3 (w7.setCell ⟨w.heap.size + 1 + 1 + 1, 11, none⟩ (.slice a3 (n7 + 1) c3))) := hp7.g W3 (bstep HB.out b2) (by rw [hs3]; exact Nat.le_refl _)
          clear HE HR HB hP hp7 hr7 X HG1 HT hG hg hat1 r9 b2 hGl e7
          go_wp2_with (at_builtin; refine wpList_appt rfl _ _ rfl rfl rfl hr8 ?_)
          go_roundw
          case rel => exact ⟨j + 1, by omega, by go_num, HE', HR', HB'⟩
          case measure => simp [intOf]; omega
        · obtain rfl : j = N := by omega
          have hz : ¬ ((j : Int) < j) := by omega
          have HE5 : Hid (∃ P, Bt (w.heap.size + 4) wr (w.heap.size + 1 + 1 + 1) P { ed0 with gone := betG L M (k + 1), added := betA L M k }) := by
            have := HE.out
            rw [List.take_of_length_le (by rw [hN.out]; exact Nat.le_refl _)] at this
            show ∃ P, Bt _ _ _ P { ed0 with gone := betG L M k ++ gonB k (L k) (M k), added := _ }
            unfold gonB
            rw [hu.out]
            exact this
          have HN3 : Hid ((betA L M k).length ≤ 6 * 1048576) := HN2.out.2.2
          clear HE HR HN2 hu hN hNz hj hjN
          obtain ⟨cx, cy⟩ := HBx.out wr HB.out k hk7
          unfold vsl at cx cy
          have lx := cell_lt cx
          have ly := cell_lt cy
          have HBw : Hid (Below w.heap.size w wr) := bstep HB1.out HB.out
          have S1 : Calls Try.prog 61 #[.slice (U.a k) (M k).length (U.c k), .slice (V.a k) (L k).length (V.c k)] wr.drew fun e w' => (∃ v, e = .returned v ∧ RowF w' (wr.drew.heap.size + 1) v (misB (M k) (L k))) ∧ Below wr.drew.heap.size wr.drew w' :=
            missing_any ((HV.out.2.rd k hk7).below HBw.out.drew) ((HV.out.1.rd k hk7).below HBw.out.drew) (HV.out.2.len k hk7) (HV.out.1.len k hk7) (HK.out.2 k hk7) (HK.out.1 k hk7)
          have HN1 : Hid ((misB (M k) (L k)).length ≤ 1048576) := Nat.le_trans (misB_len _ _) (HS.out.2 k hk7)
          obtain ⟨W6, rfl⟩ : ∃ W6, W6 = wr := ⟨_, rfl⟩
          obtain ⟨u, hu⟩ : ∃ u, Hid (misB (M k) (L k) = u) := ⟨_, rfl⟩
          obtain ⟨N, hN⟩ : ∃ N, Hid (u.length = N) := ⟨_, rfl⟩
          have hs5 : w.heap.size + 4 ≤ W6.drew.heap.size + 1 := by
            obtain ⟨P, hP⟩ := HE5.out
            have := hP.m.2
            show _ ≤ W6.heap.size + 1
            omega
          have hNl : N ≤ 1048576 := by have := HN1.out; rw [hu.out, hN.out] at this; exact this
          have hNz : (N : Int) ≤ 1048576 := by omega
          have HEd : Hid (∃ P, Bt (w.heap.size + 4) W6.drew (w.heap.size + 1 + 1 + 1) P { ed0 with gone := betG L M (k + 1), added := betA L M k ++ (u.take 0).map (fun f => ⟨k, f⟩) }) := by
            obtain ⟨P, hP⟩ := HE5.out
            exact ⟨P, by simpa using hP.below (Below.drew (Below.refl _ _))⟩
          clear HE5 HN1
          go_wp2
          go_cut [46, 47, 48] (fun v n i w2 => ∃ a2 c2, v = .slice a2 N c2 ∧ n = .int .i64 N ∧ i = .int .i64 0 ∧ Hid (∃ P, Bt (w.heap.size + 4) w2 (w.heap.size + 1 + 1 + 1) P { ed0 with gone := betG L M (k + 1), added := betA L M k ++ (u.take 0).map (fun f => ⟨k, f⟩) }) ∧ Hid (RowF w2 (w.heap.size + 4) (.slice a2 N c2) u) ∧ Hid (Below W3.heap.size W3 w2))
          case first =>
            go_region_law (first
              | (refine step_call61 (by rfl) _ _ _ (by rfl) _ _ (by rfl) (by rfl) S1 ?_
                 rintro e w2 ⟨⟨v, rfl, hr⟩, hb⟩
                 refine ⟨_, rfl, ?_⟩
                 have HE2 : Hid (∃ P, Bt (w.heap.size + 4) w2 (w.heap.size + 1 + 1 + 1) P { ed0 with gone := betG L M (k + 1), added := betA L M k ++ (u.take 0).map (fun f => ⟨k, f⟩) }) := by
                   obtain ⟨P, hP⟩ := HEd.out
                   exact ⟨P, hP.below hb⟩
                 have HB2 : Hid (Below W3.heap.size W3 w2) := bstep HB.out.drew hb
                 obtain ⟨a2, c2, rfl⟩ := row_slice hr
                 rw [hu.out] at hr ⊢
                 rw [hN.out] at hr ⊢
                 have HR2 : Hid (RowF w2 (w.heap.size + 4) (.slice a2 N c2) u) := World.ownsRow.mono hr hs5))
            all_goals
              go_wp2
              go_meet
              exact ⟨_, _, rfl, rfl, rfl, HE2, HR2, HB2⟩
          case rest =>
          clear HEd S1 cx cy lx ly HBw HB hs5
          obtain ⟨a2, c2, rfl, rfl, rfl, HE2, HR2, HB2⟩ := hcut
          go_wp2
          go_loopw [48] (fun i wr => ∃ j : Nat, j ≤ N ∧ i = .int .i64 j ∧ Hid (∃ P, Bt (w.heap.size + 4) wr (w.heap.size + 1 + 1 + 1) P { ed0 with gone := betG L M (k + 1), added := betA L M k ++ (u.take j).map (fun f => ⟨k, f⟩) }) ∧ Hid (RowF wr (w.heap.size + 4) (.slice a2 N c2) u) ∧ Hid (Below W3.heap.size W3 wr)) (fun i _ => ((N : Int) - intOf i).toNat)
          case atStart => exact ⟨0, Nat.zero_le _, rfl, HE2.out, HR2.out, HB2.out⟩
          case round =>
            clear HE2 HR2 HB2
            obtain ⟨j, hj, rfl, HE, HR, HB⟩ := hrel
            rcases Nat.lt_or_ge j N with hjN | hjN
            · have hjz : (j : Int) < (N : Int) := by omega
              obtain ⟨g, hg⟩ : ∃ g, u[j]? = some g := ⟨_, List.getElem?_eq_getElem (by rw [hN.out]; exact hjN)⟩
              have r9 : RdF wr a2 u := by
                obtain ⟨a9, c9, e9, _, r9, _⟩ := row_rd fi_k HR.out
                have e9' : a2 = a9 := by injection e9
                rw [e9']; exact r9
              obtain ⟨ga, oa, e1, hat1⟩ := r9.at_ hg
              obtain ⟨y0, y1, y2, y3, y4, y5, y6, y7, y8, y9⟩ := hat1.f
              subst e1
              have HT : Hid (u.take (j + 1) = u.take j ++ [g]) := take_snoc' hg
              obtain ⟨P, hP⟩ := HE.out
              obtain ⟨G, hG⟩ : ∃ G, Hid (betA L M k ++ (u.take j).map (fun f => (⟨k, f⟩ : Ad)) = G) := ⟨_, rfl⟩
              have HG1 : Hid (betA L M k ++ (u.take (j + 1)).map (fun f => (⟨k, f⟩ : Ad)) = G ++ [⟨k, g⟩]) := by show _ = _; rw [HT.out, List.map_append, ← List.append_assoc, hG.out]; rfl
              have hGl : G.length ≤ 8388608 := by
                have := HN3.out
                rw [← hG.out, List.length_append, List.length_map, List.length_take]
                omega
              rw [hG.out] at hP
              obtain ⟨n7, hn7⟩ : ∃ n7, Hid (G.length = n7) := ⟨_, rfl⟩
              have hn7z : n7 ≤ 8388608 := by rw [← hn7.out]; exact hGl
              have X := Blk.new (wr.alloc g.o) 64 (Ad.c ⟨k, g⟩)
              rw [World.size_alloc] at X
              have b2 : Below wr.heap.size wr ((wr.alloc g.o).alloc (Ad.o ⟨k, g⟩)) := bstep (al1 _ _) (al1 _ _)
              obtain ⟨a3, c3, w7, hr7, hp7⟩ := (hP.below b2).addAdded X hGl 25
              have q0 : (wr.alloc g.o).cell? ⟨w.heap.size + 1 + 1 + 1, 12, none⟩ = some (.slice P.aa n7 P.ac) := by rw [← hn7.out]; exact (hP.below (al1 wr g.o)).b.cell1 12 _ rfl
              have l0 := (hP.below (al1 wr g.o)).b.lt
              have hr8 : (Builtin.append_ #[25, 25] 25 #[.slice P.aa n7 P.ac, .slice (some ⟨wr.heap.size + 1, 0, none⟩) 1 1]).run Try.prog ((wr.alloc g.o).alloc (Ad.o ⟨k, g⟩)) = .ok (.slice a3 (n7 + 1) c3) w7 := by rw [← hn7.out]; exact hr7
              have e7 : ({ ed0 with gone := betG L M (k + 1), added := G } : Ed).added.length = n7 := hn7.out
              rw [e7] at hp7
              obtain ⟨q7, hq7⟩ := hp7.c
              have z7 := hp7.z
              have l7 := hp7.lt
              have HE' : Hid (∃ P, Bt (w.heap.size + 4) (w7.setCell ⟨w.heap.size + 1 + 1 + 1, 12, none⟩ (.slice a3 (n7 + 1) c3)) (w.heap.size + 1 + 1 + 1) P { ed0 with gone := betG L M (k + 1), added := betA L M k ++ (u.take (j + 1)).map (fun f => ⟨k, f⟩) }) := by
                rw [HG1.out]; exact ⟨_, hp7.t⟩
              have HR' : Hid (RowF (w7.setCell ⟨w.heap.size + 1 + 1 + 1, 12, none⟩ (.slice a3 (n7 + 1) c3)) (w.heap.size + 4) (.slice (some ⟨ga, oa, none⟩) N c2) u) := hp7.r _ _ _ (row_upd (S := Non) HR.out (Upd.ofBelow b2) (fun _ _ h => h))
              have HB' : Hid (Below W3.heap.size W3 (w7.setCell ⟨w.heap.size + 1 + 1 + 1, 12, none⟩ (.slice a3 (n7 + 1) c3))) := hp7.g W3 (bstep HB.out b2) (by rw [hs3]; exact Nat.le_refl _)
              clear HE HR HB hP hp7 hr7 X HG1 HT hG hg hat1 r9 b2 hGl e7
              go_wp2_with (at_builtin; refine wpList_appt rfl _ _ rfl rfl rfl hr8 ?_)
              go_roundw
              case rel => exact ⟨j + 1, by omega, by go_num, HE', HR', HB'⟩
              case measure => simp [intOf]; omega
            · obtain rfl : j = N := by omega
              have hz : ¬ ((j : Int) < j) := by omega
              have HE5 : Hid (∃ P, Bt (w.heap.size + 4) wr (w.heap.size + 1 + 1 + 1) P { ed0 with gone := betG L M (k + 1), added := betA L M (k + 1) }) := by
                have := HE.out
                rw [List.take_of_length_le (by rw [hN.out]; exact Nat.le_refl _)] at this
                show ∃ P, Bt _ _ _ P { ed0 with gone := _, added := betA L M k ++ addB k (L k) (M k) }
                unfold addB
                rw [hu.out]
                exact this
              clear HE HR HN3 hu hN hNz hj hjN hNl
              go_wp2
              go_roundw
              case rel => exact ⟨k + 1, by omega, by go_num, HE5, HB⟩
              case measure => simp [intOf]; omega
    · obtain rfl : k = 7 := by omega
      have hz : ¬ ((7 : Int) < 7) := by decide
      obtain ⟨P, hP⟩ := HE.out
      have hP' : Bt (w.heap.size + 4) wr (w.heap.size + 1 + 1 + 1) P (betE L M) := hP
      have HP : Hid (OwnE wr (w.heap.size + 4) P (betE L M) ∧ Below w.heap.size w wr) := ⟨hP'.o, HBw.out⟩
      obtain ⟨e, he⟩ : ∃ e, Hid (betE L M = e) := ⟨_, rfl⟩
      rw [he.out] at hP' HP
      have R6 : Blk wr (w.heap.size + 1 + 1) 27 (edA ⟨none, 0, none, 0⟩ ed0).toList := (HB.out.block _ (by rw [hs3]; omega)).trans HR0.out
      obtain ⟨b0, b1, b2, b3, b4, b5, b6, b7, b8, b9, b10, b11, b12, l6⟩ := ed13 hP'.b
      obtain ⟨r0, r1, r2, r3, r4, r5, r6, r7, r8, r9, r10, r11, r12, m6⟩ := ed13 R6
      have f0 := R6.frozen 0
      have f1 := R6.frozen 1
      have f2 := R6.frozen 2
      have f3 := R6.frozen 3
      have f4 := R6.frozen 4
      have f5 := R6.frozen 5
      have f6 := R6.frozen 6
      have f7 := R6.frozen 7
      have f8 := R6.frozen 8
      have f9 := R6.frozen 9
      have f10 := R6.frozen 10
      have f11 := R6.frozen 11
      have f12 := R6.frozen 12
      clear HE hP hP' HBw HB R6 HR0 HBx HB1 HV HS HK
      go_wp2
      refine bodyPost_ret (v := .agg (edA P e)) (by simp [results, Try.results23, go_sem, *]) rfl ?_
      rw [he.out]
      have U := upd13 wr (w.heap.size + 1 + 1) (.int .u32 e.fam) (.bool e.ma) (.bool e.dr) (.string e.name) (.int .i64 e.how) (.bool e.hl) (.bool e.hn) (.bool e.hs) (.int .u64 e.log) (.int .u64 e.next) (.int .u64 e.seq) (.slice P.ga e.gone.length P.gc) (.slice P.aa e.added.length P.ac)
      obtain ⟨⟨hg, ha⟩, hb⟩ := HP.out
      refine ⟨⟨P, rfl, ⟨?_, ?_⟩⟩, Upd.bel hb U (fun j hj => by omega) hb.size⟩
      · exact row_upd hg U (fun k hk e => by have := (row_blk hg k hk).1; omega)
      · exact row_upd ha U (fun k hk e => by have := (row_blk ha k hk).1; omega)
end Go.Proofs.Ytkmpcheamdadcaa
