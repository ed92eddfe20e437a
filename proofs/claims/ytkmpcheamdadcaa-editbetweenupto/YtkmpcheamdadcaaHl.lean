/-
  The law EditBetween, walked.
-/
import Derived.Test.YtkmpcheamdadcaaHk
import Derived.Test.YtkmpcheamdadcaaHh
import Derived.Test.YtkmpcheamdadcaaWc
import Derived.Test.YtkmpcheamdadcaaVg
import Derived.Deep.DeepCutAuto
namespace Go.Proofs.Ytkmpcheamdadcaa
open Go.RowKit
set_option linter.unusedVariables false
set_option linter.unusedSimpArgs false
theorem betA_fok {L M : Nat → List Fi} (hM : ∀ i, i < 7 → ∀ f ∈ M i, FOk f) : ∀ n, n ≤ 7 → ∀ a ∈ betA L M n, FOk a.f
  | 0, _, g, hg => by simp [betA] at hg
  | n + 1, h, g, hg => by
    rw [betA, List.mem_append] at hg
    rcases hg with hg | hg
    · exact betA_fok hM n (by omega) g hg
    · simp only [addB, misB, List.mem_map, List.mem_filter] at hg
      obtain ⟨f, ⟨hf, _⟩, rfl⟩ := hg
      exact hM n (by omega) f hf
set_option maxRecDepth 100000 in
set_option maxHeartbeats 4000000 in
theorem between_walk {w : World} {V U : Vn} {L M : Nat → List Fi} (h : RdV w V L) (k : RdV w U M) (hL : ∀ i, i < 7 → (L i).length ≤ 1048576) (hM : ∀ i, i < 7 → (M i).length ≤ 1048576) (kL : ∀ i, i < 7 → ∀ f ∈ L i, FKy f) (kM : ∀ i, i < 7 → ∀ f ∈ M i, FKy f) (how : Int) :
    Calls Try.prog 6 #[.int .i64 how, .agg (verA V L), .agg (verA U M)] w fun e w' => e = .returned (.bool true) ∧ Below w.heap.size w w' := by
  have HV : Hid (RdV w V L ∧ RdV w U M) := ⟨h, k⟩
  have HS : Hid ((∀ i, i < 7 → (L i).length ≤ 1048576) ∧ (∀ i, i < 7 → (M i).length ≤ 1048576) ∧ (∀ i, i < 7 → ∀ f ∈ L i, FKy f) ∧ ∀ i, i < 7 → ∀ f ∈ M i, FKy f) := ⟨hL, hM, kL, kM⟩
  have HLv := fun w => lives_any w
  have hb2 := (Blk.new (w.alloc (.cells (verA V L) 41)) 41 (cells7 (vsl U M)))
  rw [World.size_alloc] at hb2
  have HB1 : Hid (Below w.heap.size w ((w.alloc (.cells (verA V L) 41)).alloc (.cells (verA U M) 41))) := bstep (al1 _ _) (al1 _ _)
  have HVV : Hid (∀ W, Below ((w.alloc (.cells (verA V L) 41)).alloc (.cells (verA U M) 41)).heap.size ((w.alloc (.cells (verA V L) 41)).alloc (.cells (verA U M) 41)) W → Blk W w.heap.size 41 (cells7 (vsl V L)) ∧ Blk W (w.heap.size + 1) 41 (cells7 (vsl U M)) ∧ RdV W V L ∧ RdV W U M) := fun W hb =>
    ⟨((Blk.new w 41 (cells7 (vsl V L))).alloc (.cells (verA U M) 41)).upd (S := Non) (Upd.ofBelow hb) (fun h => h), hb2.upd (S := Non) (Upd.ofBelow hb) (fun h => h), h.below (bstep HB1.out hb), k.below (bstep HB1.out hb)⟩
  clear h k hL hM kL kM hb2
  go_enter Try.func6, Try.ntmps6
  go_wp2_with fail
  generalize hW1 : (w.alloc (.cells (verA V L) 41)).alloc (.cells (verA U M) 41) = W1 at *
  clear hW1
  obtain ⟨e, he⟩ : ∃ e, Hid (betE L M = e) := ⟨_, rfl⟩
  go_cut [7, 8] (fun x y wd => ∃ X Y P1 P2, x = .pointer (some ⟨X, 0, none⟩) ∧ y = .pointer (some ⟨Y, 0, none⟩) ∧ Hid (Below W1.heap.size W1 wd ∧ Blk wd X 27 (edA P1 e).toList ∧ Blk wd Y 27 (edA P2 e).toList ∧ (∃ b, OwnE wd b P1 e) ∧ ∃ b, OwnE wd b P2 e))
  case first =>
    refine reg1_wp (V := V) (U := U) (L := L) (M := M) (B1 := w.heap.size) (B2 := w.heap.size + 1) rfl rfl rfl HVV.out HS.out.1 HS.out.2.1 HS.out.2.2.1 HS.out.2.2.2 (fun x wd X Y P1 P2 b1 b2 x7 x8 hb hX hY o1 o2 => ?_)
    rw [he.out] at hX hY o1 o2
    simp only [ks1, List.foldl_cons, List.foldl_nil, x7, x8]
    go_wp2
    go_meet
    exact ⟨X, Y, P1, P2, rfl, rfl, hb, hX, hY, ⟨b1, o1⟩, ⟨b2, o2⟩⟩
  case rest =>
    obtain ⟨X, Y, P1, P2, rfl, rfl, HC⟩ := hcut
    have HEl : Hid (e.gone.length * 16 ≤ 140737488355328 ∧ e.added.length * 104 ≤ 140737488355328) := by
      have h1 := betG_len (M := M) HS.out.1 7 (by omega)
      have h2 := betA_len (L := L) HS.out.2.1 7 (by omega)
      show _ ∧ _
      rw [← he.out]
      exact ⟨by show (betG L M 7).length * 16 ≤ _; omega, by show (betA L M 7).length * 104 ≤ _; omega⟩
    have HE : Hid (∀ W, Below wc.heap.size wc W → Blk W X 27 (edA P1 e).toList ∧ Blk W Y 27 (edA P2 e).toList ∧ RdEd W P1 e ∧ RdEd W P2 e) := fun W hb => by
      obtain ⟨_, hX, hY, ⟨b1, o1⟩, ⟨b2, o2⟩⟩ := HC.out
      exact ⟨hX.upd (S := Non) (Upd.ofBelow hb) (fun h => h), hY.upd (S := Non) (Upd.ofBelow hb) (fun h => h), (o1.below hb).rd HEl.out.1 HEl.out.2, (o2.below hb).rd HEl.out.1 HEl.out.2⟩
    have HVc : Hid (∀ W, Below wc.heap.size wc W → Blk W w.heap.size 41 (cells7 (vsl V L)) ∧ Blk W (w.heap.size + 1) 41 (cells7 (vsl U M)) ∧ RdV W V L ∧ RdV W U M) := fun W hb => HVV.out W (bstep HC.out.1 hb)
    have HB2 : Hid (Below w.heap.size w wc) := bstep HB1.out HC.out.1
    clear HVV HC HB1
    generalize wc = W2 at *
    go_wp2_with fail
    go_cut [42] (fun v wd => v = .bool false ∧ Hid (Below W2.heap.size W2 wd))
    case first =>
      refine reg2_wp (V := V) (U := U) (L := L) (M := M) (e := e) (P1 := P1) (P2 := P2) (B1 := w.heap.size) (B2 := w.heap.size + 1) (X := X) (Y := Y) rfl rfl rfl rfl rfl HVc.out HE.out (fun x wd x42 hb => ?_)
      have HB3 : Hid (Below W2.heap.size W2 wd) := hb
      clear hb
      simp only [List.foldl_cons, List.foldl_nil, x42]
      clear x42
      simp only [Act.put, List.setIfInBounds_toArray, List.set_cons_zero, List.set_cons_succ]
      go_wp2
      go_meet
      exact ⟨rfl, HB3⟩
    case rest =>
    obtain ⟨rfl, HB3⟩ := hcut
    go_wp2_with fail
    go_loopw [9] (fun i wr => ∃ k : Nat, k ≤ 9 ∧ i = .int .i64 ((k : Int) - 1) ∧ Hid (Below W2.heap.size W2 wr)) (fun i _ => (8 - intOf i).toNat)
    case atStart => exact ⟨0, by decide, rfl, HB3⟩
    case round =>
      clear HB3
      obtain ⟨k, hk, rfl, HB⟩ := hrel
      rcases Nat.lt_or_ge k 9 with hk7 | hk7
      · have hkz : ((k : Int) - 1) ≤ 7 := by omega
        go_wp2_with fail
        refine reg7_wp (V := V) (L := L) (B1 := w.heap.size) rfl rfl rfl (fun W hb => ⟨(HVc.out W (bstep HB.out hb)).1, (HVc.out W (bstep HB.out hb)).2.2.1⟩) (fun x wd x53 hb => ?_)
        have HB4 : Hid (Below W2.heap.size W2 wd) := bstep HB.out hb
        clear hb
        simp only [List.foldl_cons, List.foldl_nil, x53]
        clear x53
        simp only [Act.put, List.setIfInBounds_toArray, List.set_cons_zero, List.set_cons_succ]
        go_wp2
        go_roundw
        case rel => exact ⟨k + 1, by omega, by go_num, HB4⟩
        case measure => simp [intOf]; omega
      · obtain rfl : k = 9 := by omega
        have hkz : ¬ (((9 : Nat) : Int) - 1) ≤ 7 := by decide
        go_wp2_with fail
        clear hk hk7 hkz
        go_cut [10, 11] (fun x y wd => (∃ b, wd.ownsRow b 23 1 x (Srt.famI (Srt.nmL L 7)).length (Srt.uc (Srt.famI (Srt.nmL L 7)))) ∧ (∃ b, wd.ownsRow b 23 1 y (Srt.famI (Srt.nmL L 7)).length (Srt.uc (Srt.famI (Srt.nmL L 7)))) ∧ Hid (Below W2.heap.size W2 wd))
        case first =>
          refine reg9_wp (V := V) (L := L) (B1 := w.heap.size) rfl rfl (fun W hb => ⟨(HVc.out W (bstep HB.out hb)).1, (HVc.out W (bstep HB.out hb)).2.2.1⟩) HS.out.1 (fun x wd h1 h2 hb => ?_)
          have HB4 : Hid (Below W2.heap.size W2 wd) := bstep HB.out hb
          have H1 : Hid _ := h1
          have H2 : Hid _ := h2
          clear hb h1 h2
          simp only [List.foldl_cons, List.foldl_nil]
          simp only [Act.put, List.setIfInBounds_toArray, List.set_cons_zero, List.set_cons_succ]
          go_wp2
          go_meet
          exact ⟨H1.out, H2.out, HB4⟩
        case rest =>
        obtain ⟨⟨b1, h1⟩, ⟨b2, h2⟩, HB5⟩ := hcut
        have hNb : (Srt.famI (Srt.nmL L 7)).length ≤ 7 * 1048576 := Nat.le_trans (Srt.famI_len _) (Srt.nmL_len HS.out.1 7 (by omega))
        obtain ⟨fl, hfl⟩ : ∃ fl, Srt.famI (Srt.nmL L 7) = fl := ⟨_, rfl⟩
        rw [hfl] at h1 h2 hNb
        clear HB hfl
        generalize wc = W3 at *
        obtain ⟨a1, c1, rfl, hc1⟩ := Srt.urow_form h1
        obtain ⟨a2, c2, rfl, hc2⟩ := Srt.urow_form h2
        have H1 : Hid _ := h1
        have H2 : Hid _ := h2
        clear h1 h2
        obtain ⟨N, hN⟩ : ∃ N, Hid (fl.length = N) := ⟨_, rfl⟩
        rw [hN.out] at hNb
        rw [hN.out]
        go_wp2_with fail
        go_loopw [12] (fun i wr => ∃ k : Nat, k ≤ N ∧ i = .int .i64 k ∧ Hid (Below W3.heap.size W3 wr)) (fun i _ => ((N : Int) - intOf i).toNat)
        case atStart => exact ⟨0, Nat.zero_le _, rfl, Below.refl _ _⟩
        case round =>
          obtain ⟨k, hk, rfl, HB⟩ := hrel
          rcases Nat.lt_or_ge k N with hk7 | hk7
          · have hkz : (k : Int) < N := by omega
            have hk3 : k < fl.length := by rw [hN.out]; exact hk7
            obtain ⟨g1, p1, e1, x1, l1⟩ := Srt.urow_at (row_upd (S := Non) H1.out (Upd.ofBelow HB.out) (fun _ _ h => h)) hk3
            obtain ⟨g2, p2, e2, x2, l2⟩ := Srt.urow_at (row_upd (S := Non) H2.out (Upd.ofBelow HB.out) (fun _ _ h => h)) hk3
            obtain rfl : a1 = some ⟨g1, 0, none⟩ := by injection e1
            obtain rfl : a2 = some ⟨g2, 0, none⟩ := by injection e2
            have hne : (fl[k] != fl[k]) = false := by simp
            generalize fl[k] = z at *
            have HA : Hid (∀ W, Below wr.heap.size wr W → W.cell? ⟨g1, k, none⟩ = some (.int .u64 z) ∧ W.cell? ⟨g2, k, none⟩ = some (.int .u64 z)) := fun W hb => ⟨(hb.cell l1).trans x1, (hb.cell l2).trans x2⟩
            have HB7 : Hid (Below W3.heap.size W3 wr.drew) := HB.out.drew
            clear e1 e2
            go_wp2_with fail
            go_region_held_law (fun w' => w'.cell? ⟨g1, k, none⟩ = some (.int .u64 z) ∧ w'.cell? ⟨g2, k, none⟩ = some (.int .u64 z))
              (with_reducible exact HA.out _ (Below.refl _ _).drew)
              (fail)
            go_wp2
            go_roundw
            case rel => exact ⟨k + 1, by omega, by go_num, HB7⟩
            case measure => simp [intOf]; omega
          · obtain rfl : k = N := by omega
            have hkz : ¬ ((k : Int) < k) := by omega
            have HB6 : Hid (Below W2.heap.size W2 wr) := bstep HB5.out HB.out
            clear H1 H2 hc1 hc2 HB HB5
            obtain ⟨v0, v1, v2, v3, v4, v5, v6, _, _, _, _, _, _, _, lV⟩ := blk7 (HVc.out wr HB6.out).1
            have h22 := qcheck_any (HVc.out wr HB6.out).2.2.1 how
            obtain ⟨cL, hcL⟩ : ∃ c, Hid (chkE how L = c) := ⟨_, rfl⟩
            obtain ⟨cM, hcM⟩ : ∃ c, Hid (chkE how M = c) := ⟨_, rfl⟩
            rw [hcL.out] at h22
            by_cases h1 : cL = 0
            · have HU : Hid (∀ W, Below W2.heap.size W2 W → W.cell? ⟨w.heap.size + 1, 0, none⟩ = some (vsl U M 0) ∧ W.cell? ⟨w.heap.size + 1, 1, none⟩ = some (vsl U M 1) ∧ W.cell? ⟨w.heap.size + 1, 2, none⟩ = some (vsl U M 2) ∧ W.cell? ⟨w.heap.size + 1, 3, none⟩ = some (vsl U M 3) ∧ W.cell? ⟨w.heap.size + 1, 4, none⟩ = some (vsl U M 4) ∧ W.cell? ⟨w.heap.size + 1, 5, none⟩ = some (vsl U M 5) ∧ W.cell? ⟨w.heap.size + 1, 6, none⟩ = some (vsl U M 6) ∧
                  W.cell? ⟨Y, 11, none⟩ = some (.slice P2.ga e.gone.length P2.gc) ∧ W.cell? ⟨Y, 12, none⟩ = some (.slice P2.aa e.added.length P2.ac)) := fun W hb => by
                obtain ⟨u0, u1, u2, u3, u4, u5, u6, _⟩ := blk7 (HVc.out W hb).2.1
                have hY := (HE.out W hb).2.1
                exact ⟨u0, u1, u2, u3, u4, u5, u6, hY.cell1 11 _ rfl, hY.cell1 12 _ rfl⟩
              subst h1
              by_cases h2 : cM = 0
              · subst h2
                have hw : wrap64 ((e.gone.length : Int) + e.added.length) = e.gone.length + e.added.length := by have := HEl.out; unfold wrap64; omega
                by_cases h3 : 1024 < ((e.gone.length : Int) + e.added.length)
                · go_wp2_with (first
                    | (go_at_call 14; refine (HLv _).mono ?_; rintro e w13 ⟨rfl, hb13⟩)
                    | (have hq := HB11; clear hq; fail)
                    | (have hq := HB10; clear hq; go_at_call 22; refine h23.mono ?_; rintro e9 w11 ⟨rfl, hb11⟩
                       have HB11 : Hid (Below W2.heap.size W2 w11) := bstep HB10.out hb11
                       obtain ⟨_, _, _, _, _, _, _, y1, y2⟩ := HU.out w11 HB11.out)
                    | (go_at_call 22; refine h22.mono ?_; rintro e9 w10 ⟨rfl, hb10⟩
                       have HB10 : Hid (Below W2.heap.size W2 w10) := bstep HB6.out hb10
                       obtain ⟨z0, z1, z2, z3, z4, z5, z6, _, _⟩ := HU.out w10 HB10.out
                       have h23 := qcheck_any (HVc.out w10 HB10.out).2.2.2 how
                       rw [hcM.out] at h23))
                  go_ret
                  exact ⟨rfl, bstep HB2.out (bstep HB11.out hb13)⟩
                · go_wp2_with (first
                    | (have hq := HB11; clear hq; fail)
                    | (have hq := HB10; clear hq; go_at_call 22; refine h23.mono ?_; rintro e9 w11 ⟨rfl, hb11⟩
                       have HB11 : Hid (Below W2.heap.size W2 w11) := bstep HB10.out hb11
                       obtain ⟨_, _, _, _, _, _, _, y1, y2⟩ := HU.out w11 HB11.out)
                    | (go_at_call 22; refine h22.mono ?_; rintro e9 w10 ⟨rfl, hb10⟩
                       have HB10 : Hid (Below W2.heap.size W2 w10) := bstep HB6.out hb10
                       obtain ⟨z0, z1, z2, z3, z4, z5, z6, _, _⟩ := HU.out w10 HB10.out
                       have h23 := qcheck_any (HVc.out w10 HB10.out).2.2.2 how
                       rw [hcM.out] at h23))
                  have hK := bet_apply (how := how) (L := L) (M := M) hcL.out hcM.out (by
                    have e1 : (betG L M 7).length = e.gone.length := by rw [← he.out]; rfl
                    have e2 : (betA L M 7).length = e.added.length := by rw [← he.out]; rfl
                    omega)
                  rw [he.out] at hK
                  obtain ⟨K, hK1, hK2⟩ := hK
                  have HKr : Hid (appR how L e = (0, K) ∧ ∀ i, i < 7 → K i = M i) := ⟨hK1, hK2⟩
                  have HAf : Hid (∀ a ∈ e.added, FOk a.f) := by
                    show ∀ a ∈ e.added, FOk a.f
                    rw [← he.out]
                    exact betA_fok HV.out.2.ok 7 (by omega)
                  clear hK1 hK2 hb10 hb11 h22 h23 z0 z1 z2 z3 z4 z5 z6 v0 v1 v2 v3 v4 v5 v6 y1 y2 hw h3 hkz lV
                  go_cut [13, 14] (fun x y wd => ∃ Z V2, x = .pointer (some ⟨Z, 0, none⟩) ∧ y = .int .i64 0 ∧ Hid (Below W2.heap.size W2 wd ∧ Blk wd Z 41 (cells7 (vsl V2 K)) ∧ ∃ b, OwnV wd b V2 K))
                  case first =>
                    refine reg19_wp (V := V) (L := L) (K := K) (P1 := P1) (e := e) (how := how) (B1 := w.heap.size) (X := X) rfl rfl rfl rfl (fun W hb => ?_) HKr.out.1 HAf.out (fun x wd Z V2 b x13 x14 hb hZ ho => ?_)
                    · have q := HVc.out W (bstep HB11.out hb)
                      have r := HE.out W (bstep HB11.out hb)
                      exact ⟨q.1, q.2.2.1, r.1, r.2.2.1⟩
                    · have HB12 : Hid (Below W2.heap.size W2 wd) := bstep HB11.out hb
                      have HZ : Hid (Blk wd Z 41 (cells7 (vsl V2 K)) ∧ OwnV wd b V2 K) := ⟨hZ, ho⟩
                      clear hb hZ ho
                      simp only [ks19, List.foldl_cons, List.foldl_nil, x13, x14]
                      clear x13 x14
                      simp only [Act.put, List.setIfInBounds_toArray, List.set_cons_zero, List.set_cons_succ]
                      go_wp2
                      go_meet
                      exact ⟨Z, V2, rfl, rfl, HB12.out, HZ.out.1, _, HZ.out.2⟩
                  case rest =>
                    obtain ⟨Z, V2, rfl, rfl, HC⟩ := hcut
                    generalize wc = W5 at *
                    obtain ⟨r0, r1, r2, r3, r4, r5, r6, _, _, _, _, _, _, _, lZ⟩ := blk7 HC.out.2.1
                    obtain ⟨z0, z1, z2, z3, z4, z5, z6, _, _⟩ := HU.out W5 HC.out.1
                    have hUM := (HVc.out W5 HC.out.1).2.2.2
                    have h25 : Calls Try.prog 25 #[.agg (verA V2 K), .agg (verA U M)] W5 fun e w' => e = .returned (.bool true) ∧ Below W5.heap.size W5 w' := by
                      obtain ⟨b, ho⟩ := HC.out.2.2
                      have h := equal_any (ho.rdv (fun i hi => by rw [HKr.out.2 i hi]; exact hUM.len i hi) (fun i hi => by rw [HKr.out.2 i hi]; exact hUM.ok i hi)) hUM
                      rw [eqV_iff.2 HKr.out.2] at h
                      exact h
                    clear hUM
                    go_wp2_with (first
                      | (go_at_call 14; refine (HLv _).mono ?_; rintro e w13 ⟨rfl, hb13⟩)
                      | (go_at_call 25; refine h25.mono ?_; rintro e9 w12 ⟨rfl, hb12⟩))
                    go_ret
                    exact ⟨rfl, bstep HB2.out (bstep (bstep HC.out.1 hb12) hb13)⟩
              · have h2' : (cM != 0) = true := by simp [h2]
                go_wp2_with (first
                  | (go_at_call 14; refine (HLv _).mono ?_; rintro e w13 ⟨rfl, hb13⟩)
                  | (have hq := HB10; clear hq; go_at_call 22; refine h23.mono ?_; rintro e9 w11 ⟨rfl, hb11⟩
                     have HB11 : Hid (Below W2.heap.size W2 w11) := bstep HB10.out hb11)
                  | (go_at_call 22; refine h22.mono ?_; rintro e9 w10 ⟨rfl, hb10⟩
                     have HB10 : Hid (Below W2.heap.size W2 w10) := bstep HB6.out hb10
                     obtain ⟨z0, z1, z2, z3, z4, z5, z6, _, _⟩ := HU.out w10 HB10.out
                     have h23 := qcheck_any (HVc.out w10 HB10.out).2.2.2 how
                     rw [hcM.out] at h23))
                go_ret
                exact ⟨rfl, bstep HB2.out (bstep HB11.out hb13)⟩
            · have h1' : (cL != 0) = true := by simp [h1]
              go_wp2_with (first
                | (go_at_call 14; refine (HLv _).mono ?_; rintro e w13 ⟨rfl, hb13⟩)
                | (go_at_call 22; refine h22.mono ?_; rintro e w10 ⟨rfl, hb10⟩))
              go_ret
              exact ⟨rfl, bstep HB2.out (bstep (bstep HB6.out hb10) hb13)⟩
end Go.Proofs.Ytkmpcheamdadcaa
