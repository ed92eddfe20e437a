import Derived.Test.YtkpijoogaicodaaPa
namespace Go.Proofs.Ytkpijoogaicodaa
open Go.RowKit
set_option linter.unusedVariables false
set_option linter.unusedSimpArgs false

theorem zero43 (w : World) : (zeroValue 43).run Try.prog w = .ok (.agg #[.slice none 0 0, .int .i64 0, .slice none 0 0]) w := by kernel_rfl
theorem bne_self (a : Int) : (a != a) = false := by simp

theorem addE_chk {rs : List Rec} {r : Rec} (h : addE rs r = 0) : rchk r = 0 := by
  unfold addE at h
  split at h
  · exact h
  · rename_i h1; simpa using h1
theorem addE_two {rs : List Rec} {r : Rec} (hc : rchk r = 0) (h : ¬ addE rs r = 0) : addE rs r = 2 ∧ (4096 < rs.length + 1 ∨ 4194304 < 12 + szs rs + rz r) := by
  unfold addE at h ⊢
  rw [if_neg (by simpa using hc)] at h ⊢
  by_cases hf : 4096 < rs.length + 1 ∨ 4194304 < 12 + szs rs + rz r
  · exact ⟨by rw [if_pos hf], hf⟩
  · rw [if_neg hf] at h; exact absurd rfl h
theorem apE_good {rs os : List Rec} (h : Good (rs ++ os)) : apE rs os = 0 := by
  have h1 := h.len
  have h2 := h.size
  rw [List.length_append] at h1
  rw [szs_app] at h2
  unfold apE; rw [if_neg (by omega)]
set_option maxRecDepth 100000 in
set_option maxHeartbeats 3200000 in
theorem parts_walk {w : World} {va vb : Value} {la lb : List Rec} (ha : RdR w va la) (hb : RdR w vb lb) (fa : Fam la) (fb : Fam lb) (na : la.length ≤ 140737488355328) (nb : lb.length ≤ 140737488355328) :
    Calls Try.prog 7 #[va, vb] w fun e w' => e = .returned (.bool true) ∧ Below w.heap.size w w' := by
  obtain ⟨aa, ca, rfl⟩ := ha.len
  obtain ⟨ab, cb, rfl⟩ := hb.len
  have T0 := Tri.new w
  go_enter Try.func7, Try.ntmps7
  go_wp2
  go_loopw [8] (fun i wr => ∃ (k : Nat) (rx ra : Value), k ≤ la.length ∧ i = .int .i64 k ∧ Tri w wr rx nilv ra (addAll [] (la.take k)) [] (addAll [] (la.take k))) (fun i _ => la.length - (intOf i).toNat)
  case atStart => exact ⟨0, _, _, Nat.zero_le _, rfl, T0⟩
  case round =>
    clear T0
    obtain ⟨k, rx, ra, hk, rfl, T⟩ := hrel
    have hG := addAll_good Good.nil (la.take k)
    by_cases hlt : k < la.length
    · obtain ⟨b, off, cap, hv, hb1, hr⟩ := ha.at hlt
      cases hv
      obtain ⟨c0, c1, c2, c3⟩ := rkeepT (B := 0) T hb1 hr
      have HT := addAll_take [] la k hlt
      have HF := fa _ (List.getElem_mem hlt)
      generalize la[k] = r at *
      generalize addAll [] (la.take k) = rs at *
      have HA := fun W b rv (h : Bt W b rv nilv rs []) => add_any h hG r HF.1 HF.2
      have hlk : (k : Int) < (la.length : Int) := by omega
      have hk0 : (0 : Int) ≤ (k : Int) := by omega
      obtain ⟨E, hE⟩ : ∃ E, addE rs r = E := ⟨_, rfl⟩
      rw [hE] at HA
      clear hE
      have tE := bne_self E
      obtain ⟨f, kd, key, val⟩ := r
      dsimp only at *
      have HT' : Hid (addAll [] (la.take (k + 1)) = addL rs ⟨f, kd, key, val⟩) := HT
      clear HT
      go_wp2
      go_cut [35] (fun t wc => t = .bool false ∧ ∃ rx ra, Tri w wc rx nilv ra (addL rs ⟨f, kd, key, val⟩) [] (addL rs ⟨f, kd, key, val⟩))
      case first =>
        have TD := T.behind ((Below.refl wr.heap.size wr).drew)
        go_region_held_law (fun w' => w'.cell? ⟨b, off + k * 4, none⟩ = some (.int .u32 f) ∧ w'.cell? ⟨b, off + k * 4 + 1, none⟩ = some (.int .i64 kd) ∧ w'.cell? ⟨b, off + k * 4 + 2, none⟩ = some (.string key) ∧ w'.cell? ⟨b, off + k * 4 + 3, none⟩ = some (.string val))
          (first
            | (go_keep; done)
            | (exact rkeepT (B := 0) T2 hb1 hr)
            | (exact rkeepT (B := 0) T1 hb1 hr))
          (first
            | (go_at_call_of 19 (Value.pointer (some ⟨w.heap.size, 0, none⟩)); refine (HA _ _ _ TD.x).mono ?_; rintro e w1 ⟨rx', rfl, g1, g2, g3⟩; have T1 := TD.onx g1 g2 g3; clear g1 g2 g3)
            | (go_at_call 19; refine (HA _ _ _ T1.a).mono ?_; rintro e w2 ⟨ra', rfl, g1, g2, g3⟩; have T2 := T1.ona g1 g2 g3; clear g1 g2 g3))
        go_wp2
        go_meet
        case rel => exact ⟨by simp, rx', ra', T2⟩
      case rest =>
        clear T c0 c1 c2 c3
        obtain ⟨rfl, rx', ra', T⟩ := hcut
        go_wp2
        go_roundw
        case rel => exact ⟨k + 1, rx', ra', by omega, by go_num, by rw [HT'.out]; exact T⟩
        case measure => simp [intOf]; omega
    · obtain rfl : k = la.length := by omega
      rw [List.take_length] at T hG
      generalize addAll [] la = X at *
      clear ha fa na
      go_wp2
      go_loopw [9] (fun i wr => ∃ (k : Nat) (rx ry ra : Value), k ≤ lb.length ∧ i = .int .i64 k ∧ Tri w wr rx ry ra X (addAll [] (lb.take k)) (X ++ addAll [] (lb.take k)) ∧ Good (X ++ addAll [] (lb.take k))) (fun i _ => lb.length - (intOf i).toNat)
      case atStart => exact ⟨0, _, _, _, Nat.zero_le _, rfl, by simpa [addAll] using T, by simpa [addAll] using hG⟩
      case round =>
        clear T
        obtain ⟨k, rx, ry, ra, hk, rfl, T, hGA⟩ := hrel
        have hGY := addAll_good Good.nil (lb.take k)
        by_cases hlt : k < lb.length
        · obtain ⟨b, off, cap, hv, hb1, hr⟩ := hb.at hlt
          cases hv
          obtain ⟨c0, c1, c2, c3⟩ := rkeepT (B := 0) T hb1 hr
          have HT := addAll_take [] lb k hlt
          have HF := fb _ (List.getElem_mem hlt)
          generalize lb[k] = r at *
          generalize addAll [] (lb.take k) = ys at *
          have HA := fun W b rv (h : Bt W b rv nilv ys []) => add_any h hGY r HF.1 HF.2
          have HB := fun W b rv (h : Bt W b rv nilv (X ++ ys) []) => add_any h hGA r HF.1 HF.2
          have hlk : (k : Int) < (lb.length : Int) := by omega
          have hk0 : (0 : Int) ≤ (k : Int) := by omega
          by_cases hE : addE ys r = 0
          · have hc := addE_chk hE
            have hL : addL ys r = ys ++ [plainR r] := by unfold addL; rw [if_pos hE]
            by_cases hE2 : addE (X ++ ys) r = 0
            · have hL2 : addL (X ++ ys) r = X ++ (ys ++ [plainR r]) := by unfold addL; rw [if_pos hE2, List.append_assoc]
              have hG2 := hGA.add r
              rw [hE, hL] at HA
              rw [hE2, hL2] at HB
              rw [hL2] at hG2
              rw [hL] at HT
              clear hE hE2 hL hL2
              obtain ⟨f, kd, key, val⟩ := r
              generalize plainR ⟨f, kd, key, val⟩ = pr at *
              dsimp only at *
              have HT' : Hid (addAll [] (lb.take (k + 1)) = ys ++ [pr]) := HT
              clear HT
              go_wp2_with (first
                | (go_at_call 19; refine (HB _ _ _ T1.a).mono ?_; rintro e w2 ⟨ra', rfl, g1, g2, g3⟩; have T2 := T1.ona g1 g2 g3; clear g1 g2 g3)
                | (go_at_call 19; refine (HA _ _ _ T.y).mono ?_; rintro e w1 ⟨ry', rfl, g1, g2, g3⟩; have T1 := T.ony g1 g2 g3; clear g1 g2 g3 c0 c1 c2 c3; obtain ⟨c0, c1, c2, c3⟩ := rkeepT (B := 0) T1 hb1 hr))
              go_roundw
              case rel => exact ⟨k + 1, _, _, _, by omega, by go_num, by rw [HT'.out]; exact T2, by rw [HT'.out]; exact hG2⟩
              case measure => simp [intOf]; omega
            · obtain ⟨q1, q2⟩ := addE_two hc hE2
              have hL2 : addL (X ++ ys) r = X ++ ys := by unfold addL; rw [if_neg hE2]
              obtain ⟨z1, z2, z3, z4⟩ := rchk_zero hc
              have HS := fun w => refSize_any r.fam r.kind r.key r.val w HF.1 HF.2 (by omega) (fun hh => by have := z2 hh; omega)
              have hgs := hGA.size
              have hgl := hGA.len
              rw [hE, hL] at HA
              rw [q1, hL2] at HB
              unfold rz at q2
              have hrs : rsz r.fam r.kind r.key r.val ≤ 300000 := by
                by_cases hk0 : r.kind = 0
                · have b1 := vs_bd r.fam
                  have b2 := vs_bd r.key.size
                  unfold rsz ts; rw [if_pos hk0]; omega
                · exact rsz_bd _ _ _ _ (by omega) (by have := z2 hk0; omega)
              clear hE hE2 hL hL2 q1 hc HT
              obtain ⟨f, kd, key, val⟩ := r
              generalize plainR ⟨f, kd, key, val⟩ = pr at *
              dsimp only at *
              generalize rsz f kd key val = R at *
              have hsz : ∀ W rv mv, Blk W (w.heap.size + 1 + 1) 43 (btC rv (szs (X ++ ys)) mv) → Calls Try.prog 21 #[ptr (w.heap.size + 1 + 1)] W fun e w' => e = .returned (.int .i64 (12 + (szs (X ++ ys) : Int))) ∧ w' = W := fun W rv mv hh => size_any hh (by omega)
              have HRC := fun W rv mv ms (hh : Bt W (w.heap.size + 1 + 1) rv mv (X ++ ys) ms) => records_any hh (by omega)
              generalize X ++ ys = Z at *
              have w1' : IntKind.i64.wrap ((Z.length : Int) + 1) = (Z.length : Int) + 1 := w64 _ (by omega) (by omega)
              by_cases hA : 4096 < (Z.length : Int) + 1
              · have d1 : decide (4096 < (Z.length : Int) + 1) = true := by simpa using hA
                clear q2
                go_wp2_with (first
                  | (go_at_call 19; refine (HB _ _ _ T1.a).mono ?_; rintro e w2 ⟨ra', rfl, g1, g2, g3⟩; have T2 := T1.ona g1 g2 g3; clear g1 g2 g3)
                  | (go_at_call 19; refine (HA _ _ _ T.y).mono ?_; rintro e w1 ⟨ry', rfl, g1, g2, g3⟩; have T1 := T.ony g1 g2 g3; clear g1 g2 g3 c0 c1 c2 c3; obtain ⟨c0, c1, c2, c3⟩ := rkeepT (B := 0) T1 hb1 hr))
                have TD := T2.behind ((Below.refl w2.heap.size w2).drew)
                clear T T1 T2 HA HB HS hsz c0 c1 c2 c3 hb
                first
                  | go_region_with ((go_at_call 20; refine (HRC _ _ _ _ TD.a).mono ?_; rintro e w3 ⟨v3, rfl, ho3, hb3, hn3⟩; obtain ⟨a3, cp3, rfl⟩ := (row_rd ho3).len; have T3 := TD.behind hb3))
                  | fail
                all_goals
                  go_wp2
                  go_ret
                  exact ⟨rfl, T3.bel⟩
              · have q3 : 4194304 < 12 + (szs Z : Int) + (R : Int) := by omega
                have w2' : IntKind.i64.wrap (12 + (szs Z : Int) + (R : Int)) = 12 + (szs Z : Int) + (R : Int) := w64 _ (by omega) (by omega)
                have d1 : decide (4096 < (Z.length : Int) + 1) = false := by simpa using hA
                have d2 : decide (4194304 < 12 + (szs Z : Int) + (R : Int)) = true := by simpa using q3
                clear q2
                go_wp2_with (first
                  | (go_at_call 19; refine (HB _ _ _ T1.a).mono ?_; rintro e w2 ⟨ra', rfl, g1, g2, g3⟩; have T2 := T1.ona g1 g2 g3; clear g1 g2 g3 c0 c1 c2 c3; obtain ⟨c0, c1, c2, c3⟩ := rkeepT (B := 0) T2 hb1 hr)
                  | (go_at_call 19; refine (HA _ _ _ T.y).mono ?_; rintro e w1 ⟨ry', rfl, g1, g2, g3⟩; have T1 := T.ony g1 g2 g3; clear g1 g2 g3 c0 c1 c2 c3; obtain ⟨c0, c1, c2, c3⟩ := rkeepT (B := 0) T1 hb1 hr))
                have TD := T2.behind ((Below.refl w2.heap.size w2).drew)
                go_region_held_law (fun w' => w'.cell? ⟨b, off + k * 4, none⟩ = some (.int .u32 f) ∧ w'.cell? ⟨b, off + k * 4 + 1, none⟩ = some (.int .i64 kd) ∧ w'.cell? ⟨b, off + k * 4 + 2, none⟩ = some (.string key) ∧ w'.cell? ⟨b, off + k * 4 + 3, none⟩ = some (.string val))
                  (first
                    | (go_keep; done)
                    | (exact rkeepT (B := 0) T4 hb1 hr)
                    | (exact rkeepT (B := 0) T3 hb1 hr))
                  (first
                    | (go_at_call 24; refine (HS _).mono ?_; rintro e w5 ⟨rfl, hb5⟩; have T4 := T3.behind hb5)
                    | (go_at_call 21; refine (hsz _ _ _ T3.a.blk).mono ?_; rintro e w4 ⟨rfl, rfl⟩)
                    | (go_at_call 20; refine (HRC _ _ _ _ TD.a).mono ?_; rintro e w3 ⟨v3, rfl, ho3, hb3, hn3⟩; obtain ⟨a3, cp3, rfl⟩ := (row_rd ho3).len; have T3 := TD.behind hb3))
                all_goals
                  go_wp2
                  go_ret
                  exact ⟨rfl, T4.bel⟩
          · have hL : addL ys r = ys := by unfold addL; rw [if_neg hE]
            rw [hL] at HA HT
            have tE : (addE ys r == 0) = false := by simpa using hE
            generalize addE ys r = E at *
            clear hE hL HB
            obtain ⟨f, kd, key, val⟩ := r
            dsimp only at *
            have HT' : Hid (addAll [] (lb.take (k + 1)) = ys) := HT
            clear HT
            go_wp2_with (go_at_call 19; refine (HA _ _ _ T.y).mono ?_; rintro e w1 ⟨ry', rfl, g1, g2, g3⟩; have T1 := T.ony g1 g2 g3; clear g1 g2 g3)
            go_roundw
            case rel => exact ⟨k + 1, _, _, _, by omega, by go_num, by rw [HT'.out]; exact T1, by rw [HT'.out]; exact hGA⟩
            case measure => simp [intOf]; omega
        · obtain rfl : k = lb.length := by omega
          rw [List.take_length] at T hGA hGY
          generalize addAll [] lb = ys at *
          have hA := append_any T.x T.y hG hGY
          have e1 : apE X ys = 0 := apE_good hGA
          have e2 : apL X ys = X ++ ys := by unfold apL; rw [if_pos e1]
          have hz := hGA.size
          have hz0 := hGA.len
          unfold ApPost at hA
          rw [e1, e2] at hA
          clear e1 e2
          go_wp2_with (first
            | (go_at_call 12; refine (lives_any _).mono ?_; rintro e w9 ⟨rfl, hb9⟩)
            | (go_at_call 21; refine (size_any T4.a.blk (by omega)).mono ?_; rintro e w8 ⟨rfl, rfl⟩; have T5 := T4)
            | (go_at_call 21; refine (size_any T3.x.blk (by omega)).mono ?_; rintro e w7 ⟨rfl, rfl⟩; have T4 := T3)
            | (go_at_call 14; refine (same_yes R3 R2 (by omega)).mono ?_; rintro e w6 ⟨rfl, hb6⟩; have T3 := T2.behind hb6)
            | (go_at_call 20; refine (records_any T1.a (by omega)).mono ?_; rintro e w5 ⟨v5, rfl, ho5, hb5, hn5⟩; have R2 := row_rd ho5; have R3 := R1.below hb5; have T2 := T1.behind hb5)
            | (go_at_call 20; refine (records_any T0.x (by omega)).mono ?_; rintro e w4 ⟨v4, rfl, ho4, hb4, hn4⟩; have R1 := row_rd ho4; have T1 := T0.behind hb4)
            | (go_at_call 25; refine hA.mono ?_; rintro e w3 ⟨rx', rfl, g1, g2, g3⟩; have T0 := T.onx g1 g2 g3; clear g1 g2 g3))
          go_ret
          exact ⟨rfl, bstep T5.bel hb9⟩
end Go.Proofs.Ytkpijoogaicodaa
