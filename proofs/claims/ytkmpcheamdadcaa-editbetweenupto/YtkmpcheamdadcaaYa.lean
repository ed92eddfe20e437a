/-
  The reference's Can.
-/
import Derived.Test.YtkmpcheamdadcaaZc
namespace Go.Proofs.Ytkmpcheamdadcaa
open Go.RowKit
set_option linter.unusedVariables false
set_option linter.unusedSimpArgs false
set_option maxRecDepth 100000 in
set_option maxHeartbeats 2000000 in
theorem rcan_any {w : World} {P : En} {e : Ed} (h : RdEd w P e) : Calls Try.prog 36 #[.agg (edA P e)] w fun en w' => en = .returned (.int .i64 (canE e)) ∧ Below w.heap.size w w' := by
  have HE : Hid (RdEd w P e) := h
  have hgl := h.gl
  have hal := h.al
  obtain ⟨RES, hRES⟩ : ∃ RES, Hid (canE e = RES) := ⟨_, rfl⟩
  rw [hRES.out]
  clear h
  obtain ⟨fam, ma, dr, name, how, hl, hn, hs, log, next, seq, gone, added⟩ := e
  dsimp only at hgl hal ⊢
  obtain ⟨ga, gc, aa, ac⟩ := P
  show Calls Try.prog 36 #[.agg #[.int .u32 fam, .bool ma, .bool dr, .string name, .int .i64 how, .bool hl, .bool hn, .bool hs, .int .u64 log, .int .u64 next, .int .u64 seq, .slice ga gone.length gc, .slice aa added.length ac]] w _
  obtain ⟨G, hG⟩ : ∃ G, Hid (gone.length = G) := ⟨_, rfl⟩
  obtain ⟨A, hA⟩ : ∃ A, Hid (added.length = A) := ⟨_, rfl⟩
  rw [hG.out] at hgl ⊢
  rw [hA.out] at hal ⊢
  have HRg : Hid (RdG w ga gone) := HE.out.g
  have HRa : Hid (RdA w aa added) := HE.out.a
  have hR0 : Hid (RES = if (ma && dr) = true then 1 else if ma = true ∧ makE name how ≠ 0 then makE name how else if 1024 < G + A then 2 else if gonE gone ≠ 0 then gonE gone else addE added) := by
    show _ = _
    rw [← hRES.out, ← hG.out, ← hA.out]; rfl
  clear hRES HE
  have hB0 : Below w.heap.size w (w.alloc (.cells #[.int .u32 fam, .bool ma, .bool dr, .string name, .int .i64 how, .bool hl, .bool hn, .bool hs, .int .u64 log, .int .u64 next, .int .u64 seq, .slice ga G gc, .slice aa A ac] 27)) := al1 _ _
  by_cases hmd : (ma && dr) = true
  · have e1 : Hid (RES = 1) := by show _ = _; rw [hR0.out, if_pos hmd]
    have hma : ma = true := by cases ma <;> simp at hmd ⊢
    have hdr : dr = true := by cases dr <;> simp [hma] at hmd ⊢
    subst hma hdr
    clear hR0 hmd
    go_enter Try.func36, Try.ntmps36
    go_wp2
    go_ret
    exact ⟨ret_ii e1.out.symm, al1 _ _⟩
  · by_cases hm : ma = true ∧ makE name how ≠ 0
    · have e1 : Hid (RES = makE name how) := by show _ = _; rw [hR0.out, if_neg hmd, if_pos hm]
      obtain ⟨rfl, hM⟩ := hm
      have hdr : dr = false := by cases dr <;> simp at hmd ⊢
      subst hdr
      clear hR0 hmd
      by_cases h1 : 64 < name.size
      · have hz : (64 : Int) < (name.size : Int) := by omega
        have e2 : Hid (RES = 2) := by show _ = _; rw [e1.out]; unfold makE; rw [if_pos h1]
        clear e1 hM h1
        go_enter Try.func36, Try.ntmps36
        go_wp2
        go_ret
        exact ⟨ret_ii e2.out.symm, al1 _ _⟩
      · have hz : ¬ (64 : Int) < (name.size : Int) := by omega
        by_cases h2 : name.size = 0
        · have hz2 : ((name.size : Int) == 0) = true := by simp [h2]
          have e2 : Hid (RES = 1) := by show _ = _; rw [e1.out]; unfold makE; rw [if_neg h1, if_pos h2]
          clear e1 hM h1 h2
          go_enter Try.func36, Try.ntmps36
          go_wp2
          go_ret
          exact ⟨ret_ii e2.out.symm, al1 _ _⟩
        · have hz2 : ((name.size : Int) == 0) = false := by simp [h2]
          have hh : isHowB how = false := by
            unfold makE at hM
            rw [if_neg h1, if_neg h2] at hM
            cases hq : isHowB how
            · rfl
            · rw [hq] at hM; simp at hM
          have e2 : Hid (RES = 1) := by show _ = _; rw [e1.out]; unfold makE; rw [if_neg h1, if_neg h2, hh]; rfl
          clear e1 hM h1 h2
          go_enter Try.func36, Try.ntmps36
          go_wp2_with (go_at_call 58; refine (rhow_any _ _).mono ?_; rintro e w1 ⟨rfl, rfl⟩; rw [hh])
          go_ret
          exact ⟨ret_ii e2.out.symm, al1 _ _⟩
    · have hR1 : Hid (RES = if 1024 < G + A then 2 else if gonE gone ≠ 0 then gonE gone else addE added) := by show _ = _; rw [hR0.out, if_neg hmd, if_neg hm]
      clear hR0
      have hw : ma = false ∨ (ma = true ∧ dr = false ∧ ¬ (64 : Int) < (name.size : Int) ∧ ((name.size : Int) == 0) = false ∧ isHowB how = true) := by
        cases ma with
        | false => exact .inl rfl
        | true =>
          have hM : makE name how = 0 := by
            by_cases hz : makE name how = 0
            · exact hz
            · exact absurd ⟨rfl, hz⟩ hm
          unfold makE at hM
          refine .inr ⟨rfl, by cases dr <;> simp at hmd ⊢, ?_⟩
          split at hM
          · cases hM
          · next h1 =>
            split at hM
            · cases hM
            · next h2 =>
              split at hM
              · next h3 => exact ⟨by omega, by simp [h2], h3⟩
              · cases hM
      by_cases hc : 1024 < G + A
      · have e1 : Hid (RES = 2) := by show _ = _; rw [hR1.out, if_pos hc]
        have hcz : (1024 : Int) < (G : Int) + (A : Int) := by omega
        clear hR1 hm hmd hc
        rcases hw with rfl | ⟨rfl, rfl, hz, hz2, hh⟩
        · go_enter Try.func36, Try.ntmps36
          go_wp2
          go_ret
          exact ⟨ret_ii e1.out.symm, al1 _ _⟩
        · go_enter Try.func36, Try.ntmps36
          go_wp2_with (go_at_call 58; refine (rhow_any _ _).mono ?_; rintro e w1 ⟨rfl, rfl⟩; rw [hh])
          go_ret
          exact ⟨ret_ii e1.out.symm, al1 _ _⟩
      · have e1 : Hid (RES = if gonE gone ≠ 0 then gonE gone else addE added) := by show _ = _; rw [hR1.out, if_neg hc]
        have hcz : (G : Int) + (A : Int) ≤ 1024 := by omega
        have HB0 : Hid (Below w.heap.size w (w.alloc (.cells #[.int .u32 fam, .bool ma, .bool dr, .string name, .int .i64 how, .bool hl, .bool hn, .bool hs, .int .u64 log, .int .u64 next, .int .u64 seq, .slice ga G gc, .slice aa A ac] 27))) := al1 _ _
        have HK : Hid (∀ W, Below (w.alloc (.cells #[.int .u32 fam, .bool ma, .bool dr, .string name, .int .i64 how, .bool hl, .bool hn, .bool hs, .int .u64 log, .int .u64 next, .int .u64 seq, .slice ga G gc, .slice aa A ac] 27)).heap.size (w.alloc (.cells #[.int .u32 fam, .bool ma, .bool dr, .string name, .int .i64 how, .bool hl, .bool hn, .bool hs, .int .u64 log, .int .u64 next, .int .u64 seq, .slice ga G gc, .slice aa A ac] 27)) W → W.cell? ⟨w.heap.size, 11, none⟩ = some (.slice ga G gc) ∧ W.cell? ⟨w.heap.size, 12, none⟩ = some (.slice aa A ac)) := fun W hb => by
          have B := (Blk.new w 27 [.int .u32 fam, .bool ma, .bool dr, .string name, .int .i64 how, .bool hl, .bool hn, .bool hs, .int .u64 log, .int .u64 next, .int .u64 seq, .slice ga G gc, .slice aa A ac]).upd (S := Non) (Upd.ofBelow hb) (fun h => h)
          exact ⟨B.cell1 11 _ rfl, B.cell1 12 _ rfl⟩
        clear hR1 hm hmd hc hB0
        rcases hw with rfl | ⟨rfl, rfl, hz, hz2, hh⟩
        all_goals
          go_enter Try.func36, Try.ntmps36
          go_wp2_with (go_at_call 58; refine (rhow_any _ _).mono ?_; rintro e w1 ⟨rfl, rfl⟩; rw [hh])
          generalize HW : w.alloc (.cells #[.int .u32 fam, .bool _, .bool _, .string name, .int .i64 how, .bool hl, .bool hn, .bool hs, .int .u64 log, .int .u64 next, .int .u64 seq, .slice ga G gc, .slice aa A ac] 27) = W1 at *
          clear HW
          go_loopw [3] (fun i wr => ∃ k : Nat, k ≤ G ∧ i = .int .i64 k ∧ Hid (gonC RES (gone.drop k) added) ∧ Hid (Below W1.heap.size W1 wr)) (fun i _ => (G : Int).toNat - (intOf i).toNat)
          case atStart => exact ⟨0, Nat.zero_le _, rfl, e1.out, Below.refl _ _⟩
          case round =>
            clear e1
            obtain ⟨k, hk, rfl, HC, HB⟩ := hrel
            have HBw : Hid (Below w.heap.size w wr) := bstep HB0.out HB.out
            obtain ⟨k11, k12⟩ := HK.out wr HB.out
            have hlw := cell_lt k12
            by_cases hlt : k < G
            · have hkz : (k : Int) < (G : Int) := by omega
              obtain ⟨x, hx⟩ : ∃ x, gone[k]? = some x := ⟨_, List.getElem?_eq_getElem (by rw [hG.out]; exact hlt)⟩
              obtain ⟨g, o, e', hat⟩ := (HRg.out.below HBw.out).at_ hx
              obtain ⟨y0, y1⟩ := hat.g
              have HC' : Hid (gonC RES (x :: gone.drop (k + 1)) added) := by
                show gonC _ _ _
                rw [← drop_get hx]; exact HC.out
              subst e'
              clear hx hat HC
              cases hv : isLvB x.lv
              · have e1 : Hid (RES = 1) := by
                  have := HC'.out
                  unfold gonC gonE at this
                  rw [hv] at this
                  exact this
                clear HC'
                have hv' : x.lv < 0 ∨ (¬ x.lv < 0 ∧ (7 : Int) ≤ x.lv) := by
                  simp only [isLvB, Bool.and_eq_false_iff, decide_eq_false_iff_not] at hv
                  omega
                clear hv
                rcases hv' with hv | ⟨hv, hv7⟩
                all_goals
                  go_wp2
                  go_ret
                  exact ⟨ret_ii e1.out.symm, HBw.out⟩
              · have HN : Hid (gonC RES (gone.drop (k + 1)) added) := by
                  have := HC'.out
                  unfold gonC at this ⊢
                  rw [show gonE (x :: gone.drop (k + 1)) = gonE (gone.drop (k + 1)) by simp [gonE, hv]] at this
                  exact this
                clear HC'
                have hv' : ¬ x.lv < 0 ∧ ¬ (7 : Int) ≤ x.lv := by
                  simp only [isLvB, Bool.and_eq_true, decide_eq_true_eq] at hv
                  omega
                clear hv
                obtain ⟨hv, hv7⟩ := hv'
                go_wp2
                go_roundw
                case rel => exact ⟨k + 1, by omega, by go_num, HN.out, HB.out⟩
                case measure => simp [intOf]; omega
            · obtain rfl : k = G := by omega
              have hz : ¬ ((k : Int) < k) := by omega
              have HD : Hid (addC RES added) := by
                have := HC.out
                rw [List.drop_of_length_le (by rw [hG.out]; exact Nat.le_refl _)] at this
                exact this
              obtain ⟨W0, rfl⟩ : ∃ W0, W0 = wr := ⟨_, rfl⟩
              clear HC
              go_wp2
              clear hz k12 hlw k11
              go_loopw [4] (fun i wr => ∃ q : Nat, q ≤ A ∧ i = .int .i64 q ∧ Hid (addC RES (added.drop q)) ∧ Hid (Below W1.heap.size W1 wr)) (fun i _ => (A : Int).toNat - (intOf i).toNat)
              case atStart => exact ⟨0, Nat.zero_le _, rfl, HD.out, HB.out⟩
              case round =>
                clear HD HB HBw
                obtain ⟨q, hq, rfl, HC, HB⟩ := hrel
                have HBw : Hid (Below w.heap.size w wr) := bstep HB0.out HB.out
                obtain ⟨k11, k12⟩ := HK.out wr HB.out
                have hlw := cell_lt k12
                by_cases hlt : q < A
                · have hqz : (q : Int) < (A : Int) := by omega
                  obtain ⟨x, hx⟩ : ∃ x, added[q]? = some x := ⟨_, List.getElem?_eq_getElem (by rw [hA.out]; exact hlt)⟩
                  obtain ⟨g, o, e', hat⟩ := (HRa.out.below HBw.out).at_ hx
                  obtain ⟨y0, y1, y2, y3, y4, y5, y6, y7, y8, y9, y10⟩ := hat.a
                  have HC' : Hid (addC RES (x :: added.drop (q + 1))) := by
                    show addC _ _
                    rw [← drop_get hx]; exact HC.out
                  subst e'
                  clear hx hat HC
                  cases hv : isLvB x.lv
                  · have e1 : Hid (RES = 1) := by
                      have := HC'.out
                      unfold addC addE at this
                      rw [hv] at this
                      exact this
                    clear HC'
                    have hv' : x.lv < 0 ∨ (¬ x.lv < 0 ∧ (7 : Int) ≤ x.lv) := by
                      simp only [isLvB, Bool.and_eq_false_iff, decide_eq_false_iff_not] at hv
                      omega
                    clear hv
                    rcases hv' with hv | ⟨hv, hv7⟩
                    all_goals
                      go_wp2
                      go_ret
                      exact ⟨ret_ii e1.out.symm, HBw.out⟩
                  · have hv' : ¬ x.lv < 0 ∧ ¬ (7 : Int) ≤ x.lv := by
                      have := hv
                      simp only [isLvB, Bool.and_eq_true, decide_eq_true_eq] at this
                      omega
                    obtain ⟨hvz, hv7⟩ := hv'
                    by_cases hf : fchk x.f = 0
                    · have hf' : (fchk x.f != 0) = false := by simp [hf]
                      have HN : Hid (addC RES (added.drop (q + 1))) := by
                        have := HC'.out
                        unfold addC at this ⊢
                        rw [show addE (x :: added.drop (q + 1)) = addE (added.drop (q + 1)) by conv => lhs; unfold addE; rw [hv, if_pos rfl, if_neg (by simp [hf])]] at this
                        exact this
                      clear HC' hv
                      go_wp2_with (go_at_call 59; refine (rfile_any x.f _).mono ?_; rintro e w3 ⟨rfl, hb3⟩)
                      go_roundw
                      case rel => exact ⟨q + 1, by omega, by go_num, HN.out, bstep HB.out hb3⟩
                      case measure => simp [intOf]; omega
                    · have hf' : (fchk x.f != 0) = true := by simp [hf]
                      have e1 : Hid (RES = fchk x.f) := by
                        have := HC'.out
                        unfold addC addE at this
                        rw [hv, if_pos rfl, if_pos hf] at this
                        exact this
                      clear HC' hv
                      go_wp2_with (go_at_call 59; refine (rfile_any x.f _).mono ?_; rintro e w3 ⟨rfl, hb3⟩)
                      go_ret
                      exact ⟨ret_ii e1.out.symm, bstep HBw.out hb3⟩
                · obtain rfl : q = A := by omega
                  have hz : ¬ ((q : Int) < q) := by omega
                  have e1 : Hid (RES = 0) := by
                    have := HC.out
                    rw [List.drop_of_length_le (by rw [hA.out]; exact Nat.le_refl _)] at this
                    exact this
                  go_wp2
                  go_ret
                  exact ⟨ret_ii e1.out.symm, HBw.out⟩
end Go.Proofs.Ytkmpcheamdadcaa
