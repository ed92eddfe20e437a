import Derived.Test.YtjnlolibfcpbkaaDoorL
namespace Go.Proofs.YtjnlolibfcpbkaaDoor
open Go.RowKit Go.Maps
set_option linter.unusedVariables false
set_option linter.unusedSimpArgs false
/-- Where the reference stands, beside the reader. -/
def Beside (b : List Int) (rc : Bool) (log : Int) (s : St) (m : Nat) : Prop := s.at_ ≤ m ∧ (m = s.at_ ∨ (hd rc ≤ lft m ∧ stepM b rc log s = restM b rc log { s with at_ := m }))
theorem Beside.rest {b : List Int} {rc : Bool} {log : Int} {s : St} {m : Nat} (h : Beside b rc log s m) (hm : m ≤ b.length) (hl : hd rc ≤ lft m) : stepM b rc log s = restM b rc log { s with at_ := m } := by
  rcases h.2 with rfl | ⟨_, e⟩
  · have ht : tl rc s.at_ = 0 := by unfold tl; rw [if_neg (by omega)]
    unfold stepM
    rw [ht, if_neg (by omega)]
    rfl
  · exact e
theorem Beside.skip {b : List Int} {rc : Bool} {log : Int} {s : St} {m : Nat} (h : Beside b rc log s m) (hl : lft m < hd rc) : m = s.at_ ∧ tl rc s.at_ = lft m := by
  rcases h.2 with rfl | ⟨h9, _⟩
  · exact ⟨rfl, by unfold tl; rw [if_pos hl]⟩
  · omega
theorem Beside.next {b : List Int} {rc : Bool} {log : Int} {s : St} {m : Nat} (h : Beside b rc log s m) (hl : lft m < hd rc) (hm : m + lft m ≤ b.length) : Beside b rc log s (m + lft m) := by
  obtain ⟨rfl, ht⟩ := h.skip hl
  refine ⟨by omega, .inr ⟨by rw [lft_next]; have := hd_bd rc; omega, ?_⟩⟩
  unfold stepM
  rw [ht, if_neg (by omega)]
theorem Beside.quiet {b : List Int} {rc : Bool} {log : Int} {s : St} {m : Nat} (h : Beside b rc log s m) (hl : lft m < hd rc) (hz : zer (b.drop m) = true) : stepM b rc log s = .error (qt s.op) := by
  obtain ⟨rfl, ht⟩ := h.skip hl
  unfold stepM
  rw [if_neg (fun hn => by rw [hz] at hn; cases hn.2)]
  unfold restM
  rw [if_pos (zer_mono hz (by show s.at_ ≤ s.at_ + _; omega))]
theorem Beside.torn {b : List Int} {rc : Bool} {log : Int} {s : St} {m : Nat} (h : Beside b rc log s m) (hl : lft m < hd rc) (hz : zer (b.drop m) = false) (hm : b.length < m + lft m) : stepM b rc log s = .error 1 := by
  obtain ⟨rfl, ht⟩ := h.skip hl
  unfold stepM
  rw [ht, if_pos ⟨hm, hz⟩]
set_option maxRecDepth 100000 in
set_option maxHeartbeats 8000000 in
theorem rread_any {w : World} {ba : Option Addr} {blen bcap : Nat} {b : List Int} (hb : Arg w ba blen bcap b) (hcap : blen ≤ bcap) (log : Int) :
    Calls Tryd.prog 5 #[.slice ba blen bcap, .int .u32 log] w fun e w' => ∃ (lv : Value) (how : Int) (en : Nat) (recs : List (List Int)), e = .returned (.tuple #[lv, .int .i64 how, .int .i64 en]) ∧ Res b log recs how en ∧ RdLL w' lv recs ∧ Below w.heap.size w w' := by
  have hble := hb.1
  have hbm := hb.2.2.1
  by_cases hbig : 1073741824 < blen
  · have hbig' : (1073741824 : Int) < (blen : Int) := by omega
    go_enter Tryd.func5, Tryd.ntmps5
    go_wp2
    go_ret3
    exact ⟨_, 3, 0, [], rfl, .inl ⟨by omega, rfl, rfl, rfl⟩, ⟨none, 0, rfl, fun i l h => by simp at h⟩, Below.refl _ _⟩
  · have hbig' : (blen : Int) ≤ 1073741824 := by omega
    have HR := rrecycled_any ba blen bcap b w hb
    obtain ⟨rc, hrc⟩ : ∃ rc, rc = rcy b := ⟨_, rfl⟩
    rw [← hrc] at HR
    have hrc' : Hid _ := hrc
    clear hrc
    have hbl : blen ≤ 1073741824 := by omega
    have hH := hd_bd rc
    have HHd := fun W => rhead_any rc W
    obtain ⟨Bd, hBd⟩ : ∃ Bd, Bd = bd rc := ⟨_, rfl⟩
    have hBd' : Hid _ := hBd
    clear hBd
    go_enter Tryd.func5, Tryd.ntmps5
    go_upto_if 27 with (first
      | (go_at_call 14; refine HR.mono ?_; rintro e w1 ⟨rfl, hw⟩; have hw2 := hw.symm; subst hw2)
      | (go_at_call 15; refine (HHd _).mono ?_; rintro e w2 ⟨rfl, hw⟩; have hw2 := hw.symm; subst hw2))
    go_cut [10] (fun a wd => a = .int .i64 Bd ∧ wd = w.alloc (.cells #[] 22))
    case first =>
      cases rc
      · go_wp2
        go_meet
        exact ⟨by rw [hBd'.out]; rfl, rfl⟩
      · go_wp2
        go_meet
        exact ⟨by rw [hBd'.out]; rfl, rfl⟩
    case rest =>
      obtain ⟨rfl, rfl⟩ := hcut
      clear HR HHd
      have R0 : Rq ((w.alloc (.cells #[] 22)).alloc (.cells #[] 5)) w.heap.size St0 (.slice (some ⟨w.heap.size + 1, 0, none⟩) 0 0) (.slice (some ⟨w.heap.size, 0, none⟩) 0 0) [] := by
        have h5 := (own_empty (w.alloc (.cells #[] 22))).mono (base' := w.heap.size) (by simp)
        rw [World.size_alloc] at h5
        refine ⟨h5, (World.ownsRow_lit w #[] 0 (Nat.le_refl _) (by unfold maxLen; omega) rfl).alloc _, fun i l h => by simp [St0] at h, ?_, by simp; omega, fun c hc => by cases hc⟩
        intro k hk e
        have e1 : w.heap.size = k := Option.some.inj hk
        have e2 : w.heap.size + 1 = k := Option.some.inj e
        omega
      have B0 : Below w.heap.size w ((w.alloc (.cells #[] 22)).alloc (.cells #[] 5)) := ((Below.refl _ w).alloc (Nat.le_refl _) _).alloc (by simp) _
      go_wp2
      go_loopw [8, 11, 12, 13, 14] (fun l at_ pl wi nw wr => ∃ (s : St) (m : Nat) (svs : List Value), at_ = .int .i64 (m : Nat) ∧ pl = .int .i64 (s.en : Nat) ∧ wi = .bool s.op ∧ Rq wr w.heap.size s nw l svs ∧ Below w.heap.size w wr ∧ Reach b rc log s ∧ Beside b rc log s m ∧ m ≤ blen ∧ Sm s) (fun _ at_ _ _ _ _ => blen - (intOf at_).toNat)
      case atStart => exact ⟨St0, 0, [], rfl, rfl, rfl, R0, B0, Reach.zero _ _ _, ⟨Nat.le_refl _, .inl rfl⟩, Nat.zero_le _, Nat.le_refl _, Nat.le_refl _, Nat.le_refl _⟩
      case round =>
        clear R0 B0
        obtain ⟨s, m, svs, rfl, rfl, rfl, R, BW, hre, hbe, hmb, hsm⟩ := hrel
        obtain ⟨W, rfl⟩ : ∃ W, W = wr := ⟨_, rfl⟩
        have hbW := hb.below BW
        have hx : Hid (Reach b rc log s ∧ Beside b rc log s m ∧ Sm s) := ⟨hre, hbe, hsm⟩
        clear hre hbe hsm
        have hlf := lft_bd m
        have h0 : (0 : Int) ≤ (m : Int) := by omega
        have hlm : (4096 : Int) - (m : Int) % 4096 = ((lft m : Nat) : Int) := by unfold lft; omega
        have CL : ∀ W, (Instr.sliceAt 22 (.slice ba blen bcap) (some (.int .i64 (m : Nat))) none none).run Tryd.prog W = .ok (.slice (cutA ba bcap m) (blen - m) (bcap - m)) W := fun W => bcut_lo2 ba blen bcap m hmb W
        have hAc := hbW.lo hmb hcap
        have HN := noughts_any _ _ _ _ W hAc
        have hdf : (blen : Int) - (m : Int) = ((blen - m : Nat) : Int) := by omega
        by_cases hl : lft m < hd rc
        · have hl' : ((lft m : Nat) : Int) < ((hd rc : Nat) : Int) := by omega
          by_cases h1 : blen - m ≤ lft m
          · have h1' : ((blen - m : Nat) : Int) ≤ ((lft m : Nat) : Int) := by omega
            by_cases hz : zer (b.drop m) = true
            · have hz2 : (b.drop m).all (· == 0) = true := hz
              rw [hz2] at HN
              have E := hx.out.2.1.quiet hl hz
              have E' : Hid _ := E
              clear E hz hz2
              have HE := rend_any s.op W
              go_wp2_with (first
                | (go_at_call 16; refine HN.mono ?_; rintro e w5 ⟨rfl, hw⟩; have hw2 := hw.symm; subst hw2)
                | (go_at_call 17; refine HE.mono ?_; rintro e w5 ⟨rfl, hw⟩; have hw2 := hw.symm; subst hw2))
              go_ret3
              exact ⟨_, _, s.en, s.recs, rfl, .inr ⟨by omega, s, by rw [← hrc'.out]; exact hx.out.1, by rw [← hrc'.out]; exact E'.out, rfl, rfl⟩, R.rdll, BW⟩
            · have hz3 : zer (b.drop m) = false := by cases h9 : zer (b.drop m) <;> simp_all
              have hz2 : (b.drop m).all (· == 0) = false := hz3
              rw [hz2] at HN
              by_cases h2 : blen - m < lft m
              · have h2' : ((blen - m : Nat) : Int) < ((lft m : Nat) : Int) := by omega
                have E := hx.out.2.1.torn hl hz3 (by omega)
                have E' : Hid _ := E
                clear E hz hz2 hz3
                go_wp2_with (first
                  | (go_at_call 16; refine HN.mono ?_; rintro e w5 ⟨rfl, hw⟩; have hw2 := hw.symm; subst hw2))
                go_ret3
                exact ⟨_, _, s.en, s.recs, rfl, .inr ⟨by omega, s, by rw [← hrc'.out]; exact hx.out.1, by rw [← hrc'.out]; exact E'.out, rfl, rfl⟩, R.rdll, BW⟩
              · have h2' : ((lft m : Nat) : Int) ≤ ((blen - m : Nat) : Int) := by omega
                clear hz hz2 hz3
                go_wp2_with (first
                  | (go_at_call 16; refine HN.mono ?_; rintro e w5 ⟨rfl, hw⟩; have hw2 := hw.symm; subst hw2))
                go_roundw
                case rel => exact ⟨s, m + lft m, svs, by go_num, rfl, rfl, R, BW, hx.out.1, hx.out.2.1.next hl (by omega), by omega, hx.out.2.2⟩
                case measure => simp [intOf]; omega
          · have h1' : ((lft m : Nat) : Int) < ((blen - m : Nat) : Int) := by omega
            go_wp2
            go_roundw
            case rel => exact ⟨s, m + lft m, svs, by go_num, rfl, rfl, R, BW, hx.out.1, hx.out.2.1.next hl (by omega), by omega, hx.out.2.2⟩
            case measure => simp [intOf]; omega
        · have hl' : ((hd rc : Nat) : Int) ≤ ((lft m : Nat) : Int) := by omega
          have hrest := hx.out.2.1.rest (by omega) (by omega)
          have FR := rfrag_any (b := b) (rc := rc) (log := log) (s := { s with at_ := m }) hAc (by omega) (by show m ≤ _; omega)
          rw [← hBd'.out] at FR
          clear HN
          cases hq : restM b rc log { s with at_ := m } with
          | error c =>
            unfold FragPost at FR
            rw [hq] at FR
            have E : Hid _ := (hrest.trans hq)
            have FE : Calls Tryd.prog 18 #[.slice (cutA ba bcap m) (blen - m) (bcap - m), .int .i64 (lft m : Nat), .int .i64 (hd rc : Nat), .int .u32 log, .bool rc, .bool s.op, .int .i64 Bd] W fun e w' => e = .returned (.tuple #[.int .i64 0, .slice none 0 0, .int .i64 c]) ∧ Below W.heap.size W w' := FR.mono (by
              rintro e w' ⟨hB, ⟨c', e1, e2⟩ | ⟨k, ra, n, cp, f, e1, e2, _⟩⟩
              · cases e2; exact ⟨e1, hB⟩
              · cases e2)
            clear FR hq hrest
            by_cases hc : c = 0
            · subst hc
              go_wp2_with (go_at_call 18; refine FE.mono ?_; rintro e w5 ⟨rfl, hB5⟩)
              go_ret3
              exact ⟨_, _, s.en, s.recs, rfl, .inr ⟨by omega, s, by rw [← hrc'.out]; exact hx.out.1, by rw [← hrc'.out]; exact E.out, rfl, rfl⟩, (R.below hB5).rdll, BW.trans (hB5.mono BW.size)⟩
            · have hc' : (c == 0) = false := by simpa using hc
              go_wp2_with (go_at_call 18; refine FE.mono ?_; rintro e w5 ⟨rfl, hB5⟩)
              go_ret3
              exact ⟨_, _, s.en, s.recs, rfl, .inr ⟨by omega, s, by rw [← hrc'.out]; exact hx.out.1, by rw [← hrc'.out]; exact E.out, rfl, rfl⟩, (R.below hB5).rdll, BW.trans (hB5.mono BW.size)⟩
          | ok s' =>
            unfold FragPost at FR
            rw [hq] at FR
            have E : Hid _ := (hrest.trans hq)
            have hsm' : Sm s' := restM_sz hq ⟨Nat.le_trans hx.out.2.2.1 hx.out.2.1.1, Nat.le_trans hx.out.2.2.2.1 hx.out.2.1.1, Nat.le_trans hx.out.2.2.2.2 hx.out.2.1.1⟩
            have hat' := stepM_at (hrest.trans hq)
            have FE : Calls Tryd.prog 18 #[.slice (cutA ba bcap m) (blen - m) (bcap - m), .int .i64 (lft m : Nat), .int .i64 (hd rc : Nat), .int .u32 log, .bool rc, .bool s.op, .int .i64 Bd] W fun e w' => ∃ (k : Int) (ra : Option Addr) (n cp : Nat) (f : List Int), e = .returned (.tuple #[.int .i64 k, .slice ra n cp, .int .i64 0]) ∧ s' = takeM rc { s with at_ := m } k f ∧ Arg w' ra n cp (f.drop (hd rc)) ∧ f.length = hd rc + n ∧ 1 ≤ k ∧ k ≤ 4 ∧ Below W.heap.size W w' := FR.mono (by
              rintro e w' ⟨hB, ⟨c', e1, e2⟩ | ⟨k, ra, n, cp, f, e1, e2, e3, e4, e5, e6⟩⟩
              · cases e2
              · exact ⟨k, ra, n, cp, f, e1, by injection e2, e3, e4, e5, e6, hB⟩)
            have hsm' : Hid _ := hsm'
            have hat' : Hid _ := hat'
            have hnow : s.now.length ≤ 1073741824 := by have h1 := hx.out.2.2.1; have h2 := hx.out.2.1.1; omega
            have hrecs : s.recs.length ≤ 1073741824 := by have h1 := hx.out.2.2.2.1; have h2 := hx.out.2.1.1; omega
            clear FR hq hrest
            go_upto_region 19 with (go_at_call 18; refine FE.mono ?_; rintro e w5 ⟨k, ra, n, cp, f, rfl, hst, hA5, hfl, hk1, hk4, hB5⟩; have hk0 : (k == 0) = false := beq_eq_false_iff_ne.2 (by omega))
            have R5 := R.below hB5
            have B5 : Below w.heap.size w w5 := BW.trans (hB5.mono BW.size)
            obtain ⟨i0, hi, hz0, hz1, hz2⟩ := info_parts info5
            have hst' : Hid _ := hst
            have hfl' : Hid _ := hfl
            have hn9 : (f.drop (hd rc)).length = n := by rw [List.length_drop]; omega
            have hnn : n ≤ 140737488351232 := hA5.2.2.1
            have hmm : m + (hd rc + n) ≤ blen := by
              have h1 := hat'.out.2
              rw [hst, takeM_at] at h1
              have h2 : m + f.length ≤ b.length := h1
              omega
            have hll : Hid (s.now.length + (f.drop (hd rc)).length ≤ 140737488355328) := by show _ ≤ _; rw [hn9]; omega
            have hby4 : Hid (Byt (s.now ++ f.drop (hd rc))) := fun c hc => (List.mem_append.1 hc).elim (R5.byt c) (fun hc => hA5.2.1 c hc)
            have hlen4 : Hid ((s.now ++ f.drop (hd rc)).length ≤ 140737488351232) := by show _ ≤ _; rw [List.length_append, hn9]; omega
            clear hst hfl hn9 R
            have hkk : k = 1 ∨ k = 2 ∨ k = 3 ∨ k = 4 := by omega
            clear hk1 hk4 hk0
            rcases hkk with rfl | rfl | rfl | rfl
            · go_wp2_with (first
              | (at_builtin
                 refine push1 rfl _ _ 24 22 (.slice none 0 0) Tryd.underlying24 info22 rfl rfl rfl rfl (.slice a4 n4 c4) rfl hrow4 hcell4 (by show s.recs.length ≤ _; omega) (by simp; have := P4.1.siz; omega) ?_
                 intro av cv w6 ho6 hg6 hat6
                 have P6 := P4.1.push (a' := m + f.length) (en' := m + f.length) (o' := false) hlen4.out ho6 hg6 hat6)
              | (at_builtin
                 refine OwnB.wpList_append rfl _ _ 22 22 rfl rfl (base := w.heap.size) (l := s.now) R5.own i0 Tryd.underlying22 hi hz0 hz1 hz2 _ rfl (f.drop (hd rc)) hA5.src R5.siz hll.out ?_
                 intro v4 w4 ho4 hg4 hat4
                 have P4 := R5.put ho4 hby4.out hg4 hat4
                 obtain ⟨a4, n4, c4, rfl⟩ := ho4.slc
                 have hrow4 := P4.1.row.alloc (.cells #[.slice a4 n4 c4] 22)
                 have hcell4 : (w4.alloc (.cells #[.slice a4 n4 c4] 22)).cell? ⟨w4.heap.size, 0, none⟩ = some (.slice a4 n4 c4) := World.cell?_alloc_new w4 #[.slice a4 n4 c4] 22 0))
              go_roundw
              case rel =>
                have es : s' = ⟨m + f.length, false, [], s.recs ++ [s.now ++ f.drop (hd rc)], m + f.length⟩ := hst'.out
                refine ⟨s', m + f.length, svs ++ [.slice a4 n4 c4], ?_, ?_, ?_, ?_, (B5.trans P4.2).trans P6.2, hx.out.1.step E.out, ⟨by rw [es]; exact Nat.le_refl _, .inl (by rw [es])⟩, ?_, hsm'.out⟩
                · rw [hfl'.out]; go_num
                · rw [es]; show _ = Value.int .i64 ((m + f.length : Nat) : Int); rw [hfl'.out]; go_num
                · rw [es]
                · rw [es]; exact P6.1
                · have := hat'.out.2; rw [es] at this; have h9 : m + f.length ≤ b.length := this; omega
              case measure => simp [intOf]; omega
            · go_wp2_with (first
              | (at_builtin
                 refine OwnB.wpList_append rfl _ _ 22 22 rfl rfl (base := w.heap.size) (l := s.now) R5.own i0 Tryd.underlying22 hi hz0 hz1 hz2 _ rfl (f.drop (hd rc)) hA5.src R5.siz hll.out ?_
                 intro v4 w4 ho4 hg4 hat4
                 have P4 := R5.put ho4 hby4.out hg4 hat4
                 obtain ⟨a4, n4, c4, rfl⟩ := ho4.slc
                 have hrow4 := P4.1.row.alloc (.cells #[.slice a4 n4 c4] 22)
                 have hcell4 : (w4.alloc (.cells #[.slice a4 n4 c4] 22)).cell? ⟨w4.heap.size, 0, none⟩ = some (.slice a4 n4 c4) := World.cell?_alloc_new w4 #[.slice a4 n4 c4] 22 0))
              go_roundw
              case rel =>
                have es : s' = ⟨m + f.length, true, s.now ++ f.drop (hd rc), s.recs, s.en⟩ := hst'.out
                refine ⟨s', m + f.length, svs, ?_, ?_, ?_, ?_, B5.trans P4.2, hx.out.1.step E.out, ⟨by rw [es]; exact Nat.le_refl _, .inl (by rw [es])⟩, ?_, hsm'.out⟩
                · rw [hfl'.out]; go_num
                · rw [es]
                · rw [es]
                · rw [es]; exact ⟨P4.1.own, P4.1.row, P4.1.rds, P4.1.nl, P4.1.siz, P4.1.byt⟩
                · have := hat'.out.2; rw [es] at this; have h9 : m + f.length ≤ b.length := this; omega
              case measure => simp [intOf]; omega
            · go_wp2_with (first
              | (at_builtin
                 refine OwnB.wpList_append rfl _ _ 22 22 rfl rfl (base := w.heap.size) (l := s.now) R5.own i0 Tryd.underlying22 hi hz0 hz1 hz2 _ rfl (f.drop (hd rc)) hA5.src R5.siz hll.out ?_
                 intro v4 w4 ho4 hg4 hat4
                 have P4 := R5.put ho4 hby4.out hg4 hat4
                 obtain ⟨a4, n4, c4, rfl⟩ := ho4.slc
                 have hrow4 := P4.1.row.alloc (.cells #[.slice a4 n4 c4] 22)
                 have hcell4 : (w4.alloc (.cells #[.slice a4 n4 c4] 22)).cell? ⟨w4.heap.size, 0, none⟩ = some (.slice a4 n4 c4) := World.cell?_alloc_new w4 #[.slice a4 n4 c4] 22 0))
              go_roundw
              case rel =>
                have es : s' = ⟨m + f.length, true, s.now ++ f.drop (hd rc), s.recs, s.en⟩ := hst'.out
                refine ⟨s', m + f.length, svs, ?_, ?_, ?_, ?_, B5.trans P4.2, hx.out.1.step E.out, ⟨by rw [es]; exact Nat.le_refl _, .inl (by rw [es])⟩, ?_, hsm'.out⟩
                · rw [hfl'.out]; go_num
                · rw [es]
                · rw [es]
                · rw [es]; exact ⟨P4.1.own, P4.1.row, P4.1.rds, P4.1.nl, P4.1.siz, P4.1.byt⟩
                · have := hat'.out.2; rw [es] at this; have h9 : m + f.length ≤ b.length := this; omega
              case measure => simp [intOf]; omega
            · go_wp2_with (first
              | (at_builtin
                 refine push1 rfl _ _ 24 22 (.slice none 0 0) Tryd.underlying24 info22 rfl rfl rfl rfl (.slice a4 n4 c4) rfl hrow4 hcell4 (by show s.recs.length ≤ _; omega) (by simp; have := P4.1.siz; omega) ?_
                 intro av cv w6 ho6 hg6 hat6
                 have P6 := P4.1.push (a' := m + f.length) (en' := m + f.length) (o' := false) hlen4.out ho6 hg6 hat6)
              | (at_builtin
                 refine OwnB.wpList_append rfl _ _ 22 22 rfl rfl (base := w.heap.size) (l := s.now) R5.own i0 Tryd.underlying22 hi hz0 hz1 hz2 _ rfl (f.drop (hd rc)) hA5.src R5.siz hll.out ?_
                 intro v4 w4 ho4 hg4 hat4
                 have P4 := R5.put ho4 hby4.out hg4 hat4
                 obtain ⟨a4, n4, c4, rfl⟩ := ho4.slc
                 have hrow4 := P4.1.row.alloc (.cells #[.slice a4 n4 c4] 22)
                 have hcell4 : (w4.alloc (.cells #[.slice a4 n4 c4] 22)).cell? ⟨w4.heap.size, 0, none⟩ = some (.slice a4 n4 c4) := World.cell?_alloc_new w4 #[.slice a4 n4 c4] 22 0))
              go_roundw
              case rel =>
                have es : s' = ⟨m + f.length, false, [], s.recs ++ [s.now ++ f.drop (hd rc)], m + f.length⟩ := hst'.out
                refine ⟨s', m + f.length, svs ++ [.slice a4 n4 c4], ?_, ?_, ?_, ?_, (B5.trans P4.2).trans P6.2, hx.out.1.step E.out, ⟨by rw [es]; exact Nat.le_refl _, .inl (by rw [es])⟩, ?_, hsm'.out⟩
                · rw [hfl'.out]; go_num
                · rw [es]; show _ = Value.int .i64 ((m + f.length : Nat) : Int); rw [hfl'.out]; go_num
                · rw [es]
                · rw [es]; exact P6.1
                · have := hat'.out.2; rw [es] at this; have h9 : m + f.length ≤ b.length := this; omega
              case measure => simp [intOf]; omega
end Go.Proofs.YtjnlolibfcpbkaaDoor
