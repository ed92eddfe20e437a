import Derived.Test.YtjnlolibfcpbkaaDoorI
namespace Go.Proofs.YtjnlolibfcpbkaaDoor
open Go.RowKit Go.Maps
set_option linter.unusedVariables false
set_option linter.unusedSimpArgs false
theorem StepPost.ret {base rb : Nat} {bv : Value} {log : Int} {rc : Bool} {sol : Nat} {s : St} {r : Except Int St} {w w' : World} {e : Ending} (h : StepPost base rb bv log rc sol s r w e w') : ∃ c, e = .returned (.int .i64 c) := by
  obtain ⟨_, ⟨c, _, _, rfl, _⟩ | ⟨_, _, rfl, _⟩⟩ := h
  · exact ⟨_, rfl⟩
  · exact ⟨_, rfl⟩
theorem IsSol.zer_lt {l : List Int} {n : Nat} (h : IsSol l n) {k : Nat} (hk : k < n) : zer (l.drop k) = false := by
  have := h.lt k
  rw [decide_eq_true hk] at this
  unfold zer
  cases h9 : (l.drop k).all (· == 0)
  · rfl
  · rw [h9] at this; cases this
theorem IsSol.zer_ge {l : List Int} {n : Nat} (h : IsSol l n) {k : Nat} (hk : n ≤ k) : zer (l.drop k) = true := by
  have := h.lt k
  rw [decide_eq_false (by omega)] at this
  unfold zer
  cases h9 : (l.drop k).all (· == 0)
  · rw [h9] at this; cases this
  · rfl
theorem zer_mono {l : List Int} {j k : Nat} (h : zer (l.drop j) = true) (hk : j ≤ k) : zer (l.drop k) = true := by
  have e : l.drop k = (l.drop j).drop (k - j) := by rw [List.drop_drop]; congr 1; omega
  unfold zer at *
  rw [e, List.all_eq_true]
  rw [List.all_eq_true] at h
  exact fun x hx => h x (List.mem_of_mem_drop hx)
section
variable {w : World} {base rb : Nat} {log : Int} {rc : Bool} {sol : Nat} {s : St} {rv lv : Value} {svs : List Value} {ba : Option Addr} {blen bcap : Nat} {b : List Int}
set_option maxRecDepth 100000 in
set_option maxHeartbeats 8000000 in
theorem step_any (h : Rd w base rb (.slice ba blen bcap) log rc sol s rv lv svs) (hb : Arg w ba blen bcap b) (hcap : blen ≤ bcap) (hsol : IsSol b sol) (hba : ∀ B off, ba = some ⟨B, off, none⟩ → b ≠ [] → B < base)
    (hat : s.at_ ≤ blen) (hbl : blen ≤ 1073741824) (hnow : s.now.length ≤ s.at_) (hrec : s.recs.length ≤ s.at_) :
    Calls Tryd.prog 13 #[ptr rb] w (StepPost base rb (.slice ba blen bcap) log rc sol s (stepM b rc log s) w) := by
  have hH := hd_bd rc
  have htl := tl_bd rc s.at_
  have hbyt : Byt b := hb.2.1
  have hble := hb.1
  obtain ⟨r, hr⟩ : ∃ r, r = stepM b rc log s := ⟨_, rfl⟩
  rw [← hr]
  unfold stepM at hr
  have HT := fun W => tail_any log rc s.at_ (by omega) W
  obtain ⟨T, hT⟩ : ∃ T, T = tl rc s.at_ := ⟨_, rfl⟩
  rw [← hT] at hr htl
  simp only [← hT] at HT
  clear hT
  have c1 := h.blk.cell1 1 _ rfl
  have c2 := h.blk.cell1 2 _ rfl
  have c4 := h.blk.cell1 4 _ rfl
  have hlt := h.blk.lt
  have hbs := h.siz
  go_enter Tryd.func13, Tryd.ntmps13
  go_upto_region 1 with fail
  go_cut [3] from 6 to 14 (fun a wd => a = .int .i64 (T : Nat) ∧ Below w.heap.size w wd)
  case first =>
    go_region_held_law (fun w' => w'.cell? ⟨rb, 1, none⟩ = some (.int .u32 log) ∧ w'.cell? ⟨rb, 2, none⟩ = some (.bool rc) ∧ w'.cell? ⟨rb, 4, none⟩ = some (.int .i64 (s.at_ : Nat)))
      (first
        | exact ⟨k0, k1, k2⟩
        | (go_keep; done))
      (first
        | (go_at_call 26; refine (HT _).mono ?_; rintro e w3 ⟨rfl, hB3⟩
           have k0 := (hB3.cell (p := ⟨rb, 1, none⟩) (by simpa using hlt)).trans c1
           have k1 := (hB3.cell (p := ⟨rb, 2, none⟩) (by simpa using hlt)).trans c2
           have k2 := (hB3.cell (p := ⟨rb, 4, none⟩) (by simpa using hlt)).trans c4))
    all_goals
      go_wp2
      go_meet
      exact ⟨rfl, (Below.refl w.heap.size w).drew.trans (hB3.mono (by simp))⟩
  case rest =>
    obtain ⟨rfl, hB1⟩ := hcut
    obtain ⟨W1, rfl⟩ : ∃ W1, W1 = wc := ⟨_, rfl⟩
    have h1 := h.below hB1
    have hb1 := hb.below hB1
    have B1 : Below base w W1 := hB1.mono hbs
    clear c1 c2 c4 h HT hb
    have c0 := h1.blk.cell1 0 _ rfl
    have c3 := h1.blk.cell1 3 _ rfl
    have c4 := h1.blk.cell1 4 _ rfl
    have f4 := h1.blk.frozen 4
    obtain ⟨m, hm⟩ : ∃ m, m = s.at_ + T := ⟨_, rfl⟩
    have hm' : (s.at_ : Int) + (T : Int) = (m : Int) := by omega
    rw [← hm] at hr
    have U2 : ∀ n, Upd (fun k => k = rb) (W1.drewN n) ((W1.drewN n).setCell ⟨rb, 4, none⟩ (.int .i64 (m : Nat))) := fun n => Upd.setCell (S := fun k => k = rb) (p := ⟨rb, 4, none⟩) (Upd.refl _ _) (fun _ => rfl) _
    have R2 : ∀ n, Rd ((W1.drewN n).setCell ⟨rb, 4, none⟩ (.int .i64 (m : Nat))) base rb (.slice ba blen bcap) log rc sol { s with at_ := m } rv lv svs := fun n => (h1.below (below_drewN (Below.refl _ _) n)).set (U2 n) ((h1.below (below_drewN (Below.refl _ _) n)).blk.set 4 _)
    have B2 : ∀ n, Below base w ((W1.drewN n).setCell ⟨rb, 4, none⟩ (.int .i64 (m : Nat))) := fun n => (below_drewN B1 n).trans ((U2 n).below (fun k hk => Nat.lt_of_lt_of_le hk (h1.below (below_drewN (Below.refl _ _) n)).siz) (fun k hk => by rw [hk]; exact h1.bas))
    have A2 : ∀ n, Arg ((W1.drewN n).setCell ⟨rb, 4, none⟩ (.int .i64 (m : Nat))) ba blen bcap b := fun n => (hb1.below (below_drewN (Below.refl _ _) n)).upd (U2 n) (fun B off e hn9 h9 => by have h8 := hba B off e hn9; have h7 := h1.bas; omega)
    have hTm : Hid _ := hm
    clear hm
    by_cases hA : blen < m
    · have hA' : decide ((blen : Int) < (m : Int)) = true := decide_eq_true (by omega)
      by_cases hS : s.at_ < sol
      · have hS' : decide ((s.at_ : Int) < (sol : Int)) = true := decide_eq_true (by omega)
        rw [if_pos ⟨by omega, hsol.zer_lt hS⟩] at hr
        have hr' : Hid _ := hr
        clear hr R2 B2 U2 A2
        go_wp2
        go_quiet (fail)
        go_wp2
        go_ret
        exact ⟨below_drewN B1 _, .inl ⟨_, hr'.out, by decide, rfl, s.at_, rv, lv, svs, h1.below (below_drewN (Below.refl _ _) _)⟩⟩
      · have hS' : decide ((s.at_ : Int) < (sol : Int)) = false := decide_eq_false (by omega)
        have hsm : sol ≤ m := by have := hTm.out; omega
        have E := hsol.zer_ge (k := m) (by omega)
        have hS2' : decide ((sol : Int) ≤ (m : Int)) = true := decide_eq_true (by omega)
        rw [if_neg (fun hn => by have := hsol.zer_ge (k := s.at_) (by omega); rw [hn.2] at this; cases this)] at hr
        unfold restM at hr
        rw [if_pos E] at hr
        have hr' : Hid _ := hr
        clear hr E

        go_wp2
        go_quiet (fail)
        go_upto_region 5 with fail
        have RR := R2 nq
        have BB := B2 nq
        have FF := A2 nq
        generalize (W1.drewN nq).setCell ⟨rb, 4, none⟩ (.int .i64 (m : Nat)) = W2 at *
        have c0' := RR.blk.cell1 0 _ rfl
        have c3' := RR.blk.cell1 3 _ rfl
        have c4' := RR.blk.cell1 4 _ rfl
        clear R2 B2 A2 U2
        go_quiet (fail)
        have RR := RR.below (below_drewN (Below.refl _ _) nq)
        have BB := below_drewN BB nq
        have FF := FF.below (below_drewN (Below.refl _ _) nq)

        go_wp2_with (go_at_call 27; refine (quiet_any RR.blk).mono ?_; rintro e w5 ⟨rfl, hw⟩; have hw2 := hw.symm; subst hw2)
        go_ret
        exact ⟨BB, .inl ⟨_, hr'.out, qt_ne _, rfl, m, rv, lv, svs, RR⟩⟩
    · have hA' : decide ((blen : Int) < (m : Int)) = false := decide_eq_false (by omega)
      by_cases hS : sol ≤ m
      · have E := hsol.zer_ge (k := m) (by omega)
        have hS2' : decide ((sol : Int) ≤ (m : Int)) = true := decide_eq_true (by omega)
        rw [if_neg (fun hn => by omega)] at hr
        unfold restM at hr
        rw [if_pos E] at hr
        have hr' : Hid _ := hr
        clear hr E

        go_wp2
        go_quiet (fail)
        go_upto_region 5 with fail
        have RR := R2 nq
        have BB := B2 nq
        have FF := A2 nq
        generalize (W1.drewN nq).setCell ⟨rb, 4, none⟩ (.int .i64 (m : Nat)) = W2 at *
        have c0' := RR.blk.cell1 0 _ rfl
        have c3' := RR.blk.cell1 3 _ rfl
        have c4' := RR.blk.cell1 4 _ rfl
        clear R2 B2 A2 U2
        go_quiet (fail)
        have RR := RR.below (below_drewN (Below.refl _ _) nq)
        have BB := below_drewN BB nq
        have FF := FF.below (below_drewN (Below.refl _ _) nq)

        go_wp2_with (go_at_call 27; refine (quiet_any RR.blk).mono ?_; rintro e w5 ⟨rfl, hw⟩; have hw2 := hw.symm; subst hw2)
        go_ret
        exact ⟨BB, .inl ⟨_, hr'.out, qt_ne _, rfl, m, rv, lv, svs, RR⟩⟩
      · have E := hsol.zer_lt (k := m) (by omega)
        have hS2' : decide ((sol : Int) ≤ (m : Int)) = false := decide_eq_false (by omega)
        rw [if_neg (fun hn => by omega)] at hr
        unfold restM at hr
        rw [if_neg (by rw [E]; decide)] at hr
        unfold fragM at hr
        dsimp only at hr
        have hsl := hsol.1
        have hmb : m ≤ blen := by omega
        obtain ⟨B, off, X, rfl, hBl, _⟩ := hb1.at (k := m) (by omega)
        have hcut : cutA (some ⟨B, off, none⟩) bcap m = some ⟨B, off + m, none⟩ := by unfold cutA; rw [if_neg (by omega)]; simp [add_at]
        have CL : ∀ W, (Instr.sliceAt 22 (.slice (some ⟨B, off, none⟩) blen bcap) (some (.int .i64 (m : Nat))) none none).run Tryd.prog W = .ok (.slice (some ⟨B, off + m, none⟩) (blen - m) (bcap - m)) W := fun W => (by rw [← hcut]; exact bcut_lo B off blen bcap m hmb W)
        obtain ⟨q, hq⟩ : ∃ q, q = b.drop m := ⟨_, rfl⟩
        have hql : q.length = blen - m := by rw [hq, List.length_drop, hble]
        have hqb : Byt q := by rw [hq]; exact hbyt.drop m
        have hNb := leN_bd hqb
        rw [← hq, hql] at hr
        have HLF := fun W => left_any m (by omega) W
        have hlb := lft_bd m
        obtain ⟨Lf, hLf⟩ : ∃ Lf, Lf = lft m := ⟨_, rfl⟩
        obtain ⟨Nn, hNn⟩ : ∃ Nn, Nn = leN q := ⟨_, rfl⟩
        rw [← hLf, ← hNn] at hr
        rw [← hNn] at hNb
        simp only [← hLf] at HLF
        have hq' : Hid _ := hq
        have hNn' : Hid _ := hNn
        have hcut' : Hid _ := hcut
        clear hq hNn hLf E hcut
        have hLL : ((blen - m : Nat) : Int) = (blen : Int) - (m : Int) := by omega
        by_cases h3 : blen - m < hd rc
        · rw [if_pos h3] at hr
          have hr' : Hid _ := hr
          have h3' : (((blen - m : Nat) : Int) < ((hd rc : Nat) : Int)) := by omega
          clear hr
          go_wp2
          go_quiet (fail)
          go_upto_region 5 with fail
          have RR := R2 nq
          have BB := B2 nq
          have FF := A2 nq
          generalize (W1.drewN nq).setCell ⟨rb, 4, none⟩ (.int .i64 (m : Nat)) = W2 at *
          have c0' := RR.blk.cell1 0 _ rfl
          have c3' := RR.blk.cell1 3 _ rfl
          have c4' := RR.blk.cell1 4 _ rfl
          clear R2 B2 A2 U2
          go_quiet (fail)
          have RR := RR.below (below_drewN (Below.refl _ _) nq)
          have BB := below_drewN BB nq
          have FF := FF.below (below_drewN (Below.refl _ _) nq)
          go_wp2
          go_quiet (fail)
          have RR := RR.below (below_drewN (Below.refl _ _) nq)
          have BB := below_drewN BB nq
          have FF := (FF.below (below_drewN (Below.refl _ _) nq)).lo hmb hcap
          rw [hcut'.out, ← hq'.out] at FF
          generalize World.drewN _ nq = W3 at *
          have c1' := RR.blk.cell1 1 _ rfl
          have c2' := RR.blk.cell1 2 _ rfl
          go_wp2_with (first
            | (go_at_call 28; refine (head_any log rc _).mono ?_; rintro e wH ⟨rfl, hBH⟩
               have BB := BB.trans (hBH.mono RR.siz)
               have RR := RR.below hBH
               have FF := FF.below hBH
               have c1' := RR.blk.cell1 1 _ rfl
               have c2' := RR.blk.cell1 2 _ rfl
               have c4' := RR.blk.cell1 4 _ rfl)
            | (go_at_call 29; refine (length_any _ _ _ _ _ FF h6).mono ?_; rintro e wL ⟨he, hUL⟩
               rw [← hNn'.out] at he
               subst he
               have hBL := hUL.below (n := World.heap _ |>.size) (fun k hk => hk) (fun k hk => hk.elim)
               have BB := BB.trans (hBL.mono RR.siz)
               have RR := RR.below hBL
               have FF := FF.below hBL
               have c1' := RR.blk.cell1 1 _ rfl
               have c2' := RR.blk.cell1 2 _ rfl
               have c4' := RR.blk.cell1 4 _ rfl)
            | (go_at_call 30; refine (HLF _).mono ?_; rintro e w6 ⟨rfl, hw⟩; have hw2 := hw.symm; subst hw2)
            | (go_at_call 31; refine (bad_any RR.blk).mono ?_; rintro e w7 ⟨rfl, hw⟩; have hw2 := hw.symm; subst hw2)
            | (go_at_call 32; refine (look_any RR (FF.hi hsz) hfh (by omega) hs9 hnow9 hrec9 hfb9).mono ?_; rintro e w8 hP; obtain ⟨c8, rfl⟩ := hP.ret))
          go_ret
          exact ⟨BB, .inl ⟨_, hr'.out, by decide, rfl, m, rv, lv, svs, RR⟩⟩
        · rw [if_neg h3] at hr
          have h3' : ((hd rc : Nat) : Int) ≤ ((blen - m : Nat) : Int) := by omega
          have h6 : 6 ≤ blen - m := by omega
          by_cases h4 : Lf < hd rc + Nn
          · rw [if_pos h4] at hr
            have hr' : Hid _ := hr
            have h4' : (Lf : Int) < ((hd rc : Nat) : Int) + (Nn : Int) := by omega
            clear hr
            go_wp2
            go_quiet (fail)
            go_upto_region 5 with fail
            have RR := R2 nq
            have BB := B2 nq
            have FF := A2 nq
            generalize (W1.drewN nq).setCell ⟨rb, 4, none⟩ (.int .i64 (m : Nat)) = W2 at *
            have c0' := RR.blk.cell1 0 _ rfl
            have c3' := RR.blk.cell1 3 _ rfl
            have c4' := RR.blk.cell1 4 _ rfl
            clear R2 B2 A2 U2
            go_quiet (fail)
            have RR := RR.below (below_drewN (Below.refl _ _) nq)
            have BB := below_drewN BB nq
            have FF := FF.below (below_drewN (Below.refl _ _) nq)
            go_wp2
            go_quiet (fail)
            have RR := RR.below (below_drewN (Below.refl _ _) nq)
            have BB := below_drewN BB nq
            have FF := (FF.below (below_drewN (Below.refl _ _) nq)).lo hmb hcap
            rw [hcut'.out, ← hq'.out] at FF
            generalize World.drewN _ nq = W3 at *
            have c1' := RR.blk.cell1 1 _ rfl
            have c2' := RR.blk.cell1 2 _ rfl
            go_wp2_with (first
              | (go_at_call 28; refine (head_any log rc _).mono ?_; rintro e wH ⟨rfl, hBH⟩
                 have BB := BB.trans (hBH.mono RR.siz)
                 have RR := RR.below hBH
                 have FF := FF.below hBH
                 have c1' := RR.blk.cell1 1 _ rfl
                 have c2' := RR.blk.cell1 2 _ rfl
                 have c4' := RR.blk.cell1 4 _ rfl)
              | (go_at_call 29; refine (length_any _ _ _ _ _ FF h6).mono ?_; rintro e wL ⟨he, hUL⟩
                 rw [← hNn'.out] at he
                 subst he
                 have hBL := hUL.below (n := World.heap _ |>.size) (fun k hk => hk) (fun k hk => hk.elim)
                 have BB := BB.trans (hBL.mono RR.siz)
                 have RR := RR.below hBL
                 have FF := FF.below hBL
                 have c1' := RR.blk.cell1 1 _ rfl
                 have c2' := RR.blk.cell1 2 _ rfl
                 have c4' := RR.blk.cell1 4 _ rfl)
              | (go_at_call 30; refine (HLF _).mono ?_; rintro e w6 ⟨rfl, hw⟩; have hw2 := hw.symm; subst hw2)
              | (go_at_call 31; refine (bad_any RR.blk).mono ?_; rintro e w7 ⟨rfl, hw⟩; have hw2 := hw.symm; subst hw2)
              | (go_at_call 32; refine (look_any RR (FF.hi hsz) hfh (by omega) hs9 hnow9 hrec9 hfb9).mono ?_; rintro e w8 hP; obtain ⟨c8, rfl⟩ := hP.ret))
            go_ret
            exact ⟨BB, .inl ⟨_, hr'.out, bd_ne rc, rfl, m, rv, lv, svs, RR⟩⟩
          · rw [if_neg h4] at hr
            have h4' : ((hd rc : Nat) : Int) + (Nn : Int) ≤ (Lf : Int) := by omega
            by_cases h5 : blen - m < hd rc + Nn
            · rw [if_pos h5] at hr
              have hr' : Hid _ := hr
              have h5' : ((blen - m : Nat) : Int) < ((hd rc : Nat) : Int) + (Nn : Int) := by omega
              clear hr
              go_wp2
              go_quiet (fail)
              go_upto_region 5 with fail
              have RR := R2 nq
              have BB := B2 nq
              have FF := A2 nq
              generalize (W1.drewN nq).setCell ⟨rb, 4, none⟩ (.int .i64 (m : Nat)) = W2 at *
              have c0' := RR.blk.cell1 0 _ rfl
              have c3' := RR.blk.cell1 3 _ rfl
              have c4' := RR.blk.cell1 4 _ rfl
              clear R2 B2 A2 U2
              go_quiet (fail)
              have RR := RR.below (below_drewN (Below.refl _ _) nq)
              have BB := below_drewN BB nq
              have FF := FF.below (below_drewN (Below.refl _ _) nq)
              go_wp2
              go_quiet (fail)
              have RR := RR.below (below_drewN (Below.refl _ _) nq)
              have BB := below_drewN BB nq
              have FF := (FF.below (below_drewN (Below.refl _ _) nq)).lo hmb hcap
              rw [hcut'.out, ← hq'.out] at FF
              generalize World.drewN _ nq = W3 at *
              have c1' := RR.blk.cell1 1 _ rfl
              have c2' := RR.blk.cell1 2 _ rfl
              go_wp2_with (first
                | (go_at_call 28; refine (head_any log rc _).mono ?_; rintro e wH ⟨rfl, hBH⟩
                   have BB := BB.trans (hBH.mono RR.siz)
                   have RR := RR.below hBH
                   have FF := FF.below hBH
                   have c1' := RR.blk.cell1 1 _ rfl
                   have c2' := RR.blk.cell1 2 _ rfl
                   have c4' := RR.blk.cell1 4 _ rfl)
                | (go_at_call 29; refine (length_any _ _ _ _ _ FF h6).mono ?_; rintro e wL ⟨he, hUL⟩
                   rw [← hNn'.out] at he
                   subst he
                   have hBL := hUL.below (n := World.heap _ |>.size) (fun k hk => hk) (fun k hk => hk.elim)
                   have BB := BB.trans (hBL.mono RR.siz)
                   have RR := RR.below hBL
                   have FF := FF.below hBL
                   have c1' := RR.blk.cell1 1 _ rfl
                   have c2' := RR.blk.cell1 2 _ rfl
                   have c4' := RR.blk.cell1 4 _ rfl)
                | (go_at_call 30; refine (HLF _).mono ?_; rintro e w6 ⟨rfl, hw⟩; have hw2 := hw.symm; subst hw2)
                | (go_at_call 31; refine (bad_any RR.blk).mono ?_; rintro e w7 ⟨rfl, hw⟩; have hw2 := hw.symm; subst hw2)
                | (go_at_call 32; refine (look_any RR (FF.hi hsz) hfh (by omega) hs9 hnow9 hrec9 hfb9).mono ?_; rintro e w8 hP; obtain ⟨c8, rfl⟩ := hP.ret))
              go_ret
              exact ⟨BB, .inl ⟨_, hr'.out, by decide, rfl, m, rv, lv, svs, RR⟩⟩
            · rw [if_neg h5] at hr
              have hr' : Hid _ := hr
              have h5' : ((hd rc : Nat) : Int) + (Nn : Int) ≤ ((blen - m : Nat) : Int) := by omega
              have hsz : hd rc + Nn ≤ blen - m := by omega
              have hfh : hd rc ≤ hd rc + Nn := by omega
              have hs9 : ({ s with at_ := m } : St).at_ + (hd rc + Nn) ≤ 2000000000 := by show m + _ ≤ _; omega
              have hnow9 : ({ s with at_ := m } : St).now.length ≤ 2000000000 := by show s.now.length ≤ _; omega
              have hrec9 : ({ s with at_ := m } : St).recs.length ≤ 2000000000 := by show s.recs.length ≤ _; omega
              have hfb9 : ∀ B' off', (some ⟨B, off + m, none⟩ : Option Addr) = some ⟨B', off', none⟩ → B' < base := fun B' off' e => by cases e; exact hba B off rfl (fun e9 => by rw [e9] at hble; simp at hble; omega)
              have CH : ∀ W, (Instr.sliceAt 22 (.slice (some ⟨B, off + m, none⟩) (blen - m) (bcap - m)) none (some (.int .i64 (((hd rc : Nat) : Int) + (Nn : Int)))) none).run Tryd.prog W = .ok (.slice (some ⟨B, off + m, none⟩) (hd rc + Nn) (bcap - m)) W := by
                intro W
                have := bcut_hi (some ⟨B, off + m, none⟩) (blen - m) (bcap - m) (hd rc + Nn) (by omega) W
                rw [Int.natCast_add] at this
                exact this
              clear hr
              go_wp2
              go_quiet (fail)
              go_upto_region 5 with fail
              have RR := R2 nq
              have BB := B2 nq
              have FF := A2 nq
              generalize (W1.drewN nq).setCell ⟨rb, 4, none⟩ (.int .i64 (m : Nat)) = W2 at *
              have c0' := RR.blk.cell1 0 _ rfl
              have c3' := RR.blk.cell1 3 _ rfl
              have c4' := RR.blk.cell1 4 _ rfl
              clear R2 B2 A2 U2
              go_quiet (fail)
              have RR := RR.below (below_drewN (Below.refl _ _) nq)
              have BB := below_drewN BB nq
              have FF := FF.below (below_drewN (Below.refl _ _) nq)
              go_wp2
              go_quiet (fail)
              have RR := RR.below (below_drewN (Below.refl _ _) nq)
              have BB := below_drewN BB nq
              have FF := (FF.below (below_drewN (Below.refl _ _) nq)).lo hmb hcap
              rw [hcut'.out, ← hq'.out] at FF
              generalize World.drewN _ nq = W3 at *
              have c1' := RR.blk.cell1 1 _ rfl
              have c2' := RR.blk.cell1 2 _ rfl
              go_wp2_with (first
                | (go_at_call 28; refine (head_any log rc _).mono ?_; rintro e wH ⟨rfl, hBH⟩
                   have BB := BB.trans (hBH.mono RR.siz)
                   have RR := RR.below hBH
                   have FF := FF.below hBH
                   have c1' := RR.blk.cell1 1 _ rfl
                   have c2' := RR.blk.cell1 2 _ rfl
                   have c4' := RR.blk.cell1 4 _ rfl)
                | (go_at_call 29; refine (length_any _ _ _ _ _ FF h6).mono ?_; rintro e wL ⟨he, hUL⟩
                   rw [← hNn'.out] at he
                   subst he
                   have hBL := hUL.below (n := World.heap _ |>.size) (fun k hk => hk) (fun k hk => hk.elim)
                   have BB := BB.trans (hBL.mono RR.siz)
                   have RR := RR.below hBL
                   have FF := FF.below hBL
                   have c1' := RR.blk.cell1 1 _ rfl
                   have c2' := RR.blk.cell1 2 _ rfl
                   have c4' := RR.blk.cell1 4 _ rfl)
                | (go_at_call 30; refine (HLF _).mono ?_; rintro e w6 ⟨rfl, hw⟩; have hw2 := hw.symm; subst hw2)
                | (go_at_call 31; refine (bad_any RR.blk).mono ?_; rintro e w7 ⟨rfl, hw⟩; have hw2 := hw.symm; subst hw2)
                | (go_at_call 32; refine (look_any RR (FF.hi hsz) hfh (by omega) hs9 hnow9 hrec9 hfb9).mono ?_; rintro e w8 hP; obtain ⟨c8, rfl⟩ := hP.ret))
              go_ret
              exact ⟨BB.trans hP.1, by rw [hr'.out]; exact hP.2⟩
end
end Go.Proofs.YtjnlolibfcpbkaaDoor
