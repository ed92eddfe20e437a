import Derived.Test.YtbnllobofndckaaRs
namespace Go.Proofs.Ytbnllobofndckaa
open Go.RowKit
set_option linter.unusedVariables false
set_option linter.unusedSimpArgs false
set_option maxRecDepth 100000 in
set_option maxHeartbeats 1000000 in
theorem rbuild_any {w : World} {a : Option Addr} {l : List Ent} (hl : RdE w a l) (hs : ∀ e ∈ l, 0 ≤ e.s) (how r : Int) (c : Nat) (hN : l.length ≤ 281474976710656) :
    Calls Try.prog 8 #[.int .i64 how, .int .i64 r, .slice a l.length c] w fun e w' => ∃ v, e = .returned (.tuple #[v, .int .i64 (bldE how r l)]) ∧ OwnB w' w.heap.size v (bldB how r l) ∧ Below w.heap.size w w' := by
  obtain ⟨N, hNN⟩ : ∃ N, Hid (l.length = N) := ⟨_, rfl⟩
  have HL : Hid (RdE w a l) := hl
  have hN' : N ≤ 281474976710656 := by rw [← hNN.out]; exact hN
  obtain ⟨cn, hcn⟩ : ∃ cn, Hid (cntE r N = cn) := ⟨_, rfl⟩
  obtain ⟨E, hE⟩ : ∃ E, Hid (bldE how r l = E) := ⟨_, rfl⟩
  obtain ⟨hh, hhh⟩ : ∃ hh, Hid (isHw how = hh) := ⟨_, rfl⟩
  have HH : Hid (∀ W, Calls Try.prog 30 #[.int .i64 how] W fun e w' => e = .returned (.bool hh) ∧ w' = W) := fun W => by rw [← hhh.out]; exact rhow_any how W
  have HNo : Hid (∀ W', E ≠ 0 → OwnB W' w.heap.size (.slice none 0 0) (bldB how r l)) := fun W' h => by unfold bldB; rw [hE.out, if_neg h]; exact OwnB.nil _ _
  rw [hNN.out, hE.out]
  clear hl hN
  go_enter Try.func8, Try.ntmps8
  cases hh with
  | false =>
    have HE1 : Hid (E = 1) := by show _ = _; rw [← hE.out]; unfold bldE; rw [if_pos hhh.out]
    go_wp2_with (go_at_call 30; refine (HH.out _).mono ?_; rintro e w1 ⟨rfl, hw⟩; have hw1 := hw.symm; subst hw1; clear hw)
    go_ret2
    rw [HE1.out]
    exact ⟨_, rfl, HNo.out _ (by rw [HE1.out]; decide), Below.refl _ _⟩
  | true =>
    have HEq : Hid (E = if cn ≠ 0 then cn else if bldF how l ≠ 0 then bldF how l else if 4194304 < (wr8 r.toNat l).length then 2 else 0) := by
      show _ = _
      rw [← hE.out]; unfold bldE; rw [if_neg (by rw [hhh.out]; decide), hNN.out, hcn.out]
    by_cases hc0 : cn = 0
    · have hcs : Hid (1 ≤ r ∧ r ≤ 1024 ∧ N ≤ 65536) := by
        have := hcn.out
        unfold cntE at this
        show _ ∧ _
        split at this
        · omega
        · split at this <;> omega
      subst hc0
      obtain ⟨F, hF⟩ : ∃ F, Hid (bldF how l = F) := ⟨_, rfl⟩
      rw [hF.out] at HEq
      have HF0 : Hid (frm (erB how l) N 0 = F) := by show _ = _; rw [← hF.out, ← hNN.out]; rfl
      have hr1 : ¬ r < 1 := by have := hcs.out; omega
      have hr2 : ¬ 1024 < r := by have := hcs.out; omega
      have hr3 : ¬ (65536 : Int) < N := by have := hcs.out; omega
      go_wp2_with (go_at_call 30; refine (HH.out _).mono ?_; rintro e w1 ⟨rfl, hw⟩; have hw1 := hw.symm; subst hw1; clear hw)
      go_loopw [8] (fun i wr => ∃ k : Nat, k ≤ N ∧ i = .int .i64 k ∧ Hid (frm (erB how l) (N - k) k = F) ∧ Below w.heap.size w wr) (fun i _ => ((N : Int) - intOf i).toNat)
      case atStart => exact ⟨0, Nat.zero_le _, rfl, HF0, Below.refl _ _⟩
      case round =>
        obtain ⟨k, hk, rfl, HF, hb⟩ := hrel
        rcases Nat.lt_or_ge k N with hkN | hkN
        · have hkz : (k : Int) < N := by omega
          obtain ⟨x, hx⟩ : ∃ x, l[k]? = some x := ⟨l[k]'(by rw [hNN.out]; exact hkN), List.getElem?_eq_getElem _⟩
          obtain ⟨b, off, rfl, hbl, hat⟩ := HL.out.get hb hx
          obtain ⟨e0, e1, e2, e3⟩ := hat k x hx
          obtain ⟨er, her⟩ : ∃ er, Hid (x.er = er) := ⟨_, rfl⟩
          obtain ⟨ck, hck⟩ : ∃ ck, Hid (checkV x.u x.s x.k = ck) := ⟨_, rfl⟩
          have HCk : Hid (∀ W, Calls Try.prog 31 #[.agg #[.string x.u, .int .u64 x.s, .int .i64 x.k]] W fun e w' => e = .returned (.int .i64 ck) ∧ Below W.heap.size W w') := fun W => by
            rw [← hck.out]
            refine (rcheck_any x.u x.s x.k W).mono ?_
            rintro e w' ⟨rfl, rfl⟩
            exact ⟨rfl, (Below.refl _ _).alloc (Nat.le_refl _) _⟩
          obtain ⟨vv, hvv⟩ : ∃ vv : Int, Hid ((if 16384 < x.v.size then 2 else 0) = vv) := ⟨_, rfl⟩
          have HVl : Hid (∀ W, Calls Try.prog 32 #[.string x.v] W fun e w' => e = .returned (.int .i64 vv) ∧ w' = W) := fun W => by rw [← hvv.out]; exact value_any x.v W
          have HErr : Hid (er = if ck = 0 then vv else ck) := by show _ = _; rw [← her.out]; unfold Ent.er entE; rw [hck.out, hvv.out]
          have HC3 : Hid (∀ W, Below wr.heap.size wr W → W.cell? ⟨b, off + k * 4 + 3, none⟩ = some (.string x.v)) := fun W hW => (hW.cell (block_lt_of_cell e3)).trans e3
          have HBW : Hid (Below w.heap.size w wr) := hb
          have HStp : Hid (frm (erB how l) (N - k) k = if erB how l k = 0 then frm (erB how l) (N - (k + 1)) (k + 1) else erB how l k) := by
            have : N - k = N - (k + 1) + 1 := by omega
            rw [this]; rfl
          have HErB : Hid (erB how l k = if er = 0 then (if ordB how l k = true then 1 else 0) else er) := by
            show _ = _
            rw [← her.out]; unfold erB; rw [hx]
          have HAt : Hid (∀ W, Below w.heap.size w W → ∀ (j : Nat) (e : Ent), l[j]? = some e → EAt W b (off + j * 4) e) := fun W hW j e he => by
            obtain ⟨b', off', e', _, h⟩ := HL.out.get hW hx
            cases e'
            exact h j e he
          by_cases hck0 : ck = 0
          · have HEE : Hid (er = vv) := by show _ = _; rw [HErr.out, if_pos hck0]
            subst hck0
            by_cases hv0 : vv = 0
            · have h0 : er = 0 := by rw [HEE.out]; exact hv0
              subst hv0
              have HEr0 : Hid (erB how l k = if ordB how l k = true then 1 else 0) := by show _ = _; rw [HErB.out, if_pos h0]
              clear h0 HErB HEE HErr
              rcases Nat.eq_zero_or_pos k with hk0 | hk0
              · have HN0 : Hid (frm (erB how l) (N - (k + 1)) (k + 1) = F) := by
                  show _ = _
                  have : erB how l k = 0 := by rw [HEr0.out]; subst hk0; rfl
                  rw [← HF.out, HStp.out, if_pos this]
                have HK0 : Hid (k = 0) := hk0
                clear hk0 hat
                go_wp2_with (first
                | (go_at_call 32; refine (HVl.out _).mono ?_; rintro e w3 ⟨rfl, hw⟩; have hw1 := hw.symm; subst hw1; clear hw)
                | (go_at_call 31; refine (HCk.out _).mono ?_; rintro e w2 ⟨rfl, hb2⟩; have hb3 := HBW.out.trans (hb2.mono HBW.out.size); have e5 := HC3.out _ hb2))
                have hk0 := HK0.out
                have hp0 : ((k : Int) > 0) = False := eq_false (by omega)
                have hp1 : ((0 : Int) < (k : Int)) = False := eq_false (by omega)
                have hd0 : decide ((0 : Int) < (k : Int)) = false := decide_eq_false (by omega)
                have hp2 : (0 < k) = False := eq_false (by omega)
                have hd2 : decide (0 < k) = false := decide_eq_false (by omega)
                clear hk0
                first | go_quiet (fail) | go_big_quiet (fail)
                have hb4 : Hid (Below w.heap.size w (w2.drewN nq)) := hb3.trans ⟨rfl, rfl, rfl, Nat.le_refl _, fun _ _ => rfl⟩
                go_wp2
                go_roundw
                case rel => exact ⟨k + 1, by omega, by go_num, HN0, hb4.out⟩
                case measure => simp [intOf]; omega
              · obtain ⟨j, hjk⟩ : ∃ j, Hid (k = j + 1) := ⟨k - 1, by show _ = _; omega⟩
                have hjk' := hjk.out
                obtain ⟨y, hy⟩ : ∃ y, l[j]? = some y := ⟨l[j]'(by rw [hNN.out]; omega), List.getElem?_eq_getElem _⟩
                obtain ⟨o, ho⟩ : ∃ o, Hid (ordE how y x = o) := ⟨_, rfl⟩
                have HOr : Hid (∀ W, Calls Try.prog 33 #[.int .i64 how, .agg #[.string y.u, .int .u64 y.s, .int .i64 y.k], .agg #[.string x.u, .int .u64 x.s, .int .i64 x.k]] W fun e w' => e = .returned (.int .i64 o) ∧ Below W.heap.size W w') := fun W => by rw [← ho.out]; exact rord_bel how y x W
                have HOb : Hid (ordB how l k = decide (0 ≤ o)) := by show _ = _; rw [hjk'] at hx ⊢; rw [← ho.out]; have e1 : ordB how l (j + 1) = (match l[j]?, l[j + 1]? with | some p, some e => decide (0 ≤ ordE how p e) | _, _ => false) := rfl; rw [e1, hy, hx]
                have HPy : Hid (∀ W, Below w.heap.size w W → (W.cell? ⟨b, off + j * 4, none⟩ = some (.string y.u) ∧ W.cell? ⟨b, off + j * 4 + 1, none⟩ = some (.int .u64 y.s) ∧ W.cell? ⟨b, off + j * 4 + 2, none⟩ = some (.int .i64 y.k)) ∧ W.cell? ⟨b, off + k * 4, none⟩ = some (.string x.u) ∧ W.cell? ⟨b, off + k * 4 + 1, none⟩ = some (.int .u64 x.s) ∧ W.cell? ⟨b, off + k * 4 + 2, none⟩ = some (.int .i64 x.k)) := fun W hW => ⟨⟨(HAt.out W hW j y hy).1, (HAt.out W hW j y hy).2.1, (HAt.out W hW j y hy).2.2.1⟩, (HAt.out W hW k x hx).1, (HAt.out W hW k x hx).2.1, (HAt.out W hW k x hx).2.2.1⟩
                have hkp : (0 : Int) < (k : Int) := by omega
                clear hjk' hat
                go_wp2_with (first
                | (go_at_call 32; refine (HVl.out _).mono ?_; rintro e w3 ⟨rfl, hw⟩; have hw1 := hw.symm; subst hw1; clear hw)
                | (go_at_call 31; refine (HCk.out _).mono ?_; rintro e w2 ⟨rfl, hb2⟩; have hb3 := HBW.out.trans (hb2.mono HBW.out.size); have e5 := HC3.out _ hb2))
                obtain ⟨⟨y0, y1, y2⟩, z0, z1, z2⟩ := HPy.out w2 hb3
                have HB3 : Hid (Below w.heap.size w w2) := hb3
                clear hb2 hb3
                have hj1 : ((k : Int) - 1) = j := by have := hjk.out; omega
                have hjw2 : IntKind.i64.wrap (j : Int) = j := by rw [IntKind.wrap_i64]; have := hjk.out; omega
                have hq1 : ((j : Int) < N) = True := eq_true (by have := hjk.out; omega)
                have hq2 : ((j : Int) < 0) = False := eq_false (by omega)
                have hq3 : ((N : Int) ≤ j) = False := eq_false (by have := hjk.out; omega)
                have hq4 : (j < N) = True := eq_true (by have := hjk.out; omega)
                have hq5 : (N ≤ j) = False := eq_false (by have := hjk.out; omega)
                go_region_held_law (fun w' => (w'.cell? ⟨b, off + j * 4, none⟩ = some (.string y.u) ∧ w'.cell? ⟨b, off + j * 4 + 1, none⟩ = some (.int .u64 y.s) ∧ w'.cell? ⟨b, off + j * 4 + 2, none⟩ = some (.int .i64 y.k)) ∧ w'.cell? ⟨b, off + k * 4, none⟩ = some (.string x.u) ∧ w'.cell? ⟨b, off + k * 4 + 1, none⟩ = some (.int .u64 x.s) ∧ w'.cell? ⟨b, off + k * 4 + 2, none⟩ = some (.int .i64 x.k))
                  (first | (go_keep; done) | exact HPy.out _ (HB3.out.trans ((((Below.refl _ _).drew).trans hb5).mono HB3.out.size)))
                  ((go_at_call 33; refine (HOr.out _).mono ?_; rintro e w5 ⟨rfl, hb5⟩))
                have hb6 : Hid (Below w.heap.size w w5) := HB3.out.trans ((((Below.refl _ _).drew).trans hb5).mono HB3.out.size)
                by_cases ho0 : 0 ≤ o
                · have HV1 : Hid (F = 1 ∧ E = 1) := by
                    have e0 : erB how l k = 1 := by rw [HEr0.out, HOb.out, decide_eq_true ho0]; rfl
                    have e1 : F = 1 := by rw [← HF.out, HStp.out, e0]; rfl
                    refine ⟨e1, ?_⟩
                    rw [HEq.out, if_neg (by simp), e1, if_pos (by decide)]
                  clear hb5
                  go_wp2
                  go_ret2
                  rw [HV1.out.2]
                  exact ⟨.slice none 0 0, rfl, HNo.out _ (by rw [HV1.out.2]; decide), hb6.out⟩
                · have HN0 : Hid (frm (erB how l) (N - (k + 1)) (k + 1) = F) := by
                    show _ = _
                    have : erB how l k = 0 := by rw [HEr0.out, HOb.out, decide_eq_false ho0]; rfl
                    rw [← HF.out, HStp.out, if_pos this]
                  clear hb5
                  go_wp2
                  go_roundw
                  case rel => exact ⟨k + 1, by omega, by go_num, HN0, hb6.out⟩
                  case measure => simp [intOf]; omega
            · have hne : (vv != 0) = true := by simpa using hv0
              have hne2 : (vv == 0) = false := by simpa using hv0
              have HV0 : Hid (F = vv ∧ E = vv) := by
                have e1 : F = vv := by rw [← HF.out, HStp.out, HErB.out, HEE.out, if_neg hv0, if_neg hv0]
                refine ⟨e1, ?_⟩
                rw [HEq.out, if_neg (by simp), e1, if_pos hv0]
              have HE0 : Hid (E ≠ 0) := by rw [HV0.out.2]; exact hv0
              clear hv0 hat
              go_wp2_with (first
                | (go_at_call 32; refine (HVl.out _).mono ?_; rintro e w3 ⟨rfl, hw⟩; have hw1 := hw.symm; subst hw1; clear hw)
                | (go_at_call 31; refine (HCk.out _).mono ?_; rintro e w2 ⟨rfl, hb2⟩; have hb3 := HBW.out.trans (hb2.mono HBW.out.size); have e5 := HC3.out _ hb2))
              first | go_quiet (fail) | go_big_quiet (fail)
              have hb4 : Hid (Below w.heap.size w (w2.drewN nq)) := hb3.trans ⟨rfl, rfl, rfl, Nat.le_refl _, fun _ _ => rfl⟩
              go_wp2
              go_ret2
              rw [HV0.out.2]
              exact ⟨.slice none 0 0, rfl, HNo.out _ HE0.out, hb4.out⟩
          · have hne : (ck != 0) = true := by simpa using hck0
            have hne2 : (ck == 0) = false := by simpa using hck0
            have HEE : Hid (er = ck) := by show _ = _; rw [HErr.out, if_neg hck0]
            have HV0 : Hid (F = ck ∧ E = ck) := by
              have e1 : F = ck := by rw [← HF.out, HStp.out, HErB.out, HEE.out, if_neg hck0, if_neg hck0]
              refine ⟨e1, ?_⟩
              rw [HEq.out, if_neg (by simp), e1, if_pos hck0]
            have HE0 : Hid (E ≠ 0) := by rw [HV0.out.2]; exact hck0
            clear hck0 hat
            go_wp2_with (go_at_call 31; refine (HCk.out _).mono ?_; rintro e w2 ⟨rfl, hb2⟩; have hb3 := HBW.out.trans (hb2.mono HBW.out.size))
            first | go_quiet (fail) | go_big_quiet (fail)
            have hb4 : Hid (Below w.heap.size w (w2.drewN nq)) := hb3.trans ⟨rfl, rfl, rfl, Nat.le_refl _, fun _ _ => rfl⟩
            go_wp2
            go_ret2
            rw [HV0.out.2]
            exact ⟨.slice none 0 0, rfl, HNo.out _ HE0.out, hb4.out⟩
        · have hkz : ¬ (k : Int) < N := by omega
          obtain rfl : k = N := by omega
          have hF0 : F = 0 := by rw [← HF.out, Nat.sub_self]; rfl
          have HFit : Hid (Fit l) := fit_bld (by rw [hF.out]; exact hF0) hs
          obtain ⟨q, hq⟩ : ∃ q : Nat, r = q := ⟨r.toNat, by have := hcs.out; omega⟩
          subst hq
          obtain ⟨Z, hZ⟩ : ∃ Z : Nat, Hid ((wr8 q l).length = Z) := ⟨_, rfl⟩
          have HSo : Hid (Calls Try.prog 34 #[.int .i64 q, .slice a k c] wr fun e w' => ∃ a' c', e = .returned (.slice a' Z c') ∧ OwnB w' w.heap.size (.slice a' Z c') (wr8 q l) ∧ Below wr.heap.size wr w') := by
            have := written_any (HL.out.below hb) HFit.out q (by have := hcs.out; omega) (by rw [hNN.out]; exact hcs.out.2.2) c
            rw [hNN.out] at this
            refine this.mono ?_
            rintro e w' ⟨v, rfl, ho, hb'⟩
            have ho' := ho.mono (base' := w.heap.size) hb.size
            obtain ⟨a', c', rfl⟩ := own_slice ho
            rw [hZ.out] at ho' ⊢
            exact ⟨_, _, rfl, ho', hb'⟩
          have HE2 : Hid (E = if 4194304 < Z then 2 else 0) := by
            show _ = _
            rw [HEq.out, if_neg (by simp), hF0, if_neg (by simp)]
            have : (q : Int).toNat = q := by simp
            rw [this, hZ.out]
          by_cases hZl : Z ≤ 4194304
          · have HE3 : Hid (E = 0) := by show _ = _; rw [HE2.out, if_neg (by omega)]
            have hZi : ¬ (4194304 : Int) < Z := by omega
            have HBe : Hid (bldB how q l = wr8 q l) := by
              show _ = _
              unfold bldB
              rw [hE.out, if_pos HE3.out]
              have : (q : Int).toNat = q := by simp
              rw [this]
            have hE0 := HE3.out
            subst hE0
            clear HE3 HE2
            go_wp2_with (go_at_call 34; refine HSo.out.mono ?_; rintro e w4 ⟨a4, c4, rfl, ho4, hb4⟩; have hb5 := hb.trans (hb4.mono hb.size))
            go_ret2
            exact ⟨_, rfl, by rw [HBe.out]; exact ho4, hb5⟩
          · have HE3 : Hid (E = 2) := by show _ = _; rw [HE2.out, if_pos (by omega)]
            have hZi : (4194304 : Int) < Z := by omega
            go_wp2_with (go_at_call 34; refine HSo.out.mono ?_; rintro e w4 ⟨a4, c4, rfl, ho4, hb4⟩; have hb5 := hb.trans (hb4.mono hb.size))
            go_ret2
            rw [HE3.out]
            exact ⟨.slice none 0 0, rfl, HNo.out _ (by rw [HE3.out]; decide), hb5⟩
    · have HE1 : Hid (E = cn) := by show _ = _; rw [HEq.out, if_pos hc0]
      have HE0 : Hid (E ≠ 0) := by rw [HE1.out]; exact hc0
      by_cases hr : r < 1 ∨ 1024 < r
      · have hcn1 : Hid (cn = 1) := by show _ = _; rw [← hcn.out]; unfold cntE; rw [if_pos hr]
        clear hc0
        rcases hr with hr | hr
        · go_wp2_with (go_at_call 30; refine (HH.out _).mono ?_; rintro e w1 ⟨rfl, hw⟩; have hw1 := hw.symm; subst hw1; clear hw)
          go_ret2
          rw [HE1.out, hcn1.out]
          exact ⟨.slice none 0 0, rfl, HNo.out _ HE0.out, Below.refl _ _⟩
        · have hr0 : ¬ r < 1 := by omega
          go_wp2_with (go_at_call 30; refine (HH.out _).mono ?_; rintro e w1 ⟨rfl, hw⟩; have hw1 := hw.symm; subst hw1; clear hw)
          go_ret2
          rw [HE1.out, hcn1.out]
          exact ⟨.slice none 0 0, rfl, HNo.out _ HE0.out, Below.refl _ _⟩
      · have hcn1 : cn = 2 ∧ (65536 : Int) < N := by
          have h1 := hcn.out
          unfold cntE at h1
          rw [if_neg hr] at h1
          split at h1
          · exact ⟨h1.symm, by assumption⟩
          · exact absurd h1.symm hc0
        have hr0 : ¬ r < 1 := by omega
        have hr2 : ¬ 1024 < r := by omega
        have hN3 := hcn1.2
        have hcn2 : Hid (cn = 2) := hcn1.1
        clear hc0 hr hcn1
        go_wp2_with (go_at_call 30; refine (HH.out _).mono ?_; rintro e w1 ⟨rfl, hw⟩; have hw1 := hw.symm; subst hw1; clear hw)
        go_ret2
        rw [HE1.out, hcn2.out]
        exact ⟨.slice none 0 0, rfl, HNo.out _ HE0.out, Below.refl _ _⟩
end Go.Proofs.Ytbnllobofndckaa
