/-
  BloomAll: the walk.
-/
import Derived.Test.YtbmljdeenbokmaaQf
import Derived.Deep.RegionWith
namespace Go.Proofs.Ytbmljdeenbokmaa
open Go.RowKit Go.Maps
set_option linter.unusedVariables false
set_option linter.unusedSimpArgs false

theorem z10 : bld [] 10 = [0, 0, 0, 0, 0, 0, 0, 0, 6] := by kernel_rfl
theorem z10s : bstr [0, 0, 0, 0, 0, 0, 0, 0, 6] = ⟨#[0, 0, 0, 0, 0, 0, 0, 0, 6]⟩ := rfl

set_option maxRecDepth 100000 in
set_option maxHeartbeats 40000000 in
theorem all_walk (a : Option Addr) (cap : Nat) (ks : List ByteArray) (bt : Int) (c : Option Addr) (lc1 cc1 : Nat) (l : List Int) (d : Option Addr) (ld1 cd1 : Nat) (m : List Int) (s : ByteArray) (w : World) (hA : Strs w a ks) (hl : ks.length ≤ 1048576) (hC : Arg w c lc1 l) (hlc : lc1 ≤ 1048576) (hD : Arg w d ld1 m) (hld : ld1 ≤ 1048576) (hs : s.size ≤ maxLen) :
    Calls Try.prog 3 #[.slice a ks.length cap, .int .i64 bt, .slice c lc1 cc1, .slice d ld1 cd1, .string s] w fun e w' => e = .returned (.bool true) ∧ Below w.heap.size w w' := by
  have HA : Hid (Strs w a ks) := hA
  have HC : Hid (Arg w c lc1 l) := hC
  have HD : Hid (Arg w d ld1 m) := hD
  have HL : Hid (ks.length ≤ 1048576) := hl
  have hmk := mkscap ks.length (by omega)
  have HBu : Hid (∀ (W : World) (av : Option Addr) (cv : Nat), Strs W av ks → Calls Try.prog 7 #[.slice av ks.length cv, .int .i64 bt] W fun e w' => ∃ av, e = .returned (.tuple #[.slice av (bL ks bt).length (bL ks bt).length, .int .i64 (bE bt)]) ∧ Fresh w' W.heap.size av (bL ks bt) ∧ Below W.heap.size W w') := fun W av cv h => build_any av cv ks bt W h hl
  have HRBu : Hid (∀ (W : World) (av : Option Addr) (cv : Nat), Strs W av ks → Calls Try.prog 8 #[.slice av ks.length cv, .int .i64 bt] W fun e w' => ∃ av, e = .returned (.tuple #[.slice av (bL ks bt).length (bL ks bt).length, .int .i64 (bE bt)]) ∧ Fresh w' W.heap.size av (bL ks bt) ∧ Below W.heap.size W w') := fun W av cv h => rbuild_any av cv ks bt W h hl
  have HPr : Hid (∀ W, Calls Try.prog 9 #[.int .i64 bt] W fun e w' => e = .returned (.tuple #[.int .i64 (pN bt), .int .i64 (bE bt)]) ∧ w' = W) := probes_any bt
  have HRPr : Hid (∀ W, Calls Try.prog 10 #[.int .i64 bt] W fun e w' => e = .returned (.tuple #[.int .i64 (pN bt), .int .i64 (bE bt)]) ∧ w' = W) := rprobes_any bt
  have hXB := bL_byt ks bt
  have hXL := bL_len ks bt hl
  generalize bL ks bt = X at *
  generalize bE bt = E at *
  generalize pN bt = pn at *
  obtain ⟨n, hn⟩ : ∃ n, X.length = n := ⟨_, rfl⟩
  rw [hn] at HBu HRBu hXL
  have HXA : Hid (∀ W base av, Fresh W base av X → Arg W av n X) := fun W base av h => by rw [← hn]; exact h.arg hXB (by rw [hn]; omega)
  have HTX : Hid (∀ (W : World) (av : Option Addr) (base : Nat) (cc : Option Addr) (cap2 : Nat), Fresh W base av X → Arg W cc n X → Calls Try.prog 12 #[.slice av n n, .slice cc n cap2] W fun e w' => e = .returned (.bool true) ∧ ∃ row : Option Nat, W.grownBy w' row ∧ ∀ k, row = some k → base ≤ k ∧ av = some ⟨k, 0, none⟩) := fun W av base cc cap2 h1 h2 => told_any av base n X cc cap2 W h1 hn hXB hXL h2
  have HH : Hid (∀ W, Calls Try.prog 13 #[.string s] W fun e w' => e = .returned (.int .u64 (hsh s)) ∧ w' = W) := fun W => hash_any s W hs
  have HRH : Hid (∀ W, Calls Try.prog 14 #[.string s] W fun e w' => e = .returned (.int .u64 (hsh s)) ∧ w' = W) := fun W => hashr_any s W hs
  generalize hsh s = hv at *
  have e1 : (E != E) = false := by simp
  have e2 : (pn != pn) = false := by simp
  have e3 : (hv != hv) = false := by simp
  have HXN : Hid (X.length = n) := hn
  have HUn : Hid (∀ (W : World) (pa qa : Option Addr) (pc qc : Nat), Arg W pa lc1 l → Arg W qa ld1 m → Calls Try.prog 15 #[.slice pa lc1 pc, .slice qa ld1 qc] W fun e w' => ∃ av, e = .returned (.tuple #[.slice av (uL l m).length (uL l m).length, .int .i64 (uE l m)]) ∧ Fresh w' W.heap.size av (uL l m) ∧ Below W.heap.size W w') := fun W pa qa pc qc h1 h2 => union_any pa qa lc1 pc ld1 qc l m W h1 h2
  have HRUn : Hid (∀ (W : World) (pa qa : Option Addr) (pc qc : Nat), Arg W pa lc1 l → Arg W qa ld1 m → Calls Try.prog 16 #[.slice pa lc1 pc, .slice qa ld1 qc] W fun e w' => ∃ av cv, e = .returned (.tuple #[.slice av (uL l m).length cv, .int .i64 (uE l m)]) ∧ Arg w' av (uL l m).length (uL l m) ∧ Below W.heap.size W w') := fun W pa qa pc qc h1 h2 => runion_any pa qa lc1 pc ld1 qc l m W h1 h2 hlc hld
  have hUB := uL_byt l m
  have hUL := uL_len l m (by rw [hC.len]; exact hlc)
  generalize uL l m = U at *
  generalize uE l m = V at *
  obtain ⟨nU, hnU⟩ : ∃ n, U.length = n := ⟨_, rfl⟩
  rw [hnU] at HUn HRUn hUL
  have HTU : Hid (∀ (W : World) (av : Option Addr) (base : Nat) (cc : Option Addr) (cap2 : Nat), Fresh W base av U → Arg W cc nU U → Calls Try.prog 12 #[.slice av nU nU, .slice cc nU cap2] W fun e w' => e = .returned (.bool true) ∧ ∃ row : Option Nat, W.grownBy w' row ∧ ∀ k, row = some k → base ≤ k ∧ av = some ⟨k, 0, none⟩) := fun W av base cc cap2 h1 h2 => told_any av base nU U cc cap2 W h1 hnU hUB (by omega) h2
  have HCk : Hid (∀ (W : World) (pa : Option Addr) (pc : Nat), Arg W pa lc1 l → Calls Try.prog 17 #[.slice pa lc1 pc] W fun e w' => e = .returned (.int .i64 (chk l)) ∧ w' = W) := fun W pa pc h => check_any pa lc1 pc l W h
  have HRCk : Hid (∀ (W : World) (pa : Option Addr) (pc : Nat), Arg W pa lc1 l → Calls Try.prog 18 #[.slice pa lc1 pc] W fun e w' => e = .returned (.int .i64 (chk l)) ∧ w' = W) := fun W pa pc h => rcheck_any pa lc1 pc l W h
  have HM1 : Hid (∀ (W : World) (pa : Option Addr) (pc : Nat), Arg W pa lc1 l → Calls Try.prog 19 #[.slice pa lc1 pc, .string s] W fun e w' => e = .returned (.bool (mayB l s)) ∧ Below W.heap.size W w') := fun W pa pc h => may_any pa lc1 pc l s W hs h
  have HRM1 : Hid (∀ (W : World) (pa : Option Addr) (pc : Nat), Arg W pa lc1 l → Calls Try.prog 20 #[.slice pa lc1 pc, .string s] W fun e w' => e = .returned (.bool (mayB l s)) ∧ Below W.heap.size W w') := fun W pa pc h => rmay_any pa lc1 pc l s W hs h
  have HM2 : Hid (∀ (W : World) (pa : Option Addr) (pc : Nat), Arg W pa ld1 m → Calls Try.prog 19 #[.slice pa ld1 pc, .string s] W fun e w' => e = .returned (.bool (mayB m s)) ∧ Below W.heap.size W w') := fun W pa pc h => may_any pa ld1 pc m s W hs h
  have HRM2 : Hid (∀ (W : World) (pa : Option Addr) (pc : Nat), Arg W pa ld1 m → Calls Try.prog 20 #[.slice pa ld1 pc, .string s] W fun e w' => e = .returned (.bool (mayB m s)) ∧ Below W.heap.size W w') := fun W pa pc h => rmay_any pa ld1 pc m s W hs h
  generalize chk l = C at *
  generalize mayB l s = m1 at *
  generalize mayB m s = m2 at *
  have HZ : Hid (∀ W : World, Calls Try.prog 7 #[.slice none 0 0, .int .i64 10] W fun e w' => e = .returned (.tuple #[.slice (some ⟨W.heap.size, 0, none⟩) 9 9, .int .i64 0]) ∧ Row w' W.heap.size [0, 0, 0, 0, 0, 0, 0, 0, 6] ∧ Below W.heap.size W w') := fun W => by
    have := build_ok none 0 [] 10 W ⟨by simp, .inl rfl⟩ (by simp) (by omega) (by omega)
    rw [z10] at this; exact this
  have HZA : Hid (∀ W B, Row W B [0, 0, 0, 0, 0, 0, 0, 0, 6] → Arg W (some ⟨B, 0, none⟩) 9 [0, 0, 0, 0, 0, 0, 0, 0, 6]) := fun W B h => h.arg (by intro x hx; simp at hx; omega) (by simp)
  have HZS : Hid (bstr [0, 0, 0, 0, 0, 0, 0, 0, 6] = ⟨#[0, 0, 0, 0, 0, 0, 0, 0, 6]⟩) := z10s
  have e4 : (V == V) = true := by simp
  have e5 : (C == C) = true := by simp
  have e6 : (m1 == m1) = true := by simp
  have e7 : (m2 == m2) = true := by simp
  clear hnU hUB
  clear hn hXB hA hC hD
  go_enter Try.func3, Try.ntmps3
  go_wp2_with (first
    | (go_at_call 14; refine (HRH.out _).mono ?_; rintro e w9 ⟨rfl, hw9⟩; have hw8 := hw9.symm; subst hw8; clear hw9)
    | (go_at_call 13; refine (HH.out _).mono ?_; rintro e w9 ⟨rfl, hw9⟩; have hw8 := hw9.symm; subst hw8; clear hw9)
    | (go_at_call 12; refine (HTX.out _ _ _ _ _ hx5 hy5).mono ?_; rintro e w6 ⟨rfl, row, hg6, hrow⟩)
    | (go_at_call 11; have h4 := hp4; refine (own_any d ld1 cd1 m _ (HD.out.below (B3.trans (hb4.mono B3.size))) hld).mono ?_; rintro e w5 ⟨qa, qc, rfl, hq5, hb5⟩; have hx5 := (hx3.below hb4).below hb5; have hy5 := HXA.out _ _ _ ((hy3.below hb4).below hb5))
    | (go_at_call 11; refine (own_any c lc1 cc1 l _ (HC.out.below B3) hlc).mono ?_; rintro e w4 ⟨pa, pc, rfl, hp4, hb4⟩)
    | (go_at_call 10; refine (HRPr.out _).mono ?_; rintro e w9 ⟨rfl, hw9⟩; have hw8 := hw9.symm; subst hw8; clear hw9)
    | (go_at_call 9; refine (HPr.out _).mono ?_; rintro e w9 ⟨rfl, hw9⟩; have hw8 := hw9.symm; subst hw8; clear hw9)
    | (go_at_call 8; refine (HRBu.out _ _ _ (HA.out.below B2)).mono ?_; rintro e w3 ⟨ay, rfl, hy3, hb3⟩; have B3 := B2.trans (hb3.mono B2.size); have hx3 := hx2.below hb3)
    | (go_at_call 7; refine (HBu.out _ _ _ hS1).mono ?_; rintro e w2 ⟨ax, rfl, hx2, hb2⟩; have B2 := hb1.trans (hb2.mono hb1.size))
    | (refine wpl_copy2 (by rfl) rfl _ _ (by rfl) (by rfl) (by rfl) HA.out HL.out ?_; intro la lcap w1 hS1 hb1))
  -- what stands behind the first part
  have B4 := B3.trans (hb4.mono B3.size)
  have B5 := B4.trans (hb5.mono B4.size)
  have z1 := hb1.size
  have z2 := hb2.size
  have z3 := hb3.size
  have z4 := hb4.size
  have z5 := hb5.size
  have hrowlt : ∀ k, row = some k → w.heap.size ≤ k ∧ w1.heap.size ≤ k ∧ k < w3.heap.size := fun k hk => by
    obtain ⟨h1, h2⟩ := hrow k hk
    refine ⟨by omega, h1, ?_⟩
    rcases hx3 with ⟨h, _⟩ | ⟨B, h, _, hr⟩
    · rw [h] at h2; cases h2
    · rw [h] at h2; cases h2; exact hr.lt
  have B6 : Below w.heap.size w w6 := B5.grown hg6 (by omega) (fun k hk => (hrowlt k hk).1)
  have C6 : Below w1.heap.size w1 w6 := (((((hb2.trans (hb3.mono z2)).trans (hb4.mono (by omega))).trans (hb5.mono (by omega)))).grown hg6 (by omega) (fun k hk => (hrowlt k hk).2.1))
  have hSl := hS1.below C6
  have hp6 : OwnB w6 w3.heap.size (.slice pa lc1 pc) l := (hp4.below hb5 (Nat.le_refl _)).grown hg6 (fun k hk e => by have h1 := (hp4.lt k hk).1; have h2 := (hrowlt k e).2.2; omega)
  have hq6 : OwnB w6 w4.heap.size (.slice qa ld1 qc) m := hq5.grown hg6 (fun k hk e => by have h1 := (hq5.lt k hk).1; have h2 := (hrowlt k e).2.2; omega)
  clear hg6 hrow hrowlt hx5 hy5 hx3 hy3 hx2 hp4 hq5 hb1 hb2 hb3 hb4 hb5 B2 B3 B4 B5 C6 hS1 z1 z2 z3 z4 z5 hmk
  have hlL := HC.out.len
  have hmL := HD.out.len
  have hlB := HC.out.2.1
  have hmB := HD.out.2.1
  obtain ⟨pa', pc', hpe, hpA⟩ := hp6.arg hlB (by omega)
  obtain ⟨qa', qc', hqe, hqA⟩ := hq6.arg hmB (by omega)
  rw [hlL] at hpe hpA
  rw [hmL] at hqe hqA
  cases hpe
  cases hqe
  clear hp6 hq6 hlL hmL hlB hmB
  go_loopw [22] (fun i wr => ∃ k : Nat, k ≤ ks.length ∧ i = .int .i64 k ∧ Below w6.heap.size w6 wr) (fun i _ => ((ks.length : Int) - intOf i).toNat)
  case atStart => exact ⟨0, Nat.zero_le _, rfl, Below.refl _ _⟩
  case round =>
    obtain ⟨k, hk, rfl, hbk⟩ := hrel
    by_cases hlk : k < ks.length
    · obtain ⟨kb, koff, rfl, hklt, hkc⟩ : ∃ b off, a = some ⟨b, off, none⟩ ∧ b < w.heap.size ∧ ∀ j, (h : j < ks.length) → w.cell? ⟨b, off + j, none⟩ = some (.string ks[j]) := by
        rcases HA.out.2 with h | h
        · rw [h] at hlk; simp at hlk
        · exact h
      obtain ⟨tb, toff, rfl, htlt, htc⟩ : ∃ b off, la = some ⟨b, off, none⟩ ∧ b < w6.heap.size ∧ ∀ j, (h : j < ks.length) → w6.cell? ⟨b, off + j, none⟩ = some (.string ks[j]) := by
        rcases hSl.2 with h | h
        · rw [h] at hlk; simp at hlk
        · exact h
      have c1 := ((B6.trans (hbk.mono B6.size)).cell (p := ⟨kb, koff + k, none⟩) hklt).trans (hkc k hlk)
      have c2 := (hbk.cell (p := ⟨tb, toff + k, none⟩) htlt).trans (htc k hlk)
      clear hkc htc
      generalize ks[k] = kk at c1 c2
      have hse : (kk.toList == kk.toList) = true := by simp
      have hse3 : (!(kk.toList == kk.toList)) = false := by simp
      go_wp2
      go_quiet (fail)
      go_wp2
      go_roundw
      case rel => exact ⟨k + 1, by omega, by go_num, hbk.trans ⟨rfl, rfl, rfl, Nat.le_refl _, fun _ _ => rfl⟩⟩
      case measure => simp [intOf]; omega
    · have hki : ¬ ((k : Int) < (ks.length : Int)) := by omega
      obtain ⟨WD, hWD⟩ : ∃ WD, WD = wr := ⟨_, rfl⟩
      rw [← hWD] at hbk ⊢
      clear hWD
      have hBD := B6.trans (hbk.mono B6.size)
      have hpD := hpA.below hbk
      have hqD := hqA.below hbk
      have hcD := HC.out.below hBD
      have hdD := HD.out.below hBD
      clear hbk hpA hqA hSl B6
      go_wp2_with (first
        | (go_at_call 7; refine (HZ.out _).mono ?_; rintro e w15 ⟨rfl, hr15, hb15⟩; have hcz := (HZA.out _ _ hr15).str (cap := 9); rw [HZS.out] at hcz; replace hbC := hbC.trans (hb15.mono hbC.size); have s1 := (hpD.below hbC).str (cap := pc); have s2 := (hqD.below hbC).str (cap := qc); have s3 := (hcD.below hbC).str (cap := cc1); have s4 := (hdD.below hbC).str (cap := cd1))
        | (go_at_call_of 20 (Value.slice d ld1 cd1); refine (HRM2.out _ _ _ (hdD.below hbC)).mono ?_; rintro e wn ⟨rfl, hbn⟩; replace hbC := hbC.trans (hbn.mono hbC.size); clear hbn)
        | (go_at_call_of 20 (Value.slice c lc1 cc1); refine (HRM1.out _ _ _ (hcD.below hbC)).mono ?_; rintro e wn ⟨rfl, hbn⟩; replace hbC := hbC.trans (hbn.mono hbC.size); clear hbn)
        | (go_at_call_of 19 (Value.slice qa ld1 qc); refine (HM2.out _ _ _ (hqD.below hbC)).mono ?_; rintro e wn ⟨rfl, hbn⟩; replace hbC := hbC.trans (hbn.mono hbC.size); clear hbn)
        | (go_at_call_of 19 (Value.slice pa lc1 pc); refine (HM1.out _ _ _ (hpD.below hbC)).mono ?_; rintro e wn ⟨rfl, hbn⟩; replace hbC := hbC.trans (hbn.mono hbC.size); clear hbn)
        | (go_at_call 18; refine (HRCk.out _ _ _ (hcD.below hbC)).mono ?_; rintro e w9 ⟨rfl, hw9⟩; have hw8 := hw9.symm; subst hw8; clear hw9)
        | (go_at_call 17; refine (HCk.out _ _ _ (hpD.below hbC)).mono ?_; rintro e w9 ⟨rfl, hw9⟩; have hw8 := hw9.symm; subst hw8; clear hw9)
        | (go_at_call 12; refine (HTU.out _ _ _ _ _ hu9 hw9).mono ?_; rintro e w10 ⟨rfl, row2, hg10, hrow2⟩; replace hbC := hbC.grown hg10 hbC.size (fun k hk => (hrow2 k hk).1); clear hg10 hrow2 hu9 hw9)
        | (go_at_call 16; refine (HRUn.out _ _ _ _ _ (hcD.below hb8) (hdD.below hb8)).mono ?_; rintro e w9 ⟨aw, cw, rfl, hw9, hb9⟩; have hbC := hb8.trans (hb9.mono hb8.size); have hu9 := hu8.below hb9)
        | (go_at_call 15; refine (HUn.out _ _ _ _ _ hpD hqD).mono ?_; rintro e w8 ⟨au, rfl, hu8, hb8⟩))
      go_ret
      exact ⟨by simp, hBD.trans (hbC.mono hBD.size)⟩
end Go.Proofs.Ytbmljdeenbokmaa
