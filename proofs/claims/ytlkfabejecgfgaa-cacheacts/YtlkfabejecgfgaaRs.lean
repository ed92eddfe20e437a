/-
  The reference's Free (printed by genfree.py).
-/
import Derived.Test.YtlkfabejecgfgaaRo
import Derived.Test.YtlkfabejecgfgaaFf
import Derived.Deep.RegionHeldLaw
namespace Go.Proofs.Ytlkfabejecgfgaa
open Go.RowKit Go.Maps
set_option linter.unusedVariables false
set_option linter.unusedSimpArgs false
section
variable {w : World} {R : Lr} {room : Nat} {vs : List Vw} {pv : Value} {s : Cs}
set_option maxRecDepth 100000 in
set_option maxHeartbeats 8000000 in
theorem rfree_any (h : Rx w R room vs pv s) (c : Ci s) (hkz : ∀ (i : Nat) (x : Xs) (j : Nat) (e : En), s.xs[i]? = some x → x.ent[j]? = some e → e.key.size ≤ maxLen) {p : Int} (hI : I64 p) :
    Calls Try.prog 32 #[.pointer (some ⟨R.cb, 0, none⟩), .int .i64 p] w fun r w' => r = .returned (.int .i64 (freeC s p).1) ∧ Ro w R vs pv w' room (freeC s p).2 := by
  have HP := rpin_any h hI
  cases hp : s.pin p with
  | none =>
    have e1 : freeC s p = (111, s) := by unfold freeC; rw [hp]
    rw [e1]
    rw [hp] at HP
    have h' : Hid _ := h
    clear h e1
    go_enter Try.func32, Try.ntmps32
    go_wp2_with (go_at_call 63; refine HP.mono ?_; rintro e' w1 ⟨rfl, hw⟩; have hw' := hw.symm; subst hw')
    go_ret
    exact ⟨rfl, R, vs, pv, rfl, h'.out, Upd.refl _ _, fun k hk => .inl hk⟩
  | some ij =>
    obtain ⟨i, j⟩ := ij
    obtain ⟨x, hx, hjx⟩ := c.pr i j (by
      unfold Cs.pin at hp
      split at hp
      · rw [List.getD_eq_getElem?_getD] at hp
        cases hq : s.P[(p - 1).toNat]? with
        | none => rw [hq] at hp; cases hp
        | some o => rw [hq] at hp; simp at hp; rw [hp] at hq; exact List.mem_of_getElem? hq
      · cases hp)
    obtain ⟨e, he⟩ : ∃ e, x.ent[j]? = some e := ⟨_, List.getElem?_eq_getElem hjx⟩
    obtain ⟨v, hv, V, hl1, hl2⟩ := h.get c hx
    have hev : v.ent[j]? = some e := by rw [V.e]; exact he
    have hjl := lt_of_get hev
    rw [hp] at HP
    obtain ⟨g, N, vc, m, w2, hpm, hmN, hN, hrun, c2, z2, w3, hw3, c3, z3, w4, hw4, c4, z4, w5, hw5, hp0, hp1, F5, U5, hgw⟩ := free_mid h c hp hx he hv
    have I := c.iv i x hx
    have S := h.su i x hx
    obtain ⟨U1, U2, U3⟩ := V.unpin I S he hp0 s.r
    have Sn := S.unpin I he hp0 s.r
    have hks := c.ks i x j e hx he
    have n1 := c.n1
    have n2 := c.n2
    have hi : i < s.xs.length := (List.getElem?_eq_some_iff.1 hx).1
    have HS := rshard_any F5 c.n1 c.n2 e.key (hkz i x j e hx he)
    rw [hks] at HS
    have e1 : freeC s p = (0, { s with xs := s.xs.set i (unpinX x j s.r), P := s.P.set (p - 1).toNat none }) := by unfold freeC; rw [hp]; simp only [xs_get hx]; rfl
    have FINAL : Hid (∀ w' v', Rf w' R s.xs.length room s.st (vs.set i v') (.slice (some ⟨g, 0, none⟩) N vc) (s.P.set (p - 1).toNat none) → Vx v' (unpinX x j s.r) → v'.ent.length = v.ent.length → Upd (Rb R vs pv) w w' → Ro w R vs pv w' room { s with xs := s.xs.set i (unpinX x j s.r), P := s.P.set (p - 1).toNat none }) := fun w' v' F V' hl U =>
      ⟨R, _, _, rfl, h.setx hx hv F V' Sn (by rw [List.length_set]; exact h.pl), U, fun a ha => Rb.pin (w := w) hv hl (.inr (fun k hk => by cases hk; exact hgw)) ha⟩
    rw [e1]
    have hv5 : (vs.set i { v with ent := v.ent.set j { e with pins := e.pins - 1 } })[i]? = some { v with ent := v.ent.set j { e with pins := e.pins - 1 } } := by rw [vset_get hv, if_pos rfl]
    have he5 : (v.ent.set j { e with pins := e.pins - 1 })[j]? = some { e with pins := e.pins - 1 } := by rw [set_get hev, if_pos rfl]
    have I5 := F5.it i _ j _ hv5 he5
    have k0 : w5.cell? ⟨R.bd i j, 0, none⟩ = some (.string e.key) := I5.cell1 0 _ rfl
    have k3 : w5.cell? ⟨R.bd i j, 3, none⟩ = some (.bool (v.inn j)) := I5.cell1 3 _ rfl
    have k4 : w5.cell? ⟨R.bd i j, 4, none⟩ = some (.int .i64 ((e.pins : Int) - 1)) := by
      have e9 : ((e.pins - 1 : Nat) : Int) = (e.pins : Int) - 1 := by omega
      rw [← e9]; exact I5.cell1 4 _ rfl
    have g5 : (w.alloc (.cells #[] 85)).cell? ⟨R.cb, 5, none⟩ = some pv := (h.rf.blk.alloc _).cell1 5 _ rfl
    obtain ⟨pq, pqc, hpq⟩ := rowq_len h.rf.pr
    rw [hpq] at c3 g5 hrun
    clear hpq
    replace hw3 := hw3.symm
    replace hw4 := hw4.symm
    replace hw5 := hw5.symm
    have hwr : IntKind.i64.wrap ((e.pins : Int) - 1) = (e.pins : Int) - 1 := by rw [IntKind.wrap_i64] <;> omega
    have hm1 : (m : Int) + 1 - 1 = m := by omega
    have hmN' : (m : Int) < N := by omega
    have F5' : Hid _ := F5
    have U5' : Hid _ := U5
    have hrr := h.rr
    have hrm := h.rm
    have hchg : ∀ (a : Nat) (f : En), (v.ent.set j { e with pins := e.pins - 1 })[a]? = some f → f.chg < 18446744073709551616 := fun a f hf => by
      rw [set_get hev] at hf
      split at hf
      · cases hf; exact S.c j e he
      · exact S.c a f (by rw [← V.e]; exact hf)
    have hel := c.el i x hx
    have hqe := I.qle
    have hpl := h.pl
    have hwl : v.wl.length + 1 ≤ x.ent.length := by
      rw [V.q]
      have := nd_le x.ent.length (j :: x.q) (List.nodup_cons.2 ⟨fun hq => by
        obtain ⟨e', a1, a2, _⟩ := (I.qe j).1 hq
        rw [he] at a1; cases a1; omega, I.nd⟩) (fun a ha => by
        rcases List.mem_cons.1 ha with rfl | ha
        · exact hjx
        · obtain ⟨e', a1, _⟩ := (I.qe a).1 ha
          exact lt_of_get a1)
      simpa using this
    clear e1 hp Sn I S V I5 F5 U5 h c hqe hx he hks hev hkz
    by_cases hc : 1 < e.pins
    · have hgt : (0 : Int) < (e.pins : Int) - 1 := by omega
      have V' := U1 hc
      clear U1 U2 U3
      subst hpm
      go_enter Try.func32, Try.ntmps32
      go_wp2_with (first | (go_at_call 63; refine HP.mono ?_; rintro e' w1 ⟨rfl, hw⟩; have hw' := hw.symm; subst hw') | (at_builtin; refine Lib.wpList_append_run _ rfl _ _ _ _ rfl _ _ rfl rfl _ _ hrun ?_))
      go_ret
      exact ⟨rfl, FINAL.out _ _ F5'.out V' (by simp) U5'.out⟩
    · have hc1 : e.pins = 1 := by omega
      have hgt : ¬ (0 : Int) < (e.pins : Int) - 1 := by omega
      cases hin : v.inn j with
      | false =>
        rw [hin] at k3
        have V' := U2 hc1 hin
        have HG := gone_any F5'.out hv5 he5 n2 hl1 hl2
        clear U1 U2 U3 hc1
        subst hpm
        go_enter Try.func32, Try.ntmps32
        go_wp2_with (first | (go_at_call 63; refine HP.mono ?_; rintro e' w1 ⟨rfl, hw⟩; have hw' := hw.symm; subst hw') | (at_builtin; refine Lib.wpList_append_run _ rfl _ _ _ _ rfl _ _ rfl rfl _ _ hrun ?_) | (go_at_call 12; refine HS.mono ?_; rintro e' w6 ⟨rfl, hw6⟩; have hw6' := hw6.symm; subst hw6') | (go_at_call 64; refine HG.mono ?_; rintro e' w7 ⟨rfl, F7, U7⟩))
        go_ret
        rw [List.set_set] at F7
        exact ⟨rfl, FINAL.out _ _ F7 V' (by show (v.ent.set j _).length = _; simp) (U5'.out.then U7 (fun k _ hk => by
          rcases Rb.pin (w := w) hv (by simp) (.inr (fun k hk => by cases hk; exact hgw)) hk with e | e
          · exact e
          · omega))⟩
      | true =>
        rw [hin] at k3
        have V' := U3 hc1 hin
        clear U1 U2 U3 hc1
        have F5 := F5'.out
        obtain ⟨lc, lB, ll, lcc⟩ := F5.wr.ex
        obtain ⟨u, hu, rL, _⟩ := lcc i hi
        rw [vws_get hv5] at rL
        obtain ⟨la, lcp, hla⟩ := rowq_len rL
        obtain ⟨nL, hnL⟩ : ∃ x, (bds R i v.wl).length = x := ⟨_, rfl⟩
        have hla' : u = .slice la nL lcp := by rw [← hnL]; exact hla
        clear hla
        subst hla'
        obtain ⟨L0, hL0⟩ : ∃ L, bds R i v.wl = L := ⟨_, rfl⟩
        have hLl : L0.length = v.wl.length := by rw [← hL0]; unfold bds; simp
        obtain ⟨n, hn⟩ : ∃ n, s.xs.length = n := ⟨_, rfl⟩
        rw [hn] at F5
        have KB : Hid (∀ W, Upd Non w5 W → Blk W R.wb 68 lc ∧ Blk W R.cb 70 (rfC R n room s.st (.slice (some ⟨g, 0, none⟩) N vc))) := fun W hW => ⟨lB.upd hW (fun e => e), F5.blk.upd hW (fun e => e)⟩
        have FIN9 : Hid (∀ (W : World) (u : Value), Upd Non w5 W → RowQ W w5.heap.size u ([] ++ L0 ++ [some (R.bd i j)]) → Rf (W.setCell ⟨R.wb, i, none⟩ u) R n room s.st (vs.set i { v with ent := v.ent.set j { e with pins := e.pins - 1 }, wl := v.wl ++ [j] }) (.slice (some ⟨g, 0, none⟩) N vc) (s.P.set (p - 1).toNat none) ∧ Upd (Rb R vs pv) w (W.setCell ⟨R.wb, i, none⟩ u)) := fun W u hW hu' => by
          have FW := F5.grow hW
          have p2 : ∀ k, u.ownBlock = some k → (Value.slice (some ⟨g, 0, none⟩) N vc).ownBlock ≠ some k := fun k hk hk' => by
            have a1 := (row_blk hu' k hk).1
            have a2 := (row_blk F5.pr k hk').2
            omega
          have hrow : RowQ W 0 u (bds R i (v.wl ++ [j])) := by
            rw [bds_snoc, hL0]
            have := rowq_base hu'
            simpa using this
          obtain ⟨F6, U6⟩ := FW.setW hv5 hrow p2 (fun a ha => by
            rcases List.mem_append.1 ha with ha | ha
            · exact (F5.llr i _ hv5).2 a ha
            · simp at ha; simp; omega)
          rw [List.set_set] at F6
          exact ⟨F6, (U5'.out.then hW (fun k _ hk => hk.elim)).then U6 (fun k _ hk => .inr (.inr (.inl hk)))⟩
        have hvz : (vs.set i { v with ent := v.ent.set j { e with pins := e.pins - 1 }, wl := v.wl ++ [j] })[i]? = some { v with ent := v.ent.set j { e with pins := e.pins - 1 }, wl := v.wl ++ [j] } := by rw [vset_get hv, if_pos rfl]
        have MK : Hid (∀ W, Rf W R n room s.st (vs.set i { v with ent := v.ent.set j { e with pins := e.pins - 1 }, wl := v.wl ++ [j] }) (.slice (some ⟨g, 0, none⟩) N vc) (s.P.set (p - 1).toNat none) → Calls Try.prog 56 #[.pointer (some ⟨R.cb, 0, none⟩), .int .i64 i, .int .u64 0] W _) := fun W F => makes_any F hvz (by omega) (by omega) hl1 (by simp only [List.length_append, List.length_cons, List.length_nil]; omega) hchg (c := 0) (by decide) hrm
        rw [hrr] at V'
        rw [hn] at V' FINAL
        have END : Hid (∀ (W6 W7 : World), Upd (Rb R vs pv) w W6 → Rf W7 R n room s.st ((vs.set i { v with ent := v.ent.set j { e with pins := e.pins - 1 }, wl := v.wl ++ [j] }).set i (vroom 0 (room / n) (v.wl ++ [j]).length { v with ent := v.ent.set j { e with pins := e.pins - 1 }, wl := v.wl ++ [j] })) (.slice (some ⟨g, 0, none⟩) N vc) (s.P.set (p - 1).toNat none) → Upd (Rb R (vs.set i { v with ent := v.ent.set j { e with pins := e.pins - 1 }, wl := v.wl ++ [j] }) (.slice (some ⟨g, 0, none⟩) N vc)) W6 W7 → Ro w R vs pv W7 room { s with xs := s.xs.set i (unpinX x j s.r), P := s.P.set (p - 1).toNat none }) := fun W6 W7 U6 F7 U7 => by
          rw [List.set_set] at F7
          refine FINAL.out _ _ F7 (by rw [hrr, hn]; exact V') (by rw [vroom_ent]; simp) (U6.then U7 (fun k _ hk => ?_))
          rcases Rb.pin (w := w) hv (by simp) (.inr (fun k hk => by cases hk; exact hgw)) hk with e | e
          · exact e
          · omega
        have HR : Hid (RowQ w5 0 (.slice la nL lcp) L0) := by
          show RowQ w5 0 (.slice la nL lcp) L0
          rw [← hL0]; exact rL
        have hBND : ([] : List (Option Nat)).length + L0.length ≤ 8000000000001 ∧ ([] ++ L0).length + [some (R.bd i j)].length ≤ 8000000000001 := by simp; omega
        have hi' : (i : Int) < n := by omega
        clear F5 lB lcc rL V' FINAL hrr hL0 hLl hnL
        subst hpm
        go_enter Try.func32, Try.ntmps32
        go_wp2_with (first | (go_at_call 63; refine HP.mono ?_; rintro e' w1 ⟨rfl, hw⟩; have hw' := hw.symm; subst hw') | (at_builtin; refine Lib.wpList_append_run _ rfl _ _ _ _ rfl _ _ rfl rfl _ _ hrun ?_) | (go_at_call 12; refine HS.mono ?_; rintro e' w6 ⟨rfl, hw6⟩; have hw6' := hw6.symm; subst hw6'))
        clear hw3 hw4 hw5 k0 k3 k4 c2 z2 c3 z3 c4 z4 g5 hrun
        have HU0 : Upd Non w5 w5.drew := (Upd.refl Non w5).drew
        refine wp_region_held_drew (S := fun W => W.cell? ⟨R.cb, 4, none⟩ = some (.slice (some ⟨R.wb, 0, none⟩) n n)) (by kernel_rfl) ?_ (fun hHeld => ?_)
        · (try dsimp only); exact (KB.out _ (Upd.refl Non w5)).2.cell1 4 _ rfl
        generalize w5.drew = wd at *
        refine wpAnyH_take (i := 0) (v := ?_) (by simp only [List.getElem?_toArray, List.getElem?_cons_zero, List.getElem?_cons_succ]; rfl) (by kernel_rfl) (by kernel_rfl) (by kernel_rfl) (by intro _ _ _ h; exact h) (Or.inl ⟨by rfl, ?_⟩) (by assumption) ?_
        rotate_left
        · intro w hSw; (try dsimp only at hSw); go_simp; (try with_reducible rfl)
        (try simp only [Act.put, List.setIfInBounds_toArray, List.set_cons_zero, List.set_cons_succ])
        refine wpAnyH_take (i := 1) (v := ?_) (by simp only [List.getElem?_toArray, List.getElem?_cons_zero, List.getElem?_cons_succ]; rfl) (by kernel_rfl) (by kernel_rfl) (by kernel_rfl) (by intro _ _ _ h; exact h) (Or.inl ⟨by rfl, ?_⟩) (by assumption) ?_
        rotate_left
        · intro w hSw; (try dsimp only at hSw); go_simp; (try with_reducible rfl)
        (try simp only [Act.put, List.setIfInBounds_toArray, List.set_cons_zero, List.set_cons_succ])
        refine wpAnyH_take (i := 2) (v := ?_) (by simp only [List.getElem?_toArray, List.getElem?_cons_zero, List.getElem?_cons_succ]; rfl) (by kernel_rfl) (by kernel_rfl) (by kernel_rfl) (by intro _ _ _ h; exact h) (Or.inl ⟨by rfl, ?_⟩) (by assumption) ?_
        rotate_left
        · intro w hSw; (try dsimp only at hSw); go_simp; (try with_reducible rfl)
        (try simp only [Act.put, List.setIfInBounds_toArray, List.set_cons_zero, List.set_cons_succ])
        refine wpAnyH_take (i := 3) (v := ?_) (by simp only [List.getElem?_toArray, List.getElem?_cons_zero, List.getElem?_cons_succ]; rfl) (by kernel_rfl) (by kernel_rfl) (by kernel_rfl) (by intro _ _ _ h; exact h) (Or.inl ⟨by rfl, ?_⟩) (by assumption) ?_
        rotate_left
        · intro w hSw; (try dsimp only at hSw); go_simp; (try with_reducible rfl)
        (try simp only [Act.put, List.setIfInBounds_toArray, List.set_cons_zero, List.set_cons_succ])
        refine wpAnyH_take (i := 4) (v := ?_) (by simp only [List.getElem?_toArray, List.getElem?_cons_zero, List.getElem?_cons_succ]; rfl) (by kernel_rfl) (by kernel_rfl) (by kernel_rfl) (by intro _ _ _ h; exact h) (Or.inl ⟨by rfl, ?_⟩) (by assumption) ?_
        rotate_left
        · intro w hSw; (try dsimp only at hSw); go_simp; (try with_reducible rfl)
        (try simp only [Act.put, List.setIfInBounds_toArray, List.set_cons_zero, List.set_cons_succ])
        refine wpAnyH_take (i := 6) (v := ?_) (by simp only [List.getElem?_toArray, List.getElem?_cons_zero, List.getElem?_cons_succ]; rfl) (by kernel_rfl) (by kernel_rfl) (by kernel_rfl) (by intro _ _ _ h; exact h) (Or.inl ⟨by rfl, ?_⟩) (by assumption) ?_
        rotate_left
        · intro w hSw; (try dsimp only at hSw); go_simp; (try with_reducible rfl)
        (try simp only [Act.put, List.setIfInBounds_toArray, List.set_cons_zero, List.set_cons_succ])
        refine wpAnyH_take (i := 7) (v := ?_) (by simp only [List.getElem?_toArray, List.getElem?_cons_zero, List.getElem?_cons_succ]; rfl) (by kernel_rfl) (by kernel_rfl) (by kernel_rfl) (by intro _ _ _ h; exact h) (Or.inl ⟨by rfl, ?_⟩) (by assumption) ?_
        rotate_left
        · intro w hSw; (try dsimp only at hSw); go_simp; (try with_reducible rfl)
        (try simp only [Act.put, List.setIfInBounds_toArray, List.set_cons_zero, List.set_cons_succ])
        refine wpAnyH_take (i := 8) (v := ?_) (by simp only [List.getElem?_toArray, List.getElem?_cons_zero, List.getElem?_cons_succ]; rfl) (by kernel_rfl) (by kernel_rfl) (by kernel_rfl) (by intro _ _ _ h; exact h) (Or.inl ⟨by rfl, ?_⟩) (by assumption) ?_
        rotate_left
        · intro w hSw; (try dsimp only at hSw); go_simp; (try with_reducible rfl)
        (try simp only [Act.put, List.setIfInBounds_toArray, List.set_cons_zero, List.set_cons_succ])
        refine wpAnyH_take (i := 9) (v := ?_) (by simp only [List.getElem?_toArray, List.getElem?_cons_zero, List.getElem?_cons_succ]; rfl) (by kernel_rfl) (by kernel_rfl) (by kernel_rfl) (by intro _ _ _ h; exact h) (Or.inl ⟨by rfl, ?_⟩) (by assumption) ?_
        rotate_left
        · intro w hSw; (try dsimp only at hSw); go_simp; (try with_reducible rfl)
        (try simp only [Act.put, List.setIfInBounds_toArray, List.set_cons_zero, List.set_cons_succ])
        refine wpAnyH_take (i := 10) (v := ?_) (by simp only [List.getElem?_toArray, List.getElem?_cons_zero, List.getElem?_cons_succ]; rfl) (by kernel_rfl) (by kernel_rfl) (by kernel_rfl) (by intro _ _ _ h; exact h) (Or.inl ⟨by rfl, ?_⟩) (by assumption) ?_
        rotate_left
        · intro w hSw; (try dsimp only at hSw); go_simp; (try with_reducible rfl)
        (try simp only [Act.put, List.setIfInBounds_toArray, List.set_cons_zero, List.set_cons_succ])
        refine wpAnyH_take (i := 11) (v := ?_) (by simp only [List.getElem?_toArray, List.getElem?_cons_zero, List.getElem?_cons_succ]; rfl) (by kernel_rfl) (by kernel_rfl) (by kernel_rfl) (by intro _ _ _ h; exact h) (Or.inl ⟨by rfl, ?_⟩) (by assumption) ?_
        rotate_left
        · intro w hSw; (try dsimp only at hSw); go_simp; (try with_reducible rfl)
        (try simp only [Act.put, List.setIfInBounds_toArray, List.set_cons_zero, List.set_cons_succ])
        refine wpAnyH_take (i := 14) (v := ?_) (by simp only [List.getElem?_toArray, List.getElem?_cons_zero, List.getElem?_cons_succ]; rfl) (by kernel_rfl) (by kernel_rfl) (by kernel_rfl) (by intro _ _ _ h; exact h) (Or.inl ⟨by rfl, ?_⟩) (by assumption) ?_
        rotate_left
        · intro w hSw; (try dsimp only at hSw); go_simp; (try with_reducible rfl)
        (try simp only [Act.put, List.setIfInBounds_toArray, List.set_cons_zero, List.set_cons_succ])
        refine wpAnyH_ready (rs := [5, 12, 15]) (by kernel_rfl) (by simp) ?_
        refine AllReadyH.cons rfl (fun K hK => ?_) ?_
        · have hE : RowQ (wd.alloc (.cells #[] 85)) w5.heap.size (.slice (some ⟨wd.heap.size, 0, none⟩) 0 0) [] := by
            have := row0 wd (b := w5.heap.size) HU0.size
            simpa [cls] using this
          go_simp
          refine hK.out _ _ ((KB.out _ (HU0.alloc (.cells #[] 85))).2.cell1 4 _ rfl) (fun hHeld => ?_)
          clear hK K
          (try simp only [Act.put, List.setIfInBounds_toArray, List.set_cons_zero, List.set_cons_succ])
          refine wpAnyH_ready (rs := [12, 15]) (by kernel_rfl) (by simp) ?_
          refine AllReadyH.cons rfl (fun K hK => ?_) ?_
          · have c12 := (KB.out _ (HU0.alloc (.cells #[] 85))).1.cell1 i _ hu
            go_simp
            refine hK.out _ _ ((KB.out _ (HU0.alloc (.cells #[] 85))).2.cell1 4 _ rfl) (fun hHeld => ?_)
            clear c12
            clear hK K
            (try simp only [Act.put, List.setIfInBounds_toArray, List.set_cons_zero, List.set_cons_succ])
            refine wpAnyH_ready (rs := [13, 15]) (by kernel_rfl) (by simp) ?_
            refine AllReadyH.cons rfl (fun K hK => ?_) ?_
            · refine step_append_q (by rfl) _ _ (by rfl) (by rfl) (by rfl) hE (HU0.alloc (.cells #[] 85)).size (row_upd HR.out (HU0.alloc (.cells #[] 85)) (fun _ _ e => e)) hBND.1 ?_
              intro vA wA hA hUA
              have HUA : Upd Non w5 wA := Upd.then (HU0.alloc (.cells #[] 85)) hUA (fun a ha hs => absurd (row_blk hE a hs).1 (by omega))
              refine hK.out _ _ ((KB.out _ HUA).2.cell1 4 _ rfl) (fun hHeld => ?_)
              clear hUA hE
              clear hK K
              (try simp only [Act.put, List.setIfInBounds_toArray, List.set_cons_zero, List.set_cons_succ])
              refine wpAnyH_ready (rs := [15]) (by kernel_rfl) (by simp) ?_
              refine AllReadyH.cons rfl (fun K hK => ?_) ?_
              · have hB : RowQ (wA.alloc (.cells #[.pointer (some ⟨R.bd i j, 0, none⟩)] 85)) w5.heap.size (.slice (some ⟨wA.heap.size, 0, none⟩) 1 1) [some (R.bd i j)] := by
                  have := row1 wA (b := w5.heap.size) HUA.size (R.bd i j)
                  simpa [cls, pc, pa] using this
                have hA := row_upd hA ((Upd.refl Non _).alloc (.cells #[.pointer (some ⟨R.bd i j, 0, none⟩)] 85)) (fun _ _ e => e)
                go_simp
                refine hK.out _ _ ((KB.out _ (HUA.alloc (.cells #[.pointer (some ⟨R.bd i j, 0, none⟩)] 85))).2.cell1 4 _ rfl) (fun hHeld => ?_)
                clear hK K
                (try simp only [Act.put, List.setIfInBounds_toArray, List.set_cons_zero, List.set_cons_succ])
                refine wpAnyH_ready (rs := [16]) (by kernel_rfl) (by simp) ?_
                refine AllReadyH.cons rfl (fun K hK => ?_) ?_
                · refine step_append_q (by rfl) _ _ (by rfl) (by rfl) (by rfl) hA (HUA.alloc (.cells #[.pointer (some ⟨R.bd i j, 0, none⟩)] 85)).size hB hBND.2 ?_
                  intro vN wN hN hUN
                  have HUN : Upd Non w5 wN := Upd.then (HUA.alloc (.cells #[.pointer (some ⟨R.bd i j, 0, none⟩)] 85)) hUN (fun a ha hs => absurd (row_blk hA a hs).1 (by omega))
                  obtain ⟨ya, yc, hy9⟩ := rowq_len hN
                  obtain ⟨yn, hyn⟩ : ∃ x, ([] ++ L0 ++ [some (R.bd i j)]).length = x := ⟨_, rfl⟩
                  rw [hyn] at hy9
                  subst hy9
                  refine hK.out _ _ ((KB.out _ HUN).2.cell1 4 _ rfl) (fun hHeld => ?_)
                  clear hUN hA hB
                  clear hK K
                  (try simp only [Act.put, List.setIfInBounds_toArray, List.set_cons_zero, List.set_cons_succ])
                  refine wpAnyH_take (i := 17) (v := ?_) (by simp only [List.getElem?_toArray, List.getElem?_cons_zero, List.getElem?_cons_succ]; rfl) (by kernel_rfl) (by kernel_rfl) (by kernel_rfl) (by intro _ _ _ h; exact h) (Or.inl ⟨by rfl, ?_⟩) (by assumption) ?_
                  rotate_left
                  · intro w hSw; (try dsimp only at hSw); go_simp; (try with_reducible rfl)
                  (try simp only [Act.put, List.setIfInBounds_toArray, List.set_cons_zero, List.set_cons_succ])
                  refine wpAnyH_ready (rs := [18]) (by kernel_rfl) (by simp) ?_
                  refine AllReadyH.cons rfl (fun K hK => ?_) ?_
                  · have kr := (KB.out _ HUN).1
                    have kc := (KB.out _ HUN).2
                    have c8 := kr.cell1 i _ hu
                    have z8 := kr.frozen i
                    have ncr := kc.ne kr (by decide)
                    go_simp
                    refine hK.out _ _ ((kc.other (a := ⟨R.wb, i, none⟩) ncr _).cell1 4 _ rfl) (fun hHeld => ?_)
                    clear c8 z8 kr kc ncr
                    clear hK K
                    (try simp only [Act.put, List.setIfInBounds_toArray, List.set_cons_zero, List.set_cons_succ])
                    refine wpAnyH_done (by kernel_rfl) ?_ _
                    obtain ⟨F6, U6⟩ := FIN9.out _ _ HUN hN
                    clear hN HUN hHeld
                    obtain ⟨w6, hw6⟩ : ∃ W, wN.setCell ⟨R.wb, i, none⟩ (.slice ya yn yc) = W := ⟨_, rfl⟩
                    rw [hw6] at F6 U6
                    (try rw [hw6])
                    clear hw6
                    have HM := MK.out _ F6
                    go_wp2_with (go_at_call 56; refine HM.mono ?_; rintro e9 w7 ⟨rfl, F7, U7⟩)
                    go_ret
                    exact ⟨rfl, END.out _ _ U6 F7 U7⟩
                  exact AllReadyH.nil
                exact AllReadyH.nil
              exact AllReadyH.nil
            refine AllReadyH.cons rfl (fun K hK => ?_) ?_
            · have hB : RowQ ((wd.alloc (.cells #[] 85)).alloc (.cells #[.pointer (some ⟨R.bd i j, 0, none⟩)] 85)) w5.heap.size (.slice (some ⟨wd.heap.size + 1, 0, none⟩) 1 1) [some (R.bd i j)] := by
                have := row1 (wd.alloc (.cells #[] 85)) (b := w5.heap.size) (HU0.alloc (.cells #[] 85)).size (R.bd i j)
                simpa [cls, pc, pa] using this
              have hE := row_upd hE ((Upd.refl Non _).alloc (.cells #[.pointer (some ⟨R.bd i j, 0, none⟩)] 85)) (fun _ _ e => e)
              go_simp
              refine hK.out _ _ ((KB.out _ ((HU0.alloc (.cells #[] 85)).alloc (.cells #[.pointer (some ⟨R.bd i j, 0, none⟩)] 85))).2.cell1 4 _ rfl) (fun hHeld => ?_)
              clear hK K
              (try simp only [Act.put, List.setIfInBounds_toArray, List.set_cons_zero, List.set_cons_succ])
              refine wpAnyH_ready (rs := [13]) (by kernel_rfl) (by simp) ?_
              refine AllReadyH.cons rfl (fun K hK => ?_) ?_
              · refine step_append_q (by rfl) _ _ (by rfl) (by rfl) (by rfl) hE ((HU0.alloc (.cells #[] 85)).alloc (.cells #[.pointer (some ⟨R.bd i j, 0, none⟩)] 85)).size (row_upd HR.out ((HU0.alloc (.cells #[] 85)).alloc (.cells #[.pointer (some ⟨R.bd i j, 0, none⟩)] 85)) (fun _ _ e => e)) hBND.1 ?_
                intro vA wA hA hUA
                have HUA : Upd Non w5 wA := Upd.then ((HU0.alloc (.cells #[] 85)).alloc (.cells #[.pointer (some ⟨R.bd i j, 0, none⟩)] 85)) hUA (fun a ha hs => absurd (row_blk hE a hs).1 (by omega))
                have hB := row_upd hB hUA (fun a ha ha' => absurd (Option.some.inj (show (some (wd.heap.size + 1) : Option Nat) = some (wd.heap.size) from ha.trans ha'.symm)) (by omega))
                refine hK.out _ _ ((KB.out _ HUA).2.cell1 4 _ rfl) (fun hHeld => ?_)
                clear hUA hE
                clear hK K
                (try simp only [Act.put, List.setIfInBounds_toArray, List.set_cons_zero, List.set_cons_succ])
                refine wpAnyH_ready (rs := [16]) (by kernel_rfl) (by simp) ?_
                refine AllReadyH.cons rfl (fun K hK => ?_) ?_
                · refine step_append_q (by rfl) _ _ (by rfl) (by rfl) (by rfl) hA HUA.size hB hBND.2 ?_
                  intro vN wN hN hUN
                  have HUN : Upd Non w5 wN := Upd.then HUA hUN (fun a ha hs => absurd (row_blk hA a hs).1 (by omega))
                  obtain ⟨ya, yc, hy9⟩ := rowq_len hN
                  obtain ⟨yn, hyn⟩ : ∃ x, ([] ++ L0 ++ [some (R.bd i j)]).length = x := ⟨_, rfl⟩
                  rw [hyn] at hy9
                  subst hy9
                  refine hK.out _ _ ((KB.out _ HUN).2.cell1 4 _ rfl) (fun hHeld => ?_)
                  clear hUN hA hB
                  clear hK K
                  (try simp only [Act.put, List.setIfInBounds_toArray, List.set_cons_zero, List.set_cons_succ])
                  refine wpAnyH_take (i := 17) (v := ?_) (by simp only [List.getElem?_toArray, List.getElem?_cons_zero, List.getElem?_cons_succ]; rfl) (by kernel_rfl) (by kernel_rfl) (by kernel_rfl) (by intro _ _ _ h; exact h) (Or.inl ⟨by rfl, ?_⟩) (by assumption) ?_
                  rotate_left
                  · intro w hSw; (try dsimp only at hSw); go_simp; (try with_reducible rfl)
                  (try simp only [Act.put, List.setIfInBounds_toArray, List.set_cons_zero, List.set_cons_succ])
                  refine wpAnyH_ready (rs := [18]) (by kernel_rfl) (by simp) ?_
                  refine AllReadyH.cons rfl (fun K hK => ?_) ?_
                  · have kr := (KB.out _ HUN).1
                    have kc := (KB.out _ HUN).2
                    have c8 := kr.cell1 i _ hu
                    have z8 := kr.frozen i
                    have ncr := kc.ne kr (by decide)
                    go_simp
                    refine hK.out _ _ ((kc.other (a := ⟨R.wb, i, none⟩) ncr _).cell1 4 _ rfl) (fun hHeld => ?_)
                    clear c8 z8 kr kc ncr
                    clear hK K
                    (try simp only [Act.put, List.setIfInBounds_toArray, List.set_cons_zero, List.set_cons_succ])
                    refine wpAnyH_done (by kernel_rfl) ?_ _
                    obtain ⟨F6, U6⟩ := FIN9.out _ _ HUN hN
                    clear hN HUN hHeld
                    obtain ⟨w6, hw6⟩ : ∃ W, wN.setCell ⟨R.wb, i, none⟩ (.slice ya yn yc) = W := ⟨_, rfl⟩
                    rw [hw6] at F6 U6
                    (try rw [hw6])
                    clear hw6
                    have HM := MK.out _ F6
                    go_wp2_with (go_at_call 56; refine HM.mono ?_; rintro e9 w7 ⟨rfl, F7, U7⟩)
                    go_ret
                    exact ⟨rfl, END.out _ _ U6 F7 U7⟩
                  exact AllReadyH.nil
                exact AllReadyH.nil
              exact AllReadyH.nil
            exact AllReadyH.nil
          refine AllReadyH.cons rfl (fun K hK => ?_) ?_
          · have hB : RowQ ((wd.alloc (.cells #[] 85)).alloc (.cells #[.pointer (some ⟨R.bd i j, 0, none⟩)] 85)) w5.heap.size (.slice (some ⟨wd.heap.size + 1, 0, none⟩) 1 1) [some (R.bd i j)] := by
              have := row1 (wd.alloc (.cells #[] 85)) (b := w5.heap.size) (HU0.alloc (.cells #[] 85)).size (R.bd i j)
              simpa [cls, pc, pa] using this
            have hE := row_upd hE ((Upd.refl Non _).alloc (.cells #[.pointer (some ⟨R.bd i j, 0, none⟩)] 85)) (fun _ _ e => e)
            go_simp
            refine hK.out _ _ ((KB.out _ ((HU0.alloc (.cells #[] 85)).alloc (.cells #[.pointer (some ⟨R.bd i j, 0, none⟩)] 85))).2.cell1 4 _ rfl) (fun hHeld => ?_)
            clear hK K
            (try simp only [Act.put, List.setIfInBounds_toArray, List.set_cons_zero, List.set_cons_succ])
            refine wpAnyH_ready (rs := [12]) (by kernel_rfl) (by simp) ?_
            refine AllReadyH.cons rfl (fun K hK => ?_) ?_
            · have c12 := (KB.out _ ((HU0.alloc (.cells #[] 85)).alloc (.cells #[.pointer (some ⟨R.bd i j, 0, none⟩)] 85))).1.cell1 i _ hu
              go_simp
              refine hK.out _ _ ((KB.out _ ((HU0.alloc (.cells #[] 85)).alloc (.cells #[.pointer (some ⟨R.bd i j, 0, none⟩)] 85))).2.cell1 4 _ rfl) (fun hHeld => ?_)
              clear c12
              clear hK K
              (try simp only [Act.put, List.setIfInBounds_toArray, List.set_cons_zero, List.set_cons_succ])
              refine wpAnyH_ready (rs := [13]) (by kernel_rfl) (by simp) ?_
              refine AllReadyH.cons rfl (fun K hK => ?_) ?_
              · refine step_append_q (by rfl) _ _ (by rfl) (by rfl) (by rfl) hE ((HU0.alloc (.cells #[] 85)).alloc (.cells #[.pointer (some ⟨R.bd i j, 0, none⟩)] 85)).size (row_upd HR.out ((HU0.alloc (.cells #[] 85)).alloc (.cells #[.pointer (some ⟨R.bd i j, 0, none⟩)] 85)) (fun _ _ e => e)) hBND.1 ?_
                intro vA wA hA hUA
                have HUA : Upd Non w5 wA := Upd.then ((HU0.alloc (.cells #[] 85)).alloc (.cells #[.pointer (some ⟨R.bd i j, 0, none⟩)] 85)) hUA (fun a ha hs => absurd (row_blk hE a hs).1 (by omega))
                have hB := row_upd hB hUA (fun a ha ha' => absurd (Option.some.inj (show (some (wd.heap.size + 1) : Option Nat) = some (wd.heap.size) from ha.trans ha'.symm)) (by omega))
                refine hK.out _ _ ((KB.out _ HUA).2.cell1 4 _ rfl) (fun hHeld => ?_)
                clear hUA hE
                clear hK K
                (try simp only [Act.put, List.setIfInBounds_toArray, List.set_cons_zero, List.set_cons_succ])
                refine wpAnyH_ready (rs := [16]) (by kernel_rfl) (by simp) ?_
                refine AllReadyH.cons rfl (fun K hK => ?_) ?_
                · refine step_append_q (by rfl) _ _ (by rfl) (by rfl) (by rfl) hA HUA.size hB hBND.2 ?_
                  intro vN wN hN hUN
                  have HUN : Upd Non w5 wN := Upd.then HUA hUN (fun a ha hs => absurd (row_blk hA a hs).1 (by omega))
                  obtain ⟨ya, yc, hy9⟩ := rowq_len hN
                  obtain ⟨yn, hyn⟩ : ∃ x, ([] ++ L0 ++ [some (R.bd i j)]).length = x := ⟨_, rfl⟩
                  rw [hyn] at hy9
                  subst hy9
                  refine hK.out _ _ ((KB.out _ HUN).2.cell1 4 _ rfl) (fun hHeld => ?_)
                  clear hUN hA hB
                  clear hK K
                  (try simp only [Act.put, List.setIfInBounds_toArray, List.set_cons_zero, List.set_cons_succ])
                  refine wpAnyH_take (i := 17) (v := ?_) (by simp only [List.getElem?_toArray, List.getElem?_cons_zero, List.getElem?_cons_succ]; rfl) (by kernel_rfl) (by kernel_rfl) (by kernel_rfl) (by intro _ _ _ h; exact h) (Or.inl ⟨by rfl, ?_⟩) (by assumption) ?_
                  rotate_left
                  · intro w hSw; (try dsimp only at hSw); go_simp; (try with_reducible rfl)
                  (try simp only [Act.put, List.setIfInBounds_toArray, List.set_cons_zero, List.set_cons_succ])
                  refine wpAnyH_ready (rs := [18]) (by kernel_rfl) (by simp) ?_
                  refine AllReadyH.cons rfl (fun K hK => ?_) ?_
                  · have kr := (KB.out _ HUN).1
                    have kc := (KB.out _ HUN).2
                    have c8 := kr.cell1 i _ hu
                    have z8 := kr.frozen i
                    have ncr := kc.ne kr (by decide)
                    go_simp
                    refine hK.out _ _ ((kc.other (a := ⟨R.wb, i, none⟩) ncr _).cell1 4 _ rfl) (fun hHeld => ?_)
                    clear c8 z8 kr kc ncr
                    clear hK K
                    (try simp only [Act.put, List.setIfInBounds_toArray, List.set_cons_zero, List.set_cons_succ])
                    refine wpAnyH_done (by kernel_rfl) ?_ _
                    obtain ⟨F6, U6⟩ := FIN9.out _ _ HUN hN
                    clear hN HUN hHeld
                    obtain ⟨w6, hw6⟩ : ∃ W, wN.setCell ⟨R.wb, i, none⟩ (.slice ya yn yc) = W := ⟨_, rfl⟩
                    rw [hw6] at F6 U6
                    (try rw [hw6])
                    clear hw6
                    have HM := MK.out _ F6
                    go_wp2_with (go_at_call 56; refine HM.mono ?_; rintro e9 w7 ⟨rfl, F7, U7⟩)
                    go_ret
                    exact ⟨rfl, END.out _ _ U6 F7 U7⟩
                  exact AllReadyH.nil
                exact AllReadyH.nil
              exact AllReadyH.nil
            exact AllReadyH.nil
          exact AllReadyH.nil
        refine AllReadyH.cons rfl (fun K hK => ?_) ?_
        · have c12 := (KB.out _ HU0).1.cell1 i _ hu
          go_simp
          refine hK.out _ _ ((KB.out _ HU0).2.cell1 4 _ rfl) (fun hHeld => ?_)
          clear c12
          clear hK K
          (try simp only [Act.put, List.setIfInBounds_toArray, List.set_cons_zero, List.set_cons_succ])
          refine wpAnyH_ready (rs := [5, 15]) (by kernel_rfl) (by simp) ?_
          refine AllReadyH.cons rfl (fun K hK => ?_) ?_
          · have hE : RowQ (wd.alloc (.cells #[] 85)) w5.heap.size (.slice (some ⟨wd.heap.size, 0, none⟩) 0 0) [] := by
              have := row0 wd (b := w5.heap.size) HU0.size
              simpa [cls] using this
            go_simp
            refine hK.out _ _ ((KB.out _ (HU0.alloc (.cells #[] 85))).2.cell1 4 _ rfl) (fun hHeld => ?_)
            clear hK K
            (try simp only [Act.put, List.setIfInBounds_toArray, List.set_cons_zero, List.set_cons_succ])
            refine wpAnyH_ready (rs := [13, 15]) (by kernel_rfl) (by simp) ?_
            refine AllReadyH.cons rfl (fun K hK => ?_) ?_
            · refine step_append_q (by rfl) _ _ (by rfl) (by rfl) (by rfl) hE (HU0.alloc (.cells #[] 85)).size (row_upd HR.out (HU0.alloc (.cells #[] 85)) (fun _ _ e => e)) hBND.1 ?_
              intro vA wA hA hUA
              have HUA : Upd Non w5 wA := Upd.then (HU0.alloc (.cells #[] 85)) hUA (fun a ha hs => absurd (row_blk hE a hs).1 (by omega))
              refine hK.out _ _ ((KB.out _ HUA).2.cell1 4 _ rfl) (fun hHeld => ?_)
              clear hUA hE
              clear hK K
              (try simp only [Act.put, List.setIfInBounds_toArray, List.set_cons_zero, List.set_cons_succ])
              refine wpAnyH_ready (rs := [15]) (by kernel_rfl) (by simp) ?_
              refine AllReadyH.cons rfl (fun K hK => ?_) ?_
              · have hB : RowQ (wA.alloc (.cells #[.pointer (some ⟨R.bd i j, 0, none⟩)] 85)) w5.heap.size (.slice (some ⟨wA.heap.size, 0, none⟩) 1 1) [some (R.bd i j)] := by
                  have := row1 wA (b := w5.heap.size) HUA.size (R.bd i j)
                  simpa [cls, pc, pa] using this
                have hA := row_upd hA ((Upd.refl Non _).alloc (.cells #[.pointer (some ⟨R.bd i j, 0, none⟩)] 85)) (fun _ _ e => e)
                go_simp
                refine hK.out _ _ ((KB.out _ (HUA.alloc (.cells #[.pointer (some ⟨R.bd i j, 0, none⟩)] 85))).2.cell1 4 _ rfl) (fun hHeld => ?_)
                clear hK K
                (try simp only [Act.put, List.setIfInBounds_toArray, List.set_cons_zero, List.set_cons_succ])
                refine wpAnyH_ready (rs := [16]) (by kernel_rfl) (by simp) ?_
                refine AllReadyH.cons rfl (fun K hK => ?_) ?_
                · refine step_append_q (by rfl) _ _ (by rfl) (by rfl) (by rfl) hA (HUA.alloc (.cells #[.pointer (some ⟨R.bd i j, 0, none⟩)] 85)).size hB hBND.2 ?_
                  intro vN wN hN hUN
                  have HUN : Upd Non w5 wN := Upd.then (HUA.alloc (.cells #[.pointer (some ⟨R.bd i j, 0, none⟩)] 85)) hUN (fun a ha hs => absurd (row_blk hA a hs).1 (by omega))
                  obtain ⟨ya, yc, hy9⟩ := rowq_len hN
                  obtain ⟨yn, hyn⟩ : ∃ x, ([] ++ L0 ++ [some (R.bd i j)]).length = x := ⟨_, rfl⟩
                  rw [hyn] at hy9
                  subst hy9
                  refine hK.out _ _ ((KB.out _ HUN).2.cell1 4 _ rfl) (fun hHeld => ?_)
                  clear hUN hA hB
                  clear hK K
                  (try simp only [Act.put, List.setIfInBounds_toArray, List.set_cons_zero, List.set_cons_succ])
                  refine wpAnyH_take (i := 17) (v := ?_) (by simp only [List.getElem?_toArray, List.getElem?_cons_zero, List.getElem?_cons_succ]; rfl) (by kernel_rfl) (by kernel_rfl) (by kernel_rfl) (by intro _ _ _ h; exact h) (Or.inl ⟨by rfl, ?_⟩) (by assumption) ?_
                  rotate_left
                  · intro w hSw; (try dsimp only at hSw); go_simp; (try with_reducible rfl)
                  (try simp only [Act.put, List.setIfInBounds_toArray, List.set_cons_zero, List.set_cons_succ])
                  refine wpAnyH_ready (rs := [18]) (by kernel_rfl) (by simp) ?_
                  refine AllReadyH.cons rfl (fun K hK => ?_) ?_
                  · have kr := (KB.out _ HUN).1
                    have kc := (KB.out _ HUN).2
                    have c8 := kr.cell1 i _ hu
                    have z8 := kr.frozen i
                    have ncr := kc.ne kr (by decide)
                    go_simp
                    refine hK.out _ _ ((kc.other (a := ⟨R.wb, i, none⟩) ncr _).cell1 4 _ rfl) (fun hHeld => ?_)
                    clear c8 z8 kr kc ncr
                    clear hK K
                    (try simp only [Act.put, List.setIfInBounds_toArray, List.set_cons_zero, List.set_cons_succ])
                    refine wpAnyH_done (by kernel_rfl) ?_ _
                    obtain ⟨F6, U6⟩ := FIN9.out _ _ HUN hN
                    clear hN HUN hHeld
                    obtain ⟨w6, hw6⟩ : ∃ W, wN.setCell ⟨R.wb, i, none⟩ (.slice ya yn yc) = W := ⟨_, rfl⟩
                    rw [hw6] at F6 U6
                    (try rw [hw6])
                    clear hw6
                    have HM := MK.out _ F6
                    go_wp2_with (go_at_call 56; refine HM.mono ?_; rintro e9 w7 ⟨rfl, F7, U7⟩)
                    go_ret
                    exact ⟨rfl, END.out _ _ U6 F7 U7⟩
                  exact AllReadyH.nil
                exact AllReadyH.nil
              exact AllReadyH.nil
            refine AllReadyH.cons rfl (fun K hK => ?_) ?_
            · have hB : RowQ ((wd.alloc (.cells #[] 85)).alloc (.cells #[.pointer (some ⟨R.bd i j, 0, none⟩)] 85)) w5.heap.size (.slice (some ⟨wd.heap.size + 1, 0, none⟩) 1 1) [some (R.bd i j)] := by
                have := row1 (wd.alloc (.cells #[] 85)) (b := w5.heap.size) (HU0.alloc (.cells #[] 85)).size (R.bd i j)
                simpa [cls, pc, pa] using this
              have hE := row_upd hE ((Upd.refl Non _).alloc (.cells #[.pointer (some ⟨R.bd i j, 0, none⟩)] 85)) (fun _ _ e => e)
              go_simp
              refine hK.out _ _ ((KB.out _ ((HU0.alloc (.cells #[] 85)).alloc (.cells #[.pointer (some ⟨R.bd i j, 0, none⟩)] 85))).2.cell1 4 _ rfl) (fun hHeld => ?_)
              clear hK K
              (try simp only [Act.put, List.setIfInBounds_toArray, List.set_cons_zero, List.set_cons_succ])
              refine wpAnyH_ready (rs := [13]) (by kernel_rfl) (by simp) ?_
              refine AllReadyH.cons rfl (fun K hK => ?_) ?_
              · refine step_append_q (by rfl) _ _ (by rfl) (by rfl) (by rfl) hE ((HU0.alloc (.cells #[] 85)).alloc (.cells #[.pointer (some ⟨R.bd i j, 0, none⟩)] 85)).size (row_upd HR.out ((HU0.alloc (.cells #[] 85)).alloc (.cells #[.pointer (some ⟨R.bd i j, 0, none⟩)] 85)) (fun _ _ e => e)) hBND.1 ?_
                intro vA wA hA hUA
                have HUA : Upd Non w5 wA := Upd.then ((HU0.alloc (.cells #[] 85)).alloc (.cells #[.pointer (some ⟨R.bd i j, 0, none⟩)] 85)) hUA (fun a ha hs => absurd (row_blk hE a hs).1 (by omega))
                have hB := row_upd hB hUA (fun a ha ha' => absurd (Option.some.inj (show (some (wd.heap.size + 1) : Option Nat) = some (wd.heap.size) from ha.trans ha'.symm)) (by omega))
                refine hK.out _ _ ((KB.out _ HUA).2.cell1 4 _ rfl) (fun hHeld => ?_)
                clear hUA hE
                clear hK K
                (try simp only [Act.put, List.setIfInBounds_toArray, List.set_cons_zero, List.set_cons_succ])
                refine wpAnyH_ready (rs := [16]) (by kernel_rfl) (by simp) ?_
                refine AllReadyH.cons rfl (fun K hK => ?_) ?_
                · refine step_append_q (by rfl) _ _ (by rfl) (by rfl) (by rfl) hA HUA.size hB hBND.2 ?_
                  intro vN wN hN hUN
                  have HUN : Upd Non w5 wN := Upd.then HUA hUN (fun a ha hs => absurd (row_blk hA a hs).1 (by omega))
                  obtain ⟨ya, yc, hy9⟩ := rowq_len hN
                  obtain ⟨yn, hyn⟩ : ∃ x, ([] ++ L0 ++ [some (R.bd i j)]).length = x := ⟨_, rfl⟩
                  rw [hyn] at hy9
                  subst hy9
                  refine hK.out _ _ ((KB.out _ HUN).2.cell1 4 _ rfl) (fun hHeld => ?_)
                  clear hUN hA hB
                  clear hK K
                  (try simp only [Act.put, List.setIfInBounds_toArray, List.set_cons_zero, List.set_cons_succ])
                  refine wpAnyH_take (i := 17) (v := ?_) (by simp only [List.getElem?_toArray, List.getElem?_cons_zero, List.getElem?_cons_succ]; rfl) (by kernel_rfl) (by kernel_rfl) (by kernel_rfl) (by intro _ _ _ h; exact h) (Or.inl ⟨by rfl, ?_⟩) (by assumption) ?_
                  rotate_left
                  · intro w hSw; (try dsimp only at hSw); go_simp; (try with_reducible rfl)
                  (try simp only [Act.put, List.setIfInBounds_toArray, List.set_cons_zero, List.set_cons_succ])
                  refine wpAnyH_ready (rs := [18]) (by kernel_rfl) (by simp) ?_
                  refine AllReadyH.cons rfl (fun K hK => ?_) ?_
                  · have kr := (KB.out _ HUN).1
                    have kc := (KB.out _ HUN).2
                    have c8 := kr.cell1 i _ hu
                    have z8 := kr.frozen i
                    have ncr := kc.ne kr (by decide)
                    go_simp
                    refine hK.out _ _ ((kc.other (a := ⟨R.wb, i, none⟩) ncr _).cell1 4 _ rfl) (fun hHeld => ?_)
                    clear c8 z8 kr kc ncr
                    clear hK K
                    (try simp only [Act.put, List.setIfInBounds_toArray, List.set_cons_zero, List.set_cons_succ])
                    refine wpAnyH_done (by kernel_rfl) ?_ _
                    obtain ⟨F6, U6⟩ := FIN9.out _ _ HUN hN
                    clear hN HUN hHeld
                    obtain ⟨w6, hw6⟩ : ∃ W, wN.setCell ⟨R.wb, i, none⟩ (.slice ya yn yc) = W := ⟨_, rfl⟩
                    rw [hw6] at F6 U6
                    (try rw [hw6])
                    clear hw6
                    have HM := MK.out _ F6
                    go_wp2_with (go_at_call 56; refine HM.mono ?_; rintro e9 w7 ⟨rfl, F7, U7⟩)
                    go_ret
                    exact ⟨rfl, END.out _ _ U6 F7 U7⟩
                  exact AllReadyH.nil
                exact AllReadyH.nil
              exact AllReadyH.nil
            exact AllReadyH.nil
          refine AllReadyH.cons rfl (fun K hK => ?_) ?_
          · have hB : RowQ (wd.alloc (.cells #[.pointer (some ⟨R.bd i j, 0, none⟩)] 85)) w5.heap.size (.slice (some ⟨wd.heap.size, 0, none⟩) 1 1) [some (R.bd i j)] := by
              have := row1 wd (b := w5.heap.size) HU0.size (R.bd i j)
              simpa [cls, pc, pa] using this
            go_simp
            refine hK.out _ _ ((KB.out _ (HU0.alloc (.cells #[.pointer (some ⟨R.bd i j, 0, none⟩)] 85))).2.cell1 4 _ rfl) (fun hHeld => ?_)
            clear hK K
            (try simp only [Act.put, List.setIfInBounds_toArray, List.set_cons_zero, List.set_cons_succ])
            refine wpAnyH_ready (rs := [5]) (by kernel_rfl) (by simp) ?_
            refine AllReadyH.cons rfl (fun K hK => ?_) ?_
            · have hE : RowQ ((wd.alloc (.cells #[.pointer (some ⟨R.bd i j, 0, none⟩)] 85)).alloc (.cells #[] 85)) w5.heap.size (.slice (some ⟨wd.heap.size + 1, 0, none⟩) 0 0) [] := by
                have := row0 (wd.alloc (.cells #[.pointer (some ⟨R.bd i j, 0, none⟩)] 85)) (b := w5.heap.size) (HU0.alloc (.cells #[.pointer (some ⟨R.bd i j, 0, none⟩)] 85)).size
                simpa [cls] using this
              have hB := row_upd hB ((Upd.refl Non _).alloc (.cells #[] 85)) (fun _ _ e => e)
              go_simp
              refine hK.out _ _ ((KB.out _ ((HU0.alloc (.cells #[.pointer (some ⟨R.bd i j, 0, none⟩)] 85)).alloc (.cells #[] 85))).2.cell1 4 _ rfl) (fun hHeld => ?_)
              clear hK K
              (try simp only [Act.put, List.setIfInBounds_toArray, List.set_cons_zero, List.set_cons_succ])
              refine wpAnyH_ready (rs := [13]) (by kernel_rfl) (by simp) ?_
              refine AllReadyH.cons rfl (fun K hK => ?_) ?_
              · refine step_append_q (by rfl) _ _ (by rfl) (by rfl) (by rfl) hE ((HU0.alloc (.cells #[.pointer (some ⟨R.bd i j, 0, none⟩)] 85)).alloc (.cells #[] 85)).size (row_upd HR.out ((HU0.alloc (.cells #[.pointer (some ⟨R.bd i j, 0, none⟩)] 85)).alloc (.cells #[] 85)) (fun _ _ e => e)) hBND.1 ?_
                intro vA wA hA hUA
                have HUA : Upd Non w5 wA := Upd.then ((HU0.alloc (.cells #[.pointer (some ⟨R.bd i j, 0, none⟩)] 85)).alloc (.cells #[] 85)) hUA (fun a ha hs => absurd (row_blk hE a hs).1 (by omega))
                have hB := row_upd hB hUA (fun a ha ha' => absurd (Option.some.inj (show (some (wd.heap.size) : Option Nat) = some (wd.heap.size + 1) from ha.trans ha'.symm)) (by omega))
                refine hK.out _ _ ((KB.out _ HUA).2.cell1 4 _ rfl) (fun hHeld => ?_)
                clear hUA hE
                clear hK K
                (try simp only [Act.put, List.setIfInBounds_toArray, List.set_cons_zero, List.set_cons_succ])
                refine wpAnyH_ready (rs := [16]) (by kernel_rfl) (by simp) ?_
                refine AllReadyH.cons rfl (fun K hK => ?_) ?_
                · refine step_append_q (by rfl) _ _ (by rfl) (by rfl) (by rfl) hA HUA.size hB hBND.2 ?_
                  intro vN wN hN hUN
                  have HUN : Upd Non w5 wN := Upd.then HUA hUN (fun a ha hs => absurd (row_blk hA a hs).1 (by omega))
                  obtain ⟨ya, yc, hy9⟩ := rowq_len hN
                  obtain ⟨yn, hyn⟩ : ∃ x, ([] ++ L0 ++ [some (R.bd i j)]).length = x := ⟨_, rfl⟩
                  rw [hyn] at hy9
                  subst hy9
                  refine hK.out _ _ ((KB.out _ HUN).2.cell1 4 _ rfl) (fun hHeld => ?_)
                  clear hUN hA hB
                  clear hK K
                  (try simp only [Act.put, List.setIfInBounds_toArray, List.set_cons_zero, List.set_cons_succ])
                  refine wpAnyH_take (i := 17) (v := ?_) (by simp only [List.getElem?_toArray, List.getElem?_cons_zero, List.getElem?_cons_succ]; rfl) (by kernel_rfl) (by kernel_rfl) (by kernel_rfl) (by intro _ _ _ h; exact h) (Or.inl ⟨by rfl, ?_⟩) (by assumption) ?_
                  rotate_left
                  · intro w hSw; (try dsimp only at hSw); go_simp; (try with_reducible rfl)
                  (try simp only [Act.put, List.setIfInBounds_toArray, List.set_cons_zero, List.set_cons_succ])
                  refine wpAnyH_ready (rs := [18]) (by kernel_rfl) (by simp) ?_
                  refine AllReadyH.cons rfl (fun K hK => ?_) ?_
                  · have kr := (KB.out _ HUN).1
                    have kc := (KB.out _ HUN).2
                    have c8 := kr.cell1 i _ hu
                    have z8 := kr.frozen i
                    have ncr := kc.ne kr (by decide)
                    go_simp
                    refine hK.out _ _ ((kc.other (a := ⟨R.wb, i, none⟩) ncr _).cell1 4 _ rfl) (fun hHeld => ?_)
                    clear c8 z8 kr kc ncr
                    clear hK K
                    (try simp only [Act.put, List.setIfInBounds_toArray, List.set_cons_zero, List.set_cons_succ])
                    refine wpAnyH_done (by kernel_rfl) ?_ _
                    obtain ⟨F6, U6⟩ := FIN9.out _ _ HUN hN
                    clear hN HUN hHeld
                    obtain ⟨w6, hw6⟩ : ∃ W, wN.setCell ⟨R.wb, i, none⟩ (.slice ya yn yc) = W := ⟨_, rfl⟩
                    rw [hw6] at F6 U6
                    (try rw [hw6])
                    clear hw6
                    have HM := MK.out _ F6
                    go_wp2_with (go_at_call 56; refine HM.mono ?_; rintro e9 w7 ⟨rfl, F7, U7⟩)
                    go_ret
                    exact ⟨rfl, END.out _ _ U6 F7 U7⟩
                  exact AllReadyH.nil
                exact AllReadyH.nil
              exact AllReadyH.nil
            exact AllReadyH.nil
          exact AllReadyH.nil
        refine AllReadyH.cons rfl (fun K hK => ?_) ?_
        · have hB : RowQ (wd.alloc (.cells #[.pointer (some ⟨R.bd i j, 0, none⟩)] 85)) w5.heap.size (.slice (some ⟨wd.heap.size, 0, none⟩) 1 1) [some (R.bd i j)] := by
            have := row1 wd (b := w5.heap.size) HU0.size (R.bd i j)
            simpa [cls, pc, pa] using this
          go_simp
          refine hK.out _ _ ((KB.out _ (HU0.alloc (.cells #[.pointer (some ⟨R.bd i j, 0, none⟩)] 85))).2.cell1 4 _ rfl) (fun hHeld => ?_)
          clear hK K
          (try simp only [Act.put, List.setIfInBounds_toArray, List.set_cons_zero, List.set_cons_succ])
          refine wpAnyH_ready (rs := [5, 12]) (by kernel_rfl) (by simp) ?_
          refine AllReadyH.cons rfl (fun K hK => ?_) ?_
          · have hE : RowQ ((wd.alloc (.cells #[.pointer (some ⟨R.bd i j, 0, none⟩)] 85)).alloc (.cells #[] 85)) w5.heap.size (.slice (some ⟨wd.heap.size + 1, 0, none⟩) 0 0) [] := by
              have := row0 (wd.alloc (.cells #[.pointer (some ⟨R.bd i j, 0, none⟩)] 85)) (b := w5.heap.size) (HU0.alloc (.cells #[.pointer (some ⟨R.bd i j, 0, none⟩)] 85)).size
              simpa [cls] using this
            have hB := row_upd hB ((Upd.refl Non _).alloc (.cells #[] 85)) (fun _ _ e => e)
            go_simp
            refine hK.out _ _ ((KB.out _ ((HU0.alloc (.cells #[.pointer (some ⟨R.bd i j, 0, none⟩)] 85)).alloc (.cells #[] 85))).2.cell1 4 _ rfl) (fun hHeld => ?_)
            clear hK K
            (try simp only [Act.put, List.setIfInBounds_toArray, List.set_cons_zero, List.set_cons_succ])
            refine wpAnyH_ready (rs := [12]) (by kernel_rfl) (by simp) ?_
            refine AllReadyH.cons rfl (fun K hK => ?_) ?_
            · have c12 := (KB.out _ ((HU0.alloc (.cells #[.pointer (some ⟨R.bd i j, 0, none⟩)] 85)).alloc (.cells #[] 85))).1.cell1 i _ hu
              go_simp
              refine hK.out _ _ ((KB.out _ ((HU0.alloc (.cells #[.pointer (some ⟨R.bd i j, 0, none⟩)] 85)).alloc (.cells #[] 85))).2.cell1 4 _ rfl) (fun hHeld => ?_)
              clear c12
              clear hK K
              (try simp only [Act.put, List.setIfInBounds_toArray, List.set_cons_zero, List.set_cons_succ])
              refine wpAnyH_ready (rs := [13]) (by kernel_rfl) (by simp) ?_
              refine AllReadyH.cons rfl (fun K hK => ?_) ?_
              · refine step_append_q (by rfl) _ _ (by rfl) (by rfl) (by rfl) hE ((HU0.alloc (.cells #[.pointer (some ⟨R.bd i j, 0, none⟩)] 85)).alloc (.cells #[] 85)).size (row_upd HR.out ((HU0.alloc (.cells #[.pointer (some ⟨R.bd i j, 0, none⟩)] 85)).alloc (.cells #[] 85)) (fun _ _ e => e)) hBND.1 ?_
                intro vA wA hA hUA
                have HUA : Upd Non w5 wA := Upd.then ((HU0.alloc (.cells #[.pointer (some ⟨R.bd i j, 0, none⟩)] 85)).alloc (.cells #[] 85)) hUA (fun a ha hs => absurd (row_blk hE a hs).1 (by omega))
                have hB := row_upd hB hUA (fun a ha ha' => absurd (Option.some.inj (show (some (wd.heap.size) : Option Nat) = some (wd.heap.size + 1) from ha.trans ha'.symm)) (by omega))
                refine hK.out _ _ ((KB.out _ HUA).2.cell1 4 _ rfl) (fun hHeld => ?_)
                clear hUA hE
                clear hK K
                (try simp only [Act.put, List.setIfInBounds_toArray, List.set_cons_zero, List.set_cons_succ])
                refine wpAnyH_ready (rs := [16]) (by kernel_rfl) (by simp) ?_
                refine AllReadyH.cons rfl (fun K hK => ?_) ?_
                · refine step_append_q (by rfl) _ _ (by rfl) (by rfl) (by rfl) hA HUA.size hB hBND.2 ?_
                  intro vN wN hN hUN
                  have HUN : Upd Non w5 wN := Upd.then HUA hUN (fun a ha hs => absurd (row_blk hA a hs).1 (by omega))
                  obtain ⟨ya, yc, hy9⟩ := rowq_len hN
                  obtain ⟨yn, hyn⟩ : ∃ x, ([] ++ L0 ++ [some (R.bd i j)]).length = x := ⟨_, rfl⟩
                  rw [hyn] at hy9
                  subst hy9
                  refine hK.out _ _ ((KB.out _ HUN).2.cell1 4 _ rfl) (fun hHeld => ?_)
                  clear hUN hA hB
                  clear hK K
                  (try simp only [Act.put, List.setIfInBounds_toArray, List.set_cons_zero, List.set_cons_succ])
                  refine wpAnyH_take (i := 17) (v := ?_) (by simp only [List.getElem?_toArray, List.getElem?_cons_zero, List.getElem?_cons_succ]; rfl) (by kernel_rfl) (by kernel_rfl) (by kernel_rfl) (by intro _ _ _ h; exact h) (Or.inl ⟨by rfl, ?_⟩) (by assumption) ?_
                  rotate_left
                  · intro w hSw; (try dsimp only at hSw); go_simp; (try with_reducible rfl)
                  (try simp only [Act.put, List.setIfInBounds_toArray, List.set_cons_zero, List.set_cons_succ])
                  refine wpAnyH_ready (rs := [18]) (by kernel_rfl) (by simp) ?_
                  refine AllReadyH.cons rfl (fun K hK => ?_) ?_
                  · have kr := (KB.out _ HUN).1
                    have kc := (KB.out _ HUN).2
                    have c8 := kr.cell1 i _ hu
                    have z8 := kr.frozen i
                    have ncr := kc.ne kr (by decide)
                    go_simp
                    refine hK.out _ _ ((kc.other (a := ⟨R.wb, i, none⟩) ncr _).cell1 4 _ rfl) (fun hHeld => ?_)
                    clear c8 z8 kr kc ncr
                    clear hK K
                    (try simp only [Act.put, List.setIfInBounds_toArray, List.set_cons_zero, List.set_cons_succ])
                    refine wpAnyH_done (by kernel_rfl) ?_ _
                    obtain ⟨F6, U6⟩ := FIN9.out _ _ HUN hN
                    clear hN HUN hHeld
                    obtain ⟨w6, hw6⟩ : ∃ W, wN.setCell ⟨R.wb, i, none⟩ (.slice ya yn yc) = W := ⟨_, rfl⟩
                    rw [hw6] at F6 U6
                    (try rw [hw6])
                    clear hw6
                    have HM := MK.out _ F6
                    go_wp2_with (go_at_call 56; refine HM.mono ?_; rintro e9 w7 ⟨rfl, F7, U7⟩)
                    go_ret
                    exact ⟨rfl, END.out _ _ U6 F7 U7⟩
                  exact AllReadyH.nil
                exact AllReadyH.nil
              exact AllReadyH.nil
            exact AllReadyH.nil
          refine AllReadyH.cons rfl (fun K hK => ?_) ?_
          · have c12 := (KB.out _ (HU0.alloc (.cells #[.pointer (some ⟨R.bd i j, 0, none⟩)] 85))).1.cell1 i _ hu
            go_simp
            refine hK.out _ _ ((KB.out _ (HU0.alloc (.cells #[.pointer (some ⟨R.bd i j, 0, none⟩)] 85))).2.cell1 4 _ rfl) (fun hHeld => ?_)
            clear c12
            clear hK K
            (try simp only [Act.put, List.setIfInBounds_toArray, List.set_cons_zero, List.set_cons_succ])
            refine wpAnyH_ready (rs := [5]) (by kernel_rfl) (by simp) ?_
            refine AllReadyH.cons rfl (fun K hK => ?_) ?_
            · have hE : RowQ ((wd.alloc (.cells #[.pointer (some ⟨R.bd i j, 0, none⟩)] 85)).alloc (.cells #[] 85)) w5.heap.size (.slice (some ⟨wd.heap.size + 1, 0, none⟩) 0 0) [] := by
                have := row0 (wd.alloc (.cells #[.pointer (some ⟨R.bd i j, 0, none⟩)] 85)) (b := w5.heap.size) (HU0.alloc (.cells #[.pointer (some ⟨R.bd i j, 0, none⟩)] 85)).size
                simpa [cls] using this
              have hB := row_upd hB ((Upd.refl Non _).alloc (.cells #[] 85)) (fun _ _ e => e)
              go_simp
              refine hK.out _ _ ((KB.out _ ((HU0.alloc (.cells #[.pointer (some ⟨R.bd i j, 0, none⟩)] 85)).alloc (.cells #[] 85))).2.cell1 4 _ rfl) (fun hHeld => ?_)
              clear hK K
              (try simp only [Act.put, List.setIfInBounds_toArray, List.set_cons_zero, List.set_cons_succ])
              refine wpAnyH_ready (rs := [13]) (by kernel_rfl) (by simp) ?_
              refine AllReadyH.cons rfl (fun K hK => ?_) ?_
              · refine step_append_q (by rfl) _ _ (by rfl) (by rfl) (by rfl) hE ((HU0.alloc (.cells #[.pointer (some ⟨R.bd i j, 0, none⟩)] 85)).alloc (.cells #[] 85)).size (row_upd HR.out ((HU0.alloc (.cells #[.pointer (some ⟨R.bd i j, 0, none⟩)] 85)).alloc (.cells #[] 85)) (fun _ _ e => e)) hBND.1 ?_
                intro vA wA hA hUA
                have HUA : Upd Non w5 wA := Upd.then ((HU0.alloc (.cells #[.pointer (some ⟨R.bd i j, 0, none⟩)] 85)).alloc (.cells #[] 85)) hUA (fun a ha hs => absurd (row_blk hE a hs).1 (by omega))
                have hB := row_upd hB hUA (fun a ha ha' => absurd (Option.some.inj (show (some (wd.heap.size) : Option Nat) = some (wd.heap.size + 1) from ha.trans ha'.symm)) (by omega))
                refine hK.out _ _ ((KB.out _ HUA).2.cell1 4 _ rfl) (fun hHeld => ?_)
                clear hUA hE
                clear hK K
                (try simp only [Act.put, List.setIfInBounds_toArray, List.set_cons_zero, List.set_cons_succ])
                refine wpAnyH_ready (rs := [16]) (by kernel_rfl) (by simp) ?_
                refine AllReadyH.cons rfl (fun K hK => ?_) ?_
                · refine step_append_q (by rfl) _ _ (by rfl) (by rfl) (by rfl) hA HUA.size hB hBND.2 ?_
                  intro vN wN hN hUN
                  have HUN : Upd Non w5 wN := Upd.then HUA hUN (fun a ha hs => absurd (row_blk hA a hs).1 (by omega))
                  obtain ⟨ya, yc, hy9⟩ := rowq_len hN
                  obtain ⟨yn, hyn⟩ : ∃ x, ([] ++ L0 ++ [some (R.bd i j)]).length = x := ⟨_, rfl⟩
                  rw [hyn] at hy9
                  subst hy9
                  refine hK.out _ _ ((KB.out _ HUN).2.cell1 4 _ rfl) (fun hHeld => ?_)
                  clear hUN hA hB
                  clear hK K
                  (try simp only [Act.put, List.setIfInBounds_toArray, List.set_cons_zero, List.set_cons_succ])
                  refine wpAnyH_take (i := 17) (v := ?_) (by simp only [List.getElem?_toArray, List.getElem?_cons_zero, List.getElem?_cons_succ]; rfl) (by kernel_rfl) (by kernel_rfl) (by kernel_rfl) (by intro _ _ _ h; exact h) (Or.inl ⟨by rfl, ?_⟩) (by assumption) ?_
                  rotate_left
                  · intro w hSw; (try dsimp only at hSw); go_simp; (try with_reducible rfl)
                  (try simp only [Act.put, List.setIfInBounds_toArray, List.set_cons_zero, List.set_cons_succ])
                  refine wpAnyH_ready (rs := [18]) (by kernel_rfl) (by simp) ?_
                  refine AllReadyH.cons rfl (fun K hK => ?_) ?_
                  · have kr := (KB.out _ HUN).1
                    have kc := (KB.out _ HUN).2
                    have c8 := kr.cell1 i _ hu
                    have z8 := kr.frozen i
                    have ncr := kc.ne kr (by decide)
                    go_simp
                    refine hK.out _ _ ((kc.other (a := ⟨R.wb, i, none⟩) ncr _).cell1 4 _ rfl) (fun hHeld => ?_)
                    clear c8 z8 kr kc ncr
                    clear hK K
                    (try simp only [Act.put, List.setIfInBounds_toArray, List.set_cons_zero, List.set_cons_succ])
                    refine wpAnyH_done (by kernel_rfl) ?_ _
                    obtain ⟨F6, U6⟩ := FIN9.out _ _ HUN hN
                    clear hN HUN hHeld
                    obtain ⟨w6, hw6⟩ : ∃ W, wN.setCell ⟨R.wb, i, none⟩ (.slice ya yn yc) = W := ⟨_, rfl⟩
                    rw [hw6] at F6 U6
                    (try rw [hw6])
                    clear hw6
                    have HM := MK.out _ F6
                    go_wp2_with (go_at_call 56; refine HM.mono ?_; rintro e9 w7 ⟨rfl, F7, U7⟩)
                    go_ret
                    exact ⟨rfl, END.out _ _ U6 F7 U7⟩
                  exact AllReadyH.nil
                exact AllReadyH.nil
              exact AllReadyH.nil
            exact AllReadyH.nil
          exact AllReadyH.nil
        exact AllReadyH.nil
end
end Go.Proofs.Ytlkfabejecgfgaa
