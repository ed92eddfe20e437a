/-
  The reference's Add: an entry.
-/
import Derived.Test.YtocanjefonlnaaaDoorIh
import Derived.Test.YtocanjefonlnaaaDoorIj
namespace Go.Proofs.YtocanjefonlnaaaDoor
open Go.RowKit
set_option linter.unusedVariables false
set_option linter.unusedSimpArgs false
set_option maxRecDepth 100000 in
set_option maxHeartbeats 8000000 in
theorem radd_entry {w : World} {D : Nat} {how : Int} {Bad : Nat → Prop} {st : Ms} (h : Rq w D how st.E st.R st.sz Bad) (hBad : ∀ k, Bad k → k < w.heap.size) (hI : Inv how st) (seq f k : Int) (key val : ByteArray) (hv : val.size ≤ 9223372036854775807) (hq : seq ≤ 72057594037927935) (hc : chk k key val = 0) (hn : st.n < 8192) (hk2 : ¬ k = 2) :
    Calls Tryd.prog 23 #[ptr D, .int .u64 seq, recV f k key val] w (RAdd w D how Bad (addM how st seq k key val)) := by
  have HC := fun W => rcheck_any f k key val W hv
  rw [hc] at HC
  have HPl := fun W => rplain_any f k key val W
  obtain ⟨la, lc, ta, tc, hR, hlc, htc, hl0, ht0, hBl, hBt⟩ := h.ex
  unfold Ms.n at hn
  obtain ⟨N, hN⟩ : ∃ N, st.E.length = N := ⟨_, rfl⟩
  obtain ⟨M, hM⟩ : ∃ M, st.R.length = M := ⟨_, rfl⟩
  have HB : Hid (∀ W, Below w.heap.size w W → W.cell? ⟨D, 0, none⟩ = some (.int .i64 how) ∧ W.cell? ⟨D, 1, none⟩ = some (.slice la N lc) ∧ W.cell? ⟨D, 2, none⟩ = some (.slice ta M tc) ∧ W.cell? ⟨D, 3, none⟩ = some (.int .i64 st.sz)) := fun W hW => by
    have hb := (hR.below hW).blk
    rw [hN, hM] at hb
    exact ⟨hb.cell1 0 _ rfl, hb.cell1 1 _ rfl, hb.cell1 2 _ rfl, hb.cell1 3 _ rfl⟩
  rw [hN, hM] at hn
  have hz : ¬ (8192 : Int) ≤ (N : Int) + M := by omega
  have H0 : Hid _ := h
  have HR : Hid _ := hR
  clear h hR
  obtain ⟨val', hval⟩ : ∃ v, Hid (plainV k val = v) := ⟨_, rfl⟩
  rw [hval.out] at HPl
  have bx : Below w.heap.size w (w.alloc (.cells #[.int .u32 f, .int .i64 k, .string key, .string val] 36)) := (Below.refl _ _).alloc (Nat.le_refl _) _
  have X0 : Blk (w.alloc (.cells #[.int .u32 f, .int .i64 k, .string key, .string val] 36)) w.heap.size 36 [.int .u32 f, .int .i64 k, .string key, .string val] := Blk.new w 36 _
  go_enter Tryd.func23, Tryd.ntmps23
  go_wp2_with (go_at_call 39; refine (HC _).mono ?_; rintro e w1 ⟨rfl, hb1⟩; have hb2 : Below w.heap.size w w1 := bx.trans (hb1.mono (by simp)); obtain ⟨c0, c1, c2, c3⟩ := HB.out _ hb2; have X1 := X0.upd (S := Non) (Upd.ofBelow hb1) (fun h => h))
  first | go_quiet (fail) | go_big_quiet (fail)
  have hb3 : Below w.heap.size w (w1.drewN nq) := hb2.trans ⟨rfl, rfl, rfl, Nat.le_refl _, fun _ _ => rfl⟩
  have X2 : Blk (w1.drewN nq) w.heap.size 36 [.int .u32 f, .int .i64 k, .string key, .string val] := X1
  clear c0 c1 c2 c3 hb1 X1 X0 bx
  generalize w1.drewN nq = w2 at *
  have x0 := X2.cell1 0 _ rfl
  have x1 := X2.cell1 1 _ rfl
  have x2 := X2.cell1 2 _ rfl
  have x3 := X2.cell1 3 _ rfl
  obtain ⟨bx, hbx⟩ : ∃ bx, w.heap.size = bx := ⟨_, rfl⟩
  rw [hbx] at X2 x0 x1 x2 x3
  rw [hbx]
  have hk2' : ¬ k = 2 := hk2
  go_upto_region 9 with (go_at_call 40; refine (HPl _).mono ?_; rintro e w3 ⟨rfl, hb4⟩; have X3 := X2.upd (S := Non) (Upd.ofBelow hb4) (fun h => h); have y0 := X3.cell1 0 _ rfl; have y1 := X3.cell1 1 _ rfl; have y2 := X3.cell1 2 _ rfl; have y3 := X3.cell1 3 _ rfl; have z0 := X3.frozen 0; have z1 := X3.frozen 1; have z2 := X3.frozen 2; have z3 := X3.frozen 3)
  have hb5 : Below w.heap.size w w3 := hb3.trans (hb4.mono hb3.size)
  have X4 : Blk ((((w3.setCell ⟨bx, 0, none⟩ (.int .u32 f)).setCell ⟨bx, 1, none⟩ (.int .i64 k)).setCell ⟨bx, 2, none⟩ (.string key)).setCell ⟨bx, 3, none⟩ (.string val')) bx 36 [.int .u32 f, .int .i64 k, .string key, .string val'] := (((X3.set 0 _).set 1 _).set 2 _).set 3 _
  have hb6 : Below w.heap.size w ((((w3.setCell ⟨bx, 0, none⟩ (.int .u32 f)).setCell ⟨bx, 1, none⟩ (.int .i64 k)).setCell ⟨bx, 2, none⟩ (.string key)).setCell ⟨bx, 3, none⟩ (.string val')) := (((hb5.setCell (by simp; omega) _).setCell (by simp; omega) _).setCell (by simp; omega) _).setCell (by simp; omega) _
  generalize (((w3.setCell ⟨bx, 0, none⟩ (.int .u32 f)).setCell ⟨bx, 1, none⟩ (.int .i64 k)).setCell ⟨bx, 2, none⟩ (.string key)).setCell ⟨bx, 3, none⟩ (.string val') = w4 at *
  clear hb4 hb3 hb2 hb5 X3 y0 y1 y2 y3 z0 z1 z2 z3 X2 x0 x1 x2 x3 HPl HC
  have x0 := X4.cell1 0 _ rfl
  have x1 := X4.cell1 1 _ rfl
  have x2 := X4.cell1 2 _ rfl
  have x3 := X4.cell1 3 _ rfl
  go_upto_region 18 with fail
  have hb7 : Below w.heap.size w (w4.alloc (.cells #[.string key, .int .u64 seq, .int .i64 k, .string val'] 56)) := hb6.alloc hb6.size _
  have Y5 : Blk (w4.alloc (.cells #[.string key, .int .u64 seq, .int .i64 k, .string val'] 56)) w4.heap.size 56 [.string key, .int .u64 seq, .int .i64 k, .string val'] := Blk.new w4 56 _
  have X5 := X4.alloc (.cells #[.string key, .int .u64 seq, .int .i64 k, .string val'] 56)
  have hbz : w4.heap.size ≠ bx := by have := X4.lt; omega
  obtain ⟨bz, hz5⟩ : ∃ bz, w4.heap.size = bz := ⟨_, rfl⟩
  rw [hz5] at Y5 hbz
  rw [hz5]
  clear x0 x1 x2 x3 hb6 X4
  generalize w4.alloc (.cells #[.string key, .int .u64 seq, .int .i64 k, .string val'] 56) = w5 at *
  obtain ⟨c0, c1, c2, c3⟩ := HB.out _ hb7
  have y0 := Y5.cell1 0 _ rfl
  have y1 := Y5.cell1 1 _ rfl
  have y2 := Y5.cell1 2 _ rfl
  have hb8 : Below w.heap.size w w5.drew := hb7.drew
  have HF := rfirst_any (HR.out.below hb8).rde how lc key seq k (by omega)
  rw [hN] at HF
  obtain ⟨p, hp⟩ : ∃ p, posE how st.E key seq k = p := ⟨_, rfl⟩
  have hpN : p ≤ N := by rw [← hp, ← hN]; exact tw_le _ _
  rw [hp] at HF
  go_region_held_law (fun w' => w'.cell? ⟨D, 0, none⟩ = some (.int .i64 how) ∧ w'.cell? ⟨D, 1, none⟩ = some (.slice la N lc) ∧ w'.cell? ⟨bz, 0, none⟩ = some (.string key) ∧ w'.cell? ⟨bz, 1, none⟩ = some (.int .u64 seq) ∧ w'.cell? ⟨bz, 2, none⟩ = some (.int .i64 k))
    (first
      | (go_keep; done)
      | exact ⟨keepc hb9 c0, keepc hb9 c1, keepc hb9 y0, keepc hb9 y1, keepc hb9 y2⟩)
    ((go_at_call 25; refine HF.mono ?_; rintro e w6 ⟨rfl, hb9'⟩; have hb9 : Below w5.heap.size w5 w6 := ((Below.refl _ w5).drew).trans hb9'))
  have hbA : Below w.heap.size w w6 := hb7.trans (hb9.mono hb7.size)
  have Y6 := Y5.upd (S := Non) (Upd.ofBelow hb9) (fun h => h)
  have X6 := X5.upd (S := Non) (Upd.ofBelow hb9) (fun h => h)
  clear hb8 HF hb9 hb9' Y5 X5 c0 c1 c2 c3 y0 y1 y2 hb7
  obtain ⟨c0, c1, c2, c3⟩ := HB.out _ hbA
  have y0 := Y6.cell1 0 _ rfl
  have y1 := Y6.cell1 1 _ rfl
  have y2 := Y6.cell1 2 _ rfl
  have y3 := Y6.cell1 3 _ rfl
  have hadd : Hid (addM how st seq k key val = if eisB st.E p ⟨key, seq, k, val'⟩ = true then (7, st) else (0, st.rk (eins st.E p ⟨key, seq, k, val'⟩) st.R seq key val')) := by
    show _ = _
    unfold addM
    rw [if_neg (by omega), if_neg (by rw [hc]; simp), if_neg (by unfold Ms.n; omega), if_neg hk2, hp, hval.out]
  go_upto_region 19 with fail
  obtain ⟨ib, hib⟩ : ∃ ib, eisB st.E p ⟨key, seq, k, val'⟩ = ib := ⟨_, rfl⟩
  rw [hib] at hadd
  have HE6 : Hid _ := (HR.out.below hbA).rde
  go_cut [148] (fun t wc => t = .bool ib ∧ Hid (∃ m, wc = w6.drewN m))
  case first =>
    by_cases hlt : p < N
    · have hlt' : (p : Int) < (N : Int) := by omega
      have hld : decide ((p : Int) < (N : Int)) = true := decide_eq_true hlt'
      obtain ⟨x, hx⟩ : ∃ x, st.E[p]? = some x := ⟨_, List.getElem?_eq_getElem (by omega)⟩
      obtain ⟨b, off, hla, hat⟩ : ∃ b off, la = some ⟨b, off, none⟩ ∧ ∀ (j : Nat) (e : Ent), st.E[j]? = some e → EAt w6 b (off + j * 4) e := by
        rcases HE6.out with h | h
        · rw [h] at hx; simp at hx
        · exact h
      obtain ⟨e0, e1, e2, e3⟩ := hat p x hx
      have hib2 : decide (x.u = key ∧ x.s = seq ∧ x.k = k) = ib := by rw [← hib]; unfold eisB; rw [hx]
      have heq := fun W : World => eq_key W x.u key x.s seq x.k k
      rw [hib2] at heq
      subst hla
      clear hat hib2 hib hx
      first | go_quiet (fail) | go_big_quiet (fail)
      go_wp2_with fail
      go_meet
      case rel => exact ⟨rfl, nq, rfl⟩
    · have hlt' : ¬ (p : Int) < (N : Int) := by omega
      have hld : decide ((p : Int) < (N : Int)) = false := decide_eq_false hlt'
      obtain rfl : ib = false := by rw [← hib]; unfold eisB; rw [List.getElem?_eq_none (by omega)]
      clear hib
      first | go_quiet (fail) | go_big_quiet (fail)
      go_wp2_with fail
      go_meet
      case rel => exact ⟨rfl, nq, rfl⟩
  case rest =>
    obtain ⟨rfl, hh⟩ := hcut
    obtain ⟨m7, rfl⟩ := hh.out
    have hb7 : Below w.heap.size w (w6.drewN m7) := hbA.trans ⟨rfl, rfl, rfl, Nat.le_refl _, fun _ _ => rfl⟩
    have Y7 : Blk (w6.drewN m7) bz 56 [.string key, .int .u64 seq, .int .i64 k, .string val'] := Y6
    have X7 : Blk (w6.drewN m7) bx 36 [.int .u32 f, .int .i64 k, .string key, .string val'] := X6
    clear c0 c1 c2 c3 y0 y1 y2 y3 hbA Y6 X6 HE6 hh
    generalize w6.drewN m7 = w7 at *
    cases ib with
    | true =>
      have hadd' : Hid (addM how st seq k key val = (7, st)) := by show _ = _; rw [hadd.out, if_pos rfl]
      go_wp2_with fail
      go_ret
      rw [hadd'.out]
      exact RAdd.same H0.out hb7 7
    | false =>
      have hadd' : Hid (addM how st seq k key val = (0, st.rk (eins st.E p ⟨key, seq, k, val'⟩) st.R seq key val')) := by show _ = _; rw [hadd.out, if_neg (by simp)]
      clear hadd
      go_upto_region 21 with fail
      have hlp : (st.E.take p).length = p := by rw [List.length_take]; omega
      have KB : Hid (∀ W, Upd Non w7 W → W.cell? ⟨D, 1, none⟩ = some (.slice la N lc) ∧ W.cell? ⟨bz, 0, none⟩ = some (.string key) ∧ W.cell? ⟨bz, 1, none⟩ = some (.int .u64 seq) ∧ W.cell? ⟨bz, 2, none⟩ = some (.int .i64 k) ∧ W.cell? ⟨bz, 3, none⟩ = some (.string val')) := fun W hU => by
        have hb := hU.below (n := w7.heap.size) (fun k hk => hk) (fun k hk => hk.elim)
        have Y := Y7.upd hU (fun h => h)
        exact ⟨(HB.out _ (hb7.trans (hb.mono hb7.size))).2.1, Y.cell1 0 _ rfl, Y.cell1 1 _ rfl, Y.cell1 2 _ rfl, Y.cell1 3 _ rfl⟩
      have APP : Hid (∀ (W : World) (v : Value) (l : List Ent), RowE W w7.heap.size v l → w7.heap.size ≤ W.heap.size → Upd Non w7 W → l.length ≤ 10 → ∀ ty, ∃ v' w', (Builtin.append_ #[51, 51] ty #[v, .slice la p lc]).run Tryd.prog W = .ok v' w' ∧ RowE w' w7.heap.size v' (l ++ st.E.take p) ∧ Upd (fun k => v.ownBlock = some k) W w') := fun W v l hv hW hU hl ty => by
        have hb := hU.below (n := w7.heap.size) (fun k hk => hk) (fun k hk => hk.elim)
        have hr := rd_take (rde_rg (HR.out.below (hb7.trans (hb.mono hb7.size))).rde) p
        have := appE hv hW (a := la) (c := lc) hr (fun e => by obtain ⟨e1, e2⟩ := hl0 e; exact ⟨by rw [e1]; simp, e2⟩) (by rw [hlp]; omega) ty
        rw [hlp] at this
        exact this
      have hcutH := cutH_run elem51 slc51 size56 la N lc p (by omega)
      have HU0 : Upd Non w7 w7.drew := Upd.drew (Upd.refl Non w7)
      go_cut [13] (fun v wc => ∃ ya yc, v = .slice ya (p + 1) yc ∧ Hid (RowE wc w7.heap.size (.slice ya (p + 1) yc) (st.E.take p ++ [⟨key, seq, k, val'⟩]) ∧ Upd Non w7 wc))
      case first =>
        refine wp_region_held_drew (S := fun W => W.cell? ⟨D, 1, none⟩ = some (.slice la N lc) ∧ W.cell? ⟨bz, 0, none⟩ = some (.string key) ∧ W.cell? ⟨bz, 1, none⟩ = some (.int .u64 seq) ∧ W.cell? ⟨bz, 2, none⟩ = some (.int .i64 k) ∧ W.cell? ⟨bz, 3, none⟩ = some (.string val')) (by kernel_rfl) ?_ (fun hHeld => ?_)
        · (try dsimp only); exact KB.out _ HU0
        generalize w7.drew = wd at *
        refine wpAnyH_take (i := 1) (v := ?_) (by simp only [List.getElem?_toArray, List.getElem?_cons_zero, List.getElem?_cons_succ]; rfl) (by kernel_rfl) (by kernel_rfl) (by kernel_rfl) (by intro _ _ _ h; exact h) (Or.inl ⟨by rfl, ?_⟩) (by assumption) ?_
        rotate_left
        · intro w hSw; (try dsimp only at hSw); go_simp; (try with_reducible rfl)
        (try simp only [Act.put, List.setIfInBounds_toArray, List.set_cons_zero, List.set_cons_succ])
        refine wpAnyH_take (i := 2) (v := ?_) (by simp only [List.getElem?_toArray, List.getElem?_cons_zero, List.getElem?_cons_succ]; rfl) (by kernel_rfl) (by kernel_rfl) (by kernel_rfl) (by intro _ _ _ h; exact h) (Or.inl ⟨by rfl, ?_⟩) (by assumption) ?_
        rotate_left
        · intro w hSw; (try dsimp only at hSw); go_simp; (try with_reducible rfl)
        (try simp only [Act.put, List.setIfInBounds_toArray, List.set_cons_zero, List.set_cons_succ])
        refine wpAnyH_take (i := 3) (v := ?_) (by simp only [List.getElem?_toArray, List.getElem?_cons_zero, List.getElem?_cons_succ]; rfl) (by kernel_rfl) (by kernel_rfl) (by kernel_rfl) (by intro _ _ _ h; exact h) (Or.inl ⟨by rfl, ?_⟩) (by assumption) ?_
        rotate_left
        · intro w hSw; (try dsimp only at hSw); go_simp; (try with_reducible rfl)
        (try simp only [Act.put, List.setIfInBounds_toArray, List.set_cons_zero, List.set_cons_succ])
        refine wpAnyH_take (i := 4) (v := ?_) (by simp only [List.getElem?_toArray, List.getElem?_cons_zero, List.getElem?_cons_succ]; rfl) (by kernel_rfl) (by kernel_rfl) (by kernel_rfl) (by intro _ _ _ h; exact h) (Or.inl ⟨by rfl, ?_⟩) (by assumption) ?_
        rotate_left
        · intro w hSw; (try dsimp only at hSw); go_simp; (try with_reducible rfl)
        (try simp only [Act.put, List.setIfInBounds_toArray, List.set_cons_zero, List.set_cons_succ])
        refine wpAnyH_take (i := 5) (v := ?_) (by simp only [List.getElem?_toArray, List.getElem?_cons_zero, List.getElem?_cons_succ]; rfl) (by kernel_rfl) (by kernel_rfl) (by kernel_rfl) (by intro _ _ _ h; exact h) (Or.inl ⟨by rfl, ?_⟩) (by assumption) ?_
        rotate_left
        · intro w hSw; (try dsimp only at hSw); go_simp; (try with_reducible rfl)
        (try simp only [Act.put, List.setIfInBounds_toArray, List.set_cons_zero, List.set_cons_succ])
        refine wpAnyH_take (i := 6) (v := ?_) (by simp only [List.getElem?_toArray, List.getElem?_cons_zero, List.getElem?_cons_succ]; rfl) (by kernel_rfl) (by kernel_rfl) (by kernel_rfl) (by intro _ _ _ h; exact h) (Or.inl ⟨by rfl, ?_⟩) (by assumption) ?_
        rotate_left
        · intro w hSw; (try dsimp only at hSw); go_simp; (try with_reducible rfl)
        (try simp only [Act.put, List.setIfInBounds_toArray, List.set_cons_zero, List.set_cons_succ])
        refine wpAnyH_take (i := 8) (v := ?_) (by simp only [List.getElem?_toArray, List.getElem?_cons_zero, List.getElem?_cons_succ]; rfl) (by kernel_rfl) (by kernel_rfl) (by kernel_rfl) (by intro _ _ _ h; exact h) (Or.inl ⟨by rfl, ?_⟩) (by assumption) ?_
        rotate_left
        · intro w hSw; (try dsimp only at hSw); go_simp; (try with_reducible rfl)
        (try simp only [Act.put, List.setIfInBounds_toArray, List.set_cons_zero, List.set_cons_succ])
        refine wpAnyH_ready (rs := [0, 9]) (by kernel_rfl) (by simp) ?_
        refine AllReadyH.cons rfl (fun K hK => ?_) ?_
        · have hE : RowE (wd.alloc (.cells #[] 56)) w7.heap.size (.slice (some ⟨wd.heap.size, 0, none⟩) 0 0) [] := by
            have := rowE0 wd (b := w7.heap.size) HU0.size
            simpa using this
          go_simp
          refine hK.out _ _ (KB.out _ (HU0.alloc (.cells #[] 56))) (fun hHeld => ?_)
          clear hK K
          (try simp only [Act.put, List.setIfInBounds_toArray, List.set_cons_zero, List.set_cons_succ])
          refine wpAnyH_ready (rs := [7, 9]) (by kernel_rfl) (by simp) ?_
          refine AllReadyH.cons rfl (fun K hK => ?_) ?_
          · refine step_app (by rfl) (by rfl) _ _ (by rfl) (by rfl) (by rfl) (APP.out _ _ _ hE (HU0.alloc (.cells #[] 56)).size (HU0.alloc (.cells #[] 56)) (by simp) _) ?_
            rintro vA wA ⟨hA, hUA⟩
            have HUA : Upd Non w7 wA := Upd.then (HU0.alloc (.cells #[] 56)) hUA (fun a ha hs => absurd (row_blk hE a hs).1 (by omega))
            refine hK.out _ _ (KB.out _ HUA) (fun hHeld => ?_)
            clear hUA hE
            clear hK K
            (try simp only [Act.put, List.setIfInBounds_toArray, List.set_cons_zero, List.set_cons_succ])
            refine wpAnyH_ready (rs := [9]) (by kernel_rfl) (by simp) ?_
            refine AllReadyH.cons rfl (fun K hK => ?_) ?_
            · have hB : Rg.Rd Ent.c 4 (wA.alloc (.cells #[.string key, .int .u64 seq, .int .i64 k, .string val'] 56)) (some ⟨wA.heap.size, 0, none⟩) [⟨key, seq, k, val'⟩] := by
                have := srcE wA ⟨key, seq, k, val'⟩
                simpa using this
              have hA := row_upd hA ((Upd.refl Non _).alloc (.cells #[.string key, .int .u64 seq, .int .i64 k, .string val'] 56)) (fun _ _ e => e)
              go_simp
              refine hK.out _ _ (KB.out _ (HUA.alloc (.cells #[.string key, .int .u64 seq, .int .i64 k, .string val'] 56))) (fun hHeld => ?_)
              clear hK K
              (try simp only [Act.put, List.setIfInBounds_toArray, List.set_cons_zero, List.set_cons_succ])
              refine wpAnyH_ready (rs := [10]) (by kernel_rfl) (by simp) ?_
              refine AllReadyH.cons rfl (fun K hK => ?_) ?_
              · refine step_app (by rfl) (by rfl) _ _ (by rfl) (by rfl) (by rfl) (appE hA (HUA.alloc (.cells #[.string key, .int .u64 seq, .int .i64 k, .string val'] 56)).size (a := some ⟨wA.heap.size, 0, none⟩) (c := 1) hB (fun e => by cases e) (by simp; omega) _) ?_
                rintro vN wN ⟨hN7, hUN⟩
                have HUN : Upd Non w7 wN := Upd.then (HUA.alloc (.cells #[.string key, .int .u64 seq, .int .i64 k, .string val'] 56)) hUN (fun a ha hs => absurd (row_blk hA a hs).1 (by omega))
                refine hK.out _ _ (KB.out _ HUN) (fun hHeld => ?_)
                clear hUN hA hB
                clear hK K
                (try simp only [Act.put, List.setIfInBounds_toArray, List.set_cons_zero, List.set_cons_succ])
                refine wpAnyH_take (i := 11) (v := ?_) (by simp only [List.getElem?_toArray, List.getElem?_cons_zero, List.getElem?_cons_succ]; rfl) (by kernel_rfl) (by kernel_rfl) (by kernel_rfl) (by intro _ _ _ h; exact h) (Or.inl ⟨by rfl, ?_⟩) (by assumption) ?_
                rotate_left
                · intro w hSw; (try dsimp only at hSw); go_simp; (try with_reducible rfl)
                (try simp only [Act.put, List.setIfInBounds_toArray, List.set_cons_zero, List.set_cons_succ])
                refine wpAnyH_done (by kernel_rfl) ?_ _
                go_wp2_with fail
                obtain ⟨ya, yc, hy9⟩ := row_slice hN7
                have hyl : (([] ++ st.E.take p) ++ [(⟨key, seq, k, val'⟩ : Ent)]).length = p + 1 := by simp; omega
                rw [hyl] at hy9
                subst hy9
                go_meet
                case rel => exact ⟨ya, yc, rfl, by simpa using hN7, HUN⟩
              exact AllReadyH.nil
            exact AllReadyH.nil
          refine AllReadyH.cons rfl (fun K hK => ?_) ?_
          · have hB : Rg.Rd Ent.c 4 ((wd.alloc (.cells #[] 56)).alloc (.cells #[.string key, .int .u64 seq, .int .i64 k, .string val'] 56)) (some ⟨wd.heap.size + 1, 0, none⟩) [⟨key, seq, k, val'⟩] := by
              have := srcE (wd.alloc (.cells #[] 56)) ⟨key, seq, k, val'⟩
              simpa using this
            have hE := row_upd hE ((Upd.refl Non _).alloc (.cells #[.string key, .int .u64 seq, .int .i64 k, .string val'] 56)) (fun _ _ e => e)
            go_simp
            refine hK.out _ _ (KB.out _ ((HU0.alloc (.cells #[] 56)).alloc (.cells #[.string key, .int .u64 seq, .int .i64 k, .string val'] 56))) (fun hHeld => ?_)
            clear hK K
            (try simp only [Act.put, List.setIfInBounds_toArray, List.set_cons_zero, List.set_cons_succ])
            refine wpAnyH_ready (rs := [7]) (by kernel_rfl) (by simp) ?_
            refine AllReadyH.cons rfl (fun K hK => ?_) ?_
            · refine step_app (by rfl) (by rfl) _ _ (by rfl) (by rfl) (by rfl) (APP.out _ _ _ hE ((HU0.alloc (.cells #[] 56)).alloc (.cells #[.string key, .int .u64 seq, .int .i64 k, .string val'] 56)).size ((HU0.alloc (.cells #[] 56)).alloc (.cells #[.string key, .int .u64 seq, .int .i64 k, .string val'] 56)) (by simp) _) ?_
              rintro vA wA ⟨hA, hUA⟩
              have HUA : Upd Non w7 wA := Upd.then ((HU0.alloc (.cells #[] 56)).alloc (.cells #[.string key, .int .u64 seq, .int .i64 k, .string val'] 56)) hUA (fun a ha hs => absurd (row_blk hE a hs).1 (by omega))
              have hB := hB.upd hUA (fun g o e ha => absurd (Option.some.inj (show (some (wd.heap.size) : Option Nat) = some g from ha)) (by cases e; omega))
              refine hK.out _ _ (KB.out _ HUA) (fun hHeld => ?_)
              clear hUA hE
              clear hK K
              (try simp only [Act.put, List.setIfInBounds_toArray, List.set_cons_zero, List.set_cons_succ])
              refine wpAnyH_ready (rs := [10]) (by kernel_rfl) (by simp) ?_
              refine AllReadyH.cons rfl (fun K hK => ?_) ?_
              · refine step_app (by rfl) (by rfl) _ _ (by rfl) (by rfl) (by rfl) (appE hA HUA.size (a := some ⟨wd.heap.size + 1, 0, none⟩) (c := 1) hB (fun e => by cases e) (by simp; omega) _) ?_
                rintro vN wN ⟨hN7, hUN⟩
                have HUN : Upd Non w7 wN := Upd.then HUA hUN (fun a ha hs => absurd (row_blk hA a hs).1 (by omega))
                refine hK.out _ _ (KB.out _ HUN) (fun hHeld => ?_)
                clear hUN hA hB
                clear hK K
                (try simp only [Act.put, List.setIfInBounds_toArray, List.set_cons_zero, List.set_cons_succ])
                refine wpAnyH_take (i := 11) (v := ?_) (by simp only [List.getElem?_toArray, List.getElem?_cons_zero, List.getElem?_cons_succ]; rfl) (by kernel_rfl) (by kernel_rfl) (by kernel_rfl) (by intro _ _ _ h; exact h) (Or.inl ⟨by rfl, ?_⟩) (by assumption) ?_
                rotate_left
                · intro w hSw; (try dsimp only at hSw); go_simp; (try with_reducible rfl)
                (try simp only [Act.put, List.setIfInBounds_toArray, List.set_cons_zero, List.set_cons_succ])
                refine wpAnyH_done (by kernel_rfl) ?_ _
                go_wp2_with fail
                obtain ⟨ya, yc, hy9⟩ := row_slice hN7
                have hyl : (([] ++ st.E.take p) ++ [(⟨key, seq, k, val'⟩ : Ent)]).length = p + 1 := by simp; omega
                rw [hyl] at hy9
                subst hy9
                go_meet
                case rel => exact ⟨ya, yc, rfl, by simpa using hN7, HUN⟩
              exact AllReadyH.nil
            exact AllReadyH.nil
          exact AllReadyH.nil
        refine AllReadyH.cons rfl (fun K hK => ?_) ?_
        · have hB : Rg.Rd Ent.c 4 (wd.alloc (.cells #[.string key, .int .u64 seq, .int .i64 k, .string val'] 56)) (some ⟨wd.heap.size, 0, none⟩) [⟨key, seq, k, val'⟩] := by
            have := srcE wd ⟨key, seq, k, val'⟩
            simpa using this
          go_simp
          refine hK.out _ _ (KB.out _ (HU0.alloc (.cells #[.string key, .int .u64 seq, .int .i64 k, .string val'] 56))) (fun hHeld => ?_)
          clear hK K
          (try simp only [Act.put, List.setIfInBounds_toArray, List.set_cons_zero, List.set_cons_succ])
          refine wpAnyH_ready (rs := [0]) (by kernel_rfl) (by simp) ?_
          refine AllReadyH.cons rfl (fun K hK => ?_) ?_
          · have hE : RowE ((wd.alloc (.cells #[.string key, .int .u64 seq, .int .i64 k, .string val'] 56)).alloc (.cells #[] 56)) w7.heap.size (.slice (some ⟨wd.heap.size + 1, 0, none⟩) 0 0) [] := by
              have := rowE0 (wd.alloc (.cells #[.string key, .int .u64 seq, .int .i64 k, .string val'] 56)) (b := w7.heap.size) (HU0.alloc (.cells #[.string key, .int .u64 seq, .int .i64 k, .string val'] 56)).size
              simpa using this
            have hB := hB.upd ((Upd.refl Non _).alloc (.cells #[] 56)) (fun _ _ _ e => e)
            go_simp
            refine hK.out _ _ (KB.out _ ((HU0.alloc (.cells #[.string key, .int .u64 seq, .int .i64 k, .string val'] 56)).alloc (.cells #[] 56))) (fun hHeld => ?_)
            clear hK K
            (try simp only [Act.put, List.setIfInBounds_toArray, List.set_cons_zero, List.set_cons_succ])
            refine wpAnyH_ready (rs := [7]) (by kernel_rfl) (by simp) ?_
            refine AllReadyH.cons rfl (fun K hK => ?_) ?_
            · refine step_app (by rfl) (by rfl) _ _ (by rfl) (by rfl) (by rfl) (APP.out _ _ _ hE ((HU0.alloc (.cells #[.string key, .int .u64 seq, .int .i64 k, .string val'] 56)).alloc (.cells #[] 56)).size ((HU0.alloc (.cells #[.string key, .int .u64 seq, .int .i64 k, .string val'] 56)).alloc (.cells #[] 56)) (by simp) _) ?_
              rintro vA wA ⟨hA, hUA⟩
              have HUA : Upd Non w7 wA := Upd.then ((HU0.alloc (.cells #[.string key, .int .u64 seq, .int .i64 k, .string val'] 56)).alloc (.cells #[] 56)) hUA (fun a ha hs => absurd (row_blk hE a hs).1 (by omega))
              have hB := hB.upd hUA (fun g o e ha => absurd (Option.some.inj (show (some (wd.heap.size + 1) : Option Nat) = some g from ha)) (by cases e; omega))
              refine hK.out _ _ (KB.out _ HUA) (fun hHeld => ?_)
              clear hUA hE
              clear hK K
              (try simp only [Act.put, List.setIfInBounds_toArray, List.set_cons_zero, List.set_cons_succ])
              refine wpAnyH_ready (rs := [10]) (by kernel_rfl) (by simp) ?_
              refine AllReadyH.cons rfl (fun K hK => ?_) ?_
              · refine step_app (by rfl) (by rfl) _ _ (by rfl) (by rfl) (by rfl) (appE hA HUA.size (a := some ⟨wd.heap.size, 0, none⟩) (c := 1) hB (fun e => by cases e) (by simp; omega) _) ?_
                rintro vN wN ⟨hN7, hUN⟩
                have HUN : Upd Non w7 wN := Upd.then HUA hUN (fun a ha hs => absurd (row_blk hA a hs).1 (by omega))
                refine hK.out _ _ (KB.out _ HUN) (fun hHeld => ?_)
                clear hUN hA hB
                clear hK K
                (try simp only [Act.put, List.setIfInBounds_toArray, List.set_cons_zero, List.set_cons_succ])
                refine wpAnyH_take (i := 11) (v := ?_) (by simp only [List.getElem?_toArray, List.getElem?_cons_zero, List.getElem?_cons_succ]; rfl) (by kernel_rfl) (by kernel_rfl) (by kernel_rfl) (by intro _ _ _ h; exact h) (Or.inl ⟨by rfl, ?_⟩) (by assumption) ?_
                rotate_left
                · intro w hSw; (try dsimp only at hSw); go_simp; (try with_reducible rfl)
                (try simp only [Act.put, List.setIfInBounds_toArray, List.set_cons_zero, List.set_cons_succ])
                refine wpAnyH_done (by kernel_rfl) ?_ _
                go_wp2_with fail
                obtain ⟨ya, yc, hy9⟩ := row_slice hN7
                have hyl : (([] ++ st.E.take p) ++ [(⟨key, seq, k, val'⟩ : Ent)]).length = p + 1 := by simp; omega
                rw [hyl] at hy9
                subst hy9
                go_meet
                case rel => exact ⟨ya, yc, rfl, by simpa using hN7, HUN⟩
              exact AllReadyH.nil
            exact AllReadyH.nil
          exact AllReadyH.nil
        exact AllReadyH.nil
      case rest =>
        obtain ⟨ya, yc, rfl, hh⟩ := hcut
        obtain ⟨hN8, HU8⟩ := hh.out
        have hb8' : Below w7.heap.size w7 wc := HU8.below (fun k hk => hk) (fun k hk => hk.elim)
        have hb8 : Below w.heap.size w wc := hb7.trans (hb8'.mono hb7.size)
        obtain ⟨c0, c1, c2, c3⟩ := HB.out _ hb8
        have hcutL := cutK_run elem51 slc51 size56 la N lc p (by omega)
        have hld : (st.E.drop p).length = N - p := by rw [List.length_drop]; omega
        obtain ⟨vF, wF, hrun, hF, hUF⟩ := appE hN8 hb8'.size (a := cutK 4 la lc p) (c := lc - p) (rd_cut (rde_rg (HR.out.below hb8).rde) hlc) (fun e => by obtain ⟨e1, e2⟩ := hl0 (cutK_none e); exact ⟨by rw [e1]; simp, by rw [e2]; simp⟩) (by rw [hld]; simp; omega) 51
        rw [hld] at hrun
        have hel : (st.E.take p ++ [(⟨key, seq, k, val'⟩ : Ent)]) ++ st.E.drop p = eins st.E p ⟨key, seq, k, val'⟩ := by unfold eins; simp
        rw [hel] at hF
        obtain ⟨fa, fc, hvF, hfc, hfr, hf0⟩ := rowE_rde hF
        have hell : (eins st.E p ⟨key, seq, k, val'⟩).length = N + 1 := by rw [eins_len _ _ _ (by omega), hN]
        rw [hell] at hvF
        subst hvF
        have hDw : D < w.heap.size := HR.out.blk.lt
        have hnD : ¬ Value.ownBlock (.slice ya (p + 1) yc) = some D := fun e => by
          have := (row_blk hN8 D e).1
          have := hb7.size
          omega
        have hnX : ¬ Value.ownBlock (.slice ya (p + 1) yc) = some bx := fun e => by
          have := (row_blk hN8 bx e).1
          have := X7.lt
          omega
        have hbF : Below w.heap.size w wF := hb8.trans (hUF.below (n := w.heap.size) (fun i hi => Nat.lt_of_lt_of_le hi hb8.size) (fun i hi => by have := (row_blk hN8 i hi).1; have := hb7.size; omega))
        have BF := (HR.out.below hbF).blk
        rw [hN, hM] at BF
        have hRt := (HR.out.below hbF).rdt
        have XF := (X7.upd HU8 (fun h => h)).upd hUF hnX
        have hXD : bx ≠ D := by omega
        obtain ⟨hok1, hok2, hok3⟩ := chk_ok hc
        rw [hval.out] at hok3
        have hs0 := hI.s0
        have hs1 := hI.s1
        have hsn : (st.n : Int) ≤ 8192 := by unfold Ms.n; omega
        have BG := BF.set 1 (.slice fa ((N + 1 : Nat) : Nat) fc)
        have XG := XF.other (a := ⟨D, 1, none⟩) hXD (.slice fa (N + 1) fc)
        have FIN : Hid (∀ m8, RAdd w D how Bad (addM how st seq k key val) (.returned (.int .i64 0)) (((wF.setCell ⟨D, 1, none⟩ (.slice fa (N + 1) fc)).setCell ⟨D, 3, none⟩ (.int .i64 (st.sz + (key.size + val'.size + 16)))).drewN m8)) := fun m8 => by
          rw [hadd'.out]
          refine ⟨rfl, ⟨fa, fc, ta, tc, ⟨?_, ?_, ?_⟩, ?_, htc, ?_, ht0, ?_, hBt⟩, ?_⟩
          · show Blk _ D 74 _
            have := (BG.set 3 (.int .i64 (st.sz + (key.size + val'.size + 16))))
            unfold Ms.rk
            simp only []
            rw [hell, hM]
            exact this
          · have h1 := rde_setD BF hfr 1 (.slice fa (N + 1) fc)
            exact rde_setD BG h1 3 _
          · have h1 := rdt_setD BF hRt 1 (.slice fa (N + 1) fc)
            exact rdt_setD BG h1 3 _
          · exact hfc
          · exact hf0
          · intro g o e _ hb
            have h1 := hBad g hb
            have h2 := (row_blk hF g (by rw [e]; rfl)).1
            have h3 := hb7.size
            omega
          · have U1 : Upd (fun b => b = D) w wF := Upd.ofBelow hbF
            exact ((U1.setCell (fun _ => rfl) _).setCell (fun _ => rfl) _).trans ⟨rfl, rfl, rfl, Nat.le_refl _, fun _ _ _ => rfl⟩
        have k1 := BF.cell1 1 _ rfl
        have z1 := BF.frozen 1
        go_upto_region 23 with (at_builtin; refine Lib.wpList_append_run _ rfl _ _ _ _ rfl _ _ rfl rfl _ _ hrun ?_)
        have g3 := BG.cell1 3 _ rfl
        have gz := BG.frozen 3
        have x2 := XG.cell1 2 _ rfl
        have x3 := XG.cell1 3 _ rfl
        clear k1 z1 hrun hcutL hcutH c0 c1 c2 c3 APP KB HU0 HB HR H0 hh hN8 hF hUF hfr hRt BF XF hadd'
        have hsum : st.sz + key.size + val'.size + 16 = st.sz + (key.size + val'.size + 16) := by omega
        generalize wF.setCell ⟨D, 1, none⟩ (.slice fa (N + 1) fc) = wG at *
        go_region
        go_wp2_with fail
        go_ret
        exact FIN.out 1
end Go.Proofs.YtocanjefonlnaaaDoor
