/-
  The reference's Get (printed by genget.py).
-/
import Derived.Test.YtlkfabejecgfgaaRj
import Derived.Deep.RegionHeldLaw
namespace Go.Proofs.Ytlkfabejecgfgaa
open Go.RowKit Go.Maps
set_option linter.unusedVariables false
set_option linter.unusedSimpArgs false
section
variable {w : World} {R : Lr} {room : Nat} {vs : List Vw} {pv : Value} {s : Cs}
/-- Behind a pin. -/
theorem Rb.pin {pv' : Value} {w : World} {i : Nat} {v v' : Vw} (hv : vs[i]? = some v) (he : v'.ent.length = v.ent.length) (ho : pv'.ownBlock = pv.ownBlock ∨ ∀ k, pv'.ownBlock = some k → w.heap.size ≤ k) {k : Nat} (h : Rb R (vs.set i v') pv' k) : Rb R vs pv k ∨ w.heap.size ≤ k := by
  have h0 : Rb R (vs.set i v') pv k ∨ w.heap.size ≤ k := by
    rcases h with e | e | e | e | e
    · exact .inl (.inl e)
    · exact .inl (.inr (.inl e))
    · exact .inl (.inr (.inr (.inl e)))
    · rcases ho with ho | ho
      · exact .inl (.inr (.inr (.inr (.inl (by rw [← ho]; exact e)))))
      · exact .inr (ho k e)
    · exact .inl (.inr (.inr (.inr (.inr e))))
  exact h0.imp (fun h => Rb.set hv he h) (fun h => h)
set_option maxRecDepth 100000 in
set_option maxHeartbeats 4000000 in
theorem rget_any (h : Rx w R room vs pv s) (c : Ci s) {k : ByteArray} (hk : k.size ≤ maxLen) (hP : s.P.length + 1 ≤ 4000000000000) :
    Calls Try.prog 31 #[.pointer (some ⟨R.cb, 0, none⟩), .string k] w fun r w' => r = .returned (.tuple #[.int .i64 (getC s k.data.toList).1, (getC s k.data.toList).2.1, .bool (getC s k.data.toList).2.2.1]) ∧ Ro w R vs pv w' room (getC s k.data.toList).2.2.2 := by
  have hx := c.ix k.data.toList
  obtain ⟨v, hv, V, hl1, hl2⟩ := h.get c hx
  have HF := find_any h.rf c.n1 c.n2 hk hv hl1
  rw [find_f V (c.iv _ _ hx)] at HF
  have hix : s.ix k.data.toList = shd s.xs.length k.data.toList := rfl
  cases hf : (s.x (s.ix k.data.toList)).f k.data.toList with
  | none =>
    have e1 : getC s k.data.toList = (0, zv, false, s) := by unfold getC; rw [hf]
    rw [e1]
    rw [hf] at HF
    have h' : Hid _ := h
    clear h
    go_enter Try.func31, Try.ntmps31
    go_wp2_with (go_at_call 59; refine HF.mono ?_; rintro e' w1 ⟨rfl, m, rfl⟩)
    refine bodyPost_ret (v := .tuple #[.int .i64 0, .int .u64 0, .bool false]) (by simp [results, Try.results31, go_sem]) rfl ⟨rfl, ?_⟩
    exact Ro.same h'.out m
  | some j =>
    obtain ⟨e, he, hke⟩ := (c.iv _ _ hx).fe _ _ hf
    have hev : v.ent[j]? = some e := by rw [V.e]; exact he
    have e1 : getC s k.data.toList = ((s.P.length : Int) + 1, e.val, true, (s.setx (s.ix k.data.toList) (pinX (s.x (s.ix k.data.toList)) j)).give (s.ix k.data.toList, j)) := by unfold getC; rw [hf]; simp only [xat he]
    rw [e1]
    rw [hf] at HF
    have hi : s.ix k.data.toList < s.xs.length := (List.getElem?_eq_some_iff.1 hx).1
    have hpp : e.pins + 1 < 4611686018427387904 := by
      have h1 := c.pc _ _ j e hx he
      have h2 : s.P.count (some (s.ix k.data.toList, j)) ≤ s.P.length := List.count_le_length
      omega
    have hPl : s.P.length < 8000000000000 := by omega
    have HS : Hid (∀ m, _) := fun m => rshard_any (h.rf.drewN m) c.n1 c.n2 k hk
    have Vp := V.pin (c.iv _ _ hx) he (by rw [hke]; exact hf)
    have Sp := (h.su _ _ hx).pin he (by rw [hke]; exact hf)
    have n2 := c.n2
    rw [← hix] at HF HS
    generalize hI0 : s.ix k.data.toList = i at *
    obtain ⟨n, hn⟩ : ∃ n, s.xs.length = n := ⟨_, rfl⟩
    have F0 := h.rf
    rw [hn] at F0 n2 hi
    have hjl := lt_of_get hev
    obtain ⟨wc, wB, wl, wcc⟩ := F0.wr.ex
    obtain ⟨uW, huW, rW, _⟩ := wcc i hi
    rw [vws_get hv] at rW
    have hIt := F0.it i v j e hv hev
    have HW : Hid (∀ W, Upd Non w W → Calls Try.prog 62 #[uW, .pointer (some ⟨R.bd i j, 0, none⟩)] W fun r w' => ∃ v', r = .returned v' ∧ RowQ w' W.heap.size v' (bds R i (woN v.wl j)) ∧ Upd Non W w') := fun W hW => by
      have := without_any (row_upd rW hW (fun _ _ e => e)) (hIt.upd hW (fun e => e)) (fun o ho => by
        obtain ⟨a, ha, rfl⟩ := List.mem_map.1 ho
        have hal := (F0.llr i _ hv).2 a ha
        exact ⟨_, _, rfl, (F0.it i _ a _ hv (List.getElem?_eq_getElem hal)).upd hW (fun e => e)⟩) (by unfold bds; simpa using hl2)
      rw [bds_wo F0 hv (F0.llr i _ hv).2 hjl] at this
      exact this
    have FIN : Hid (∀ (W : World) (vW : Value) (bW : Nat), Upd Non w W → RowQ W bW vW (bds R i (woN v.wl j)) → w.heap.size ≤ bW →
        Rf (W.setCell ⟨R.wb, i, none⟩ vW) R n room s.st (vs.set i { v with wl := woN v.wl j }) pv s.P ∧ Upd (Rb R vs pv) w (W.setCell ⟨R.wb, i, none⟩ vW)) := by
      intro W vW bW hW hWr hbW
      have FW := F0.grow hW
      have p2 : ∀ k, vW.ownBlock = some k → pv.ownBlock ≠ some k := fun k hk hk' => by
        have a1 := (row_blk hWr k hk).1
        have a2 := (row_blk F0.pr k hk').2
        omega
      obtain ⟨F3, U3⟩ := FW.setW hv (rowq_base hWr) p2 (fun a ha => (F0.llr i _ hv).2 a ((List.mem_filter.1 ha).1))
      exact ⟨F3, (hW.mono (fun k _ hk => hk.elim)).trans (U3.mono (fun k _ hk => .inr (.inr (.inl hk))))⟩
    have HP : Hid (∀ W, Rf W R n room s.st (vs.set i { v with wl := woN v.wl j }) pv s.P → _) := fun W F => pins_any F (i := i) (v := { v with wl := woN v.wl j }) (j := j) (e := e) (by rw [vset_get hv, if_pos rfl]) hev hpp hPl
    have END : Hid (∀ W4 W5 pv5, Upd (Rb R vs pv) w W4 → Rf W5 R n room s.st ((vs.set i { v with wl := woN v.wl j }).set i { v with wl := woN v.wl j, ent := v.ent.set j { e with pins := e.pins + 1 } }) pv5 (s.P ++ [some (i, j)]) → Upd (Rb R (vs.set i { v with wl := woN v.wl j }) pv) W4 W5 → (pv5.ownBlock = pv.ownBlock ∨ ∀ k, pv5.ownBlock = some k → W4.heap.size ≤ k) → Ro w R vs pv W5 room ((s.setx i (pinX (s.x i) j)).give (i, j))) := by
      intro W4 W5 pv5 U4 F5 U5 ho5
      rw [List.set_set] at F5
      rw [← hn] at F5
      refine ⟨R, _, pv5, rfl, h.setx hx hv F5 Vp Sp (by show (s.P ++ [some (i, j)]).length ≤ _; rw [List.length_append]; simp only [List.length_cons, List.length_nil]; omega), U4.trans (U5.mono (fun k _ hk => Rb.set (v' := { v with wl := woN v.wl j }) hv rfl hk)), fun a ha => ?_⟩
      refine Rb.pin (w := w) hv (by simp) ?_ ha
      exact ho5.imp (fun e => e) (fun f k hk => Nat.le_trans U4.size (f k hk))
    have KB : Hid (∀ W, Upd Non w W → Blk W R.wb 68 wc ∧ Blk W R.cb 70 (rfC R n room s.st pv)) := fun W hW => ⟨wB.upd hW (fun e => e), F0.blk.upd hW (fun e => e)⟩
    have hUm : ∀ m, Upd Non w (w.drewN m) := fun m => ⟨rfl, rfl, rfl, Nat.le_refl _, fun _ _ _ => rfl⟩
    have hi' : (i : Int) < n := by omega
    obtain ⟨wa, wcp, hwa⟩ := rowq_len rW
    obtain ⟨nW, hnW⟩ : ∃ x, (bds R i v.wl).length = x := ⟨_, rfl⟩
    rw [hnW] at hwa
    subst hwa
    clear rW hIt F0 wB wcc hnW h Vp Sp V hx c hix hI0 e1 hn hke hf he
    go_enter Try.func31, Try.ntmps31
    go_wp2_with (first | (go_at_call 59; refine HF.mono ?_; rintro e' w1 ⟨rfl, m, rfl⟩) | (go_at_call 12; refine (HS.out m).mono ?_; rintro e' w2 ⟨rfl, hw⟩; have hw' := hw.symm; subst hw'))
    have hUm := hUm m
    clear HF HS
    generalize w.drewN m = wm at *
    have hU0 : Upd Non w wm.drew := hUm.trans (Upd.refl Non _).drew
    refine wp_region_held_drew (S := fun W => W.cell? ⟨R.cb, 4, none⟩ = some (.slice (some ⟨R.wb, 0, none⟩) n n)) (by kernel_rfl) ?_ (fun hHeld => ?_)
    · (try dsimp only); exact (KB.out _ hUm).2.cell1 4 _ rfl
    refine wpAnyH_take (i := 0) (v := ?_) (by simp only [List.getElem?_toArray, List.getElem?_cons_zero, List.getElem?_cons_succ]; rfl) (by kernel_rfl) (by kernel_rfl) (by kernel_rfl) (by intro _ _ _ h; exact h) (Or.inl ⟨by rfl, ?_⟩) (by assumption) ?_
    rotate_left
    · intro w hSw; (try dsimp only at hSw); go_simp; (try with_reducible rfl)
    (try simp only [Act.put, List.setIfInBounds_toArray, List.set_cons_zero, List.set_cons_succ])
    refine wpAnyH_take (i := 1) (v := ?_) (by simp only [List.getElem?_toArray, List.getElem?_cons_zero, List.getElem?_cons_succ]; rfl) (by kernel_rfl) (by kernel_rfl) (by kernel_rfl) (by intro _ _ _ h; exact h) (Or.inl ⟨by rfl, ?_⟩) (by assumption) ?_
    rotate_left
    · intro w hSw; (try dsimp only at hSw); go_simp; (try with_reducible rfl)
    (try simp only [Act.put, List.setIfInBounds_toArray, List.set_cons_zero, List.set_cons_succ])
    refine wpAnyH_take (i := 2) (v := ?_) (by simp only [List.getElem?_toArray, List.getElem?_cons_zero, List.getElem?_cons_succ]; rfl) (by kernel_rfl) (by kernel_rfl) (by kernel_rfl) (by intro _ _ _ h; exact h) (Or.inl ⟨by rfl, ?_⟩) (by assumption) ?_
    rotate_left
    · intro w hSw; (try dsimp only at hSw); go_simp; (try with_reducible rfl)
    (try simp only [Act.put, List.setIfInBounds_toArray, List.set_cons_zero, List.set_cons_succ])
    refine wpAnyH_take (i := 3) (v := ?_) (by simp only [List.getElem?_toArray, List.getElem?_cons_zero, List.getElem?_cons_succ]; rfl) (by kernel_rfl) (by kernel_rfl) (by kernel_rfl) (by intro _ _ _ h; exact h) (Or.inl ⟨by rfl, ?_⟩) (by assumption) ?_
    rotate_left
    · intro w hSw; (try dsimp only at hSw); go_simp; (try with_reducible rfl)
    (try simp only [Act.put, List.setIfInBounds_toArray, List.set_cons_zero, List.set_cons_succ])
    refine wpAnyH_take (i := 4) (v := ?_) (by simp only [List.getElem?_toArray, List.getElem?_cons_zero, List.getElem?_cons_succ]; rfl) (by kernel_rfl) (by kernel_rfl) (by kernel_rfl) (by intro _ _ _ h; exact h) (Or.inl ⟨by rfl, ?_⟩) (by assumption) ?_
    rotate_left
    · intro w hSw; (try dsimp only at hSw); go_simp; (try with_reducible rfl)
    (try simp only [Act.put, List.setIfInBounds_toArray, List.set_cons_zero, List.set_cons_succ])
    refine wpAnyH_take (i := 5) (v := ?_) (by simp only [List.getElem?_toArray, List.getElem?_cons_zero, List.getElem?_cons_succ]; rfl) (by kernel_rfl) (by kernel_rfl) (by kernel_rfl) (by intro _ _ _ h; exact h) (Or.inl ⟨by rfl, ?_⟩) (by assumption) ?_
    rotate_left
    · intro w hSw; (try dsimp only at hSw); go_simp; (try with_reducible rfl)
    (try simp only [Act.put, List.setIfInBounds_toArray, List.set_cons_zero, List.set_cons_succ])
    refine wpAnyH_take (i := 6) (v := ?_) (by simp only [List.getElem?_toArray, List.getElem?_cons_zero, List.getElem?_cons_succ]; rfl) (by kernel_rfl) (by kernel_rfl) (by kernel_rfl) (by intro _ _ _ h; exact h) (Or.inl ⟨by rfl, ?_⟩) (by assumption) ?_
    rotate_left
    · intro w hSw; (try dsimp only at hSw); go_simp; (try with_reducible rfl)
    (try simp only [Act.put, List.setIfInBounds_toArray, List.set_cons_zero, List.set_cons_succ])
    refine wpAnyH_take (i := 7) (v := ?_) (by simp only [List.getElem?_toArray, List.getElem?_cons_zero, List.getElem?_cons_succ]; rfl) (by kernel_rfl) (by kernel_rfl) (by kernel_rfl) (by intro _ _ _ h; exact h) (Or.inl ⟨by rfl, ?_⟩) (by assumption) ?_
    rotate_left
    · intro w hSw; (try dsimp only at hSw); go_simp; (try with_reducible rfl)
    (try simp only [Act.put, List.setIfInBounds_toArray, List.set_cons_zero, List.set_cons_succ])
    refine wpAnyH_take (i := 8) (v := ?_) (by simp only [List.getElem?_toArray, List.getElem?_cons_zero, List.getElem?_cons_succ]; rfl) (by kernel_rfl) (by kernel_rfl) (by kernel_rfl) (by intro _ _ _ h; exact h) (Or.inl ⟨by rfl, ?_⟩) (by assumption) ?_
    rotate_left
    · intro w hSw; (try dsimp only at hSw); go_simp; (try with_reducible rfl)
    (try simp only [Act.put, List.setIfInBounds_toArray, List.set_cons_zero, List.set_cons_succ])
    refine wpAnyH_take (i := 9) (v := ?_) (by simp only [List.getElem?_toArray, List.getElem?_cons_zero, List.getElem?_cons_succ]; rfl) (by kernel_rfl) (by kernel_rfl) (by kernel_rfl) (by intro _ _ _ h; exact h) (Or.inl ⟨by rfl, ?_⟩) (by assumption) ?_
    rotate_left
    · intro w hSw; (try dsimp only at hSw); go_simp; (try with_reducible rfl)
    (try simp only [Act.put, List.setIfInBounds_toArray, List.set_cons_zero, List.set_cons_succ])
    refine wpAnyH_take (i := 10) (v := ?_) (by simp only [List.getElem?_toArray, List.getElem?_cons_zero, List.getElem?_cons_succ]; rfl) (by kernel_rfl) (by kernel_rfl) (by kernel_rfl) (by intro _ _ _ h; exact h) (Or.inl ⟨by rfl, ?_⟩) (by assumption) ?_
    rotate_left
    · intro w hSw; (try dsimp only at hSw); go_simp; (try with_reducible rfl)
    (try simp only [Act.put, List.setIfInBounds_toArray, List.set_cons_zero, List.set_cons_succ])
    refine wpAnyH_take (i := 12) (v := ?_) (by simp only [List.getElem?_toArray, List.getElem?_cons_zero, List.getElem?_cons_succ]; rfl) (by kernel_rfl) (by kernel_rfl) (by kernel_rfl) (by intro _ _ _ h; exact h) (Or.inl ⟨by rfl, ?_⟩) (by assumption) ?_
    rotate_left
    · intro w hSw; (try dsimp only at hSw); go_simp; (try with_reducible rfl)
    (try simp only [Act.put, List.setIfInBounds_toArray, List.set_cons_zero, List.set_cons_succ])
    refine wpAnyH_ready (rs := [11]) (by kernel_rfl) (by simp) ?_
    refine AllReadyH.cons rfl (fun K hK => ?_) ?_
    · have cw9 := (KB.out _ hU0).1.cell1 i _ huW
      go_simp
      refine hK.out _ _ ((KB.out _ hU0).2.cell1 4 _ rfl) (fun hHeld => ?_)
      clear cw9
      clear hK K
      (try simp only [Act.put, List.setIfInBounds_toArray, List.set_cons_zero, List.set_cons_succ])
      refine wpAnyH_ready (rs := [13]) (by kernel_rfl) (by simp) ?_
      refine AllReadyH.cons rfl (fun K hK => ?_) ?_
      · refine step_call62 (by rfl) (by rfl) _ _ _ (by rfl) _ _ (by rfl) (by rfl) (HW.out _ hU0) ?_
        rintro e9 wW ⟨vW, rfl, hRW, hUW⟩
        obtain ⟨ya, yc, hy9⟩ := rowq_len hRW
        obtain ⟨yn, hyn⟩ : ∃ x, (bds R i (woN v.wl j)).length = x := ⟨_, rfl⟩
        rw [hyn] at hy9
        subst hy9
        refine ⟨_, rfl, ?_⟩
        refine hK.out _ _ ((KB.out _ (hU0.trans hUW)).2.cell1 4 _ rfl) (fun hHeld => ?_)
        clear hK K
        (try simp only [Act.put, List.setIfInBounds_toArray, List.set_cons_zero, List.set_cons_succ])
        refine wpAnyH_take (i := 14) (v := ?_) (by simp only [List.getElem?_toArray, List.getElem?_cons_zero, List.getElem?_cons_succ]; rfl) (by kernel_rfl) (by kernel_rfl) (by kernel_rfl) (by intro _ _ _ h; exact h) (Or.inl ⟨by rfl, ?_⟩) (by assumption) ?_
        rotate_left
        · intro w hSw; (try dsimp only at hSw); go_simp; (try with_reducible rfl)
        (try simp only [Act.put, List.setIfInBounds_toArray, List.set_cons_zero, List.set_cons_succ])
        refine wpAnyH_ready (rs := [15]) (by kernel_rfl) (by simp) ?_
        refine AllReadyH.cons rfl (fun K hK => ?_) ?_
        · have kw := (KB.out _ (hU0.trans hUW)).1
          have kc := (KB.out _ (hU0.trans hUW)).2
          have cw8 := kw.cell1 i _ huW
          have zw8 := kw.frozen i
          have ncw := kc.ne kw (by decide)
          go_simp
          refine hK.out _ _ ((kc.other (a := ⟨R.wb, i, none⟩) ncw _).cell1 4 _ rfl) (fun hHeld => ?_)
          clear hK K
          (try simp only [Act.put, List.setIfInBounds_toArray, List.set_cons_zero, List.set_cons_succ])
          refine wpAnyH_done (by kernel_rfl) ?_ _
          obtain ⟨F3, U3⟩ := FIN.out _ _ _ (hU0.trans hUW) hRW hU0.size
          clear cw8 zw8 kw kc ncw hHeld hRW hUW
          obtain ⟨w4, hw4⟩ : ∃ W, wW.setCell ⟨R.wb, i, none⟩ (.slice ya yn yc) = W := ⟨_, rfl⟩
          rw [hw4] at F3 U3
          (try rw [hw4])
          clear hw4
          have F3 := F3.grow ((Upd.refl Non w4).drew)
          have U3 := U3.trans ((Upd.refl (Rb R vs pv) w4).drew)
          have HPm := HP.out _ F3
          have ci1 := (F3.it i { v with wl := woN v.wl j } j e (by rw [vset_get hv, if_pos rfl]) hev).cell1 1 _ rfl
          clear hU0
          go_wp2
          go_region_held_law (fun W => W.cell? ⟨R.bd i j, 1, none⟩ = some e.val) (first | exact ci1 | exact LAST) ((go_at_call 61; refine HPm.mono ?_; rintro e9 w5 ⟨rfl, pv5, F5, U5, ho5⟩; have LAST := (F5.it i { v with wl := woN v.wl j, ent := v.ent.set j { e with pins := e.pins + 1 } } j { e with pins := e.pins + 1 } (by rw [vset_get (i := i) (v := { v with wl := woN v.wl j }) (by rw [vset_get hv, if_pos rfl]), if_pos rfl]) (by rw [set_get hev, if_pos rfl])).cell1 1 _ rfl))
          go_wp2
          refine bodyPost_ret (v := .tuple #[.int .i64 ((s.P.length : Int) + 1), e.val, .bool true]) (by simp [results, Try.results31, go_sem]) rfl ⟨rfl, ?_⟩
          exact END.out _ _ _ U3 F5 U5 ho5
        exact AllReadyH.nil
      exact AllReadyH.nil
    exact AllReadyH.nil
end
end Go.Proofs.Ytlkfabejecgfgaa
