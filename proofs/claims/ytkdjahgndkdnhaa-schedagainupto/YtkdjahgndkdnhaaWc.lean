import Derived.Test.YtkdjahgndkdnhaaWb
namespace Go.Proofs.Ytkdjahgndkdnhaa
open Go.RowKit Go.Maps Go.Shelf
set_option linter.unusedVariables false
set_option linter.unusedSimpArgs false
/-- A pair's blocks. -/
def FP (b : Nat) (rv : Value) (m : Nat) (ps : List Nat) (xb : Nat) (q : Nat → Nat) (n : Nat) (tv : Value) : Nat → Prop := fun k => SB b rv m ps k ∨ k = xb ∨ (∃ i, i < n ∧ q i ≤ k ∧ k < q i + 4) ∨ tv.ownBlock = some k
section
variable {w W : World} {b : Nat} {rv : Value} {m : Nat} {ps : List Nat} {ts : List Tk} {H : Int → Option Int} {st c xb : Nat} {dv tv : Value} {T : List Int} {M : Nat} {q : Nat → Nat} {lv : Nat → Value} {ls : Nat → List (Int × Int)} {at_ : Nat → Nat} {n : Nat}
/-- A pair that another one's doings pass by. -/
theorem Ps.keep {S : Nat → Prop} {W' : World} (h : Ps w W b rv m ps ts H st c xb dv tv T M q lv ls at_ n) (u : Upd S W W') (hS : ∀ k, FP b rv m ps xb q n tv k → ¬ S k) (hw : ∀ k, S k → w.heap.size ≤ k) : Ps w W' b rv m ps ts H st c xb dv tv T M q lv ls at_ n := by
  refine ⟨h.sc.upd u (fun k hk => hS k (.inl hk)), h.pr.upd u (hS _ (.inr (.inl rfl))) (fun k hk => hS k (.inr (.inr (.inr hk)))), fun i hi => ?_, fun i hi => (h.rd i hi).upd u (Nat.le_trans h.nm h.hm) hw, h.qq, h.qo, h.nm, Nat.le_trans h.hm u.size, h.ox, h.olds, h.lps, ?_⟩
  · have B := h.bx i hi
    have f : ∀ k, q i ≤ k → k < q i + 4 → ¬ S k := fun k h1 h2 => hS k (.inr (.inr (.inl ⟨i, hi, h1, h2⟩)))
    exact ⟨B.bx.upd u (f _ (by omega) (by omega)), B.ba.upd u (f _ (by omega) (by omega)), B.bl.upd u (f _ (by omega) (by omega)), B.bt.upd u (f _ (by omega) (by omega))⟩
  · exact h.bel.trans ⟨u.os, u.tape, u.output, u.size, fun k hk => u.block k (Nat.lt_of_lt_of_le hk h.bel.size) (fun hh => by have := hw k hh; omega)⟩
theorem psg_pick2 (h : Ps w W b rv m ps ts H st c xb dv tv T M q lv ls at_ n) (hc : c < maxLen) (hn : n ≤ 64) (hst : st < 4000000000000000000) (ok : ∀ t ∈ ts, TkOk st t) {L : List Nat} (hL : nums (mayB H st) 0 ts = L) {j x : Nat} (hj : j ≤ 9223372036854775807) (hx : L[j % L.length]? = some x) {t : Tk} (ht : ts[x]? = some t) (hstep : t.step = clo (q x))
    (hat : at_ x ≤ (ls x).length) (hll : (ls x).length ≤ 10000000) (hT : T.length + ((ls x).length - at_ x) ≤ 900000) (hact : ∀ y ∈ ls x, I64 y.1 ∧ I64 y.2) (hA : Apt ts) {R : GR} (hR : R = stepG x ((ls x).drop (at_ x)) (ts.set x t.goes) (lockd H t x) T (at_ x)) :
    Calls Try.prog 16 #[ptr b, .int .i64 j] W fun e w' => e = .returned (.tuple #[.int .i64 x, .int .i64 (fin R x st).2.2]) ∧ ∃ tv', Ps w w' b rv m ps (fin R x st).1 (fin R x st).2.1 (st + 1) (c + 1) xb dv tv' R.T M q lv ls (fset at_ x R.at_) n ∧ Upd (FP b rv m ps xb q n tv) W w' ∧ (tv'.ownBlock = tv.ownBlock ∨ ∀ k, tv'.ownBlock = some k → W.heap.size ≤ k) := by
  have hxn : x < n := by
    have := (List.getElem?_eq_some_iff.1 ht).1
    rw [h.sc.len, h.lps] at this
    exact this
  have hxl : x < ts.length := (List.getElem?_eq_some_iff.1 ht).1
  have hqx := h.qo x hxn
  have Bx0 := h.bx x hxn
  obtain ⟨D, hD⟩ := h.sc.map
  have nW : ∀ (B : Nat) (t : TypeId) (cs : List Value), Blk W B t cs → t ≠ 71 → t ≠ 83 → t ≠ 85 → ¬ SB b rv m ps B := fun B t cs hB h1 h2 h3 => h.sc.not_sb hB h1 h2 h3
  have lM : M ≤ W.heap.size := h.hm
  have hApt : Apt (ts.set x t.goes) := by rw [← goAt_some ht]; exact apt_goAt hA x
  have HG : ∀ w1, Sc w1 b rv m ps (ts.set x t.goes) (lockd H t x) st true (c + 1) → Upd (SB b rv m ps) W w1 →
      Calls Try.prog 51 #[ptr (q x), ptr (q x + 1 + 1 + 1), ptr (q x + 1 + 1), ptr (q x + 1)] w1 fun e w2 => ((∃ k o, R.wish = some (k, o) ∧ e = .returned (.agg #[.int .i64 k, .int .i64 o])) ∨ (R.wish = none ∧ ∃ v, e = .panicked [{ v := v, recovered := false }])) ∧ Sc w2 b rv m ps R.ts R.H st true (c + 1) ∧ Upd (StG m ps xb (q x + 1 + 1 + 1) tv) w1 w2 ∧
        ∃ tv', Pr w2 xb b dv tv' R.T M ∧ Bx w2 (q x) (q x + 1 + 1 + 1) (q x + 1 + 1) (q x + 1) xb R.at_ (lv x) x ∧ (∀ B t cs, Blk W B t cs → ¬ SB b rv m ps B → ¬ StG m ps xb (q x + 1 + 1 + 1) tv B → Blk w2 B t cs) ∧ (tv'.ownBlock = tv.ownBlock ∨ ∀ k, tv'.ownBlock = some k → W.heap.size ≤ k) := by
    intro w1 hs hu
    have k1 : ∀ (B : Nat) (t : TypeId) (cs : List Value), Blk W B t cs → t ≠ 71 → t ≠ 83 → t ≠ 85 → Blk w1 B t cs := fun B t cs hB h1 h2 h3 => hB.upd hu (nW B t cs hB h1 h2 h3)
    have pr1 : Pr w1 xb b dv tv T M := h.pr.upd hu (nW _ _ _ h.pr.blk (by decide) (by decide) (by decide)) (h.sc.not_sbr h.pr.told (by decide) (by decide) (by decide))
    have sp : Sp w1 b rv m ps (ts.set x t.goes) (lockd H t x) st (c + 1) xb dv tv T w.heap.size M (q x) (q x + 1 + 1 + 1) (q x + 1 + 1) (q x + 1) (at_ x) (lv x) x (ls x) :=
      ⟨hs, pr1, ⟨k1 _ _ _ Bx0.bx (by decide) (by decide) (by decide), k1 _ _ _ Bx0.ba (by decide) (by decide) (by decide), k1 _ _ _ Bx0.bl (by decide) (by decide) (by decide), k1 _ _ _ Bx0.bt (by decide) (by decide) (by decide)⟩, (h.rd x hxn).upd hu (Nat.le_trans h.nm h.hm) h.olds, h.nm, Nat.le_trans h.hm hu.size, by omega, by omega, by omega, by omega, h.ox, h.olds m (.inr (.inr (.inl rfl)))⟩
    have ok1 : ∀ y ∈ ts.set x t.goes, TkOk st y := by
      intro y hy
      rcases List.mem_or_eq_of_mem_set hy with hy | rfl
      · exact ok y hy
      · have := ok t (List.mem_of_getElem? ht)
        exact ⟨by unfold Tk.goes I64; dsimp only; omega, by unfold Tk.goes I64; dsimp only; omega, this.s0, this.s1⟩
    refine (stepg_any sp (by rw [h.lps]; exact hn) hst ok1 (by rw [h.lps]; exact hxn) hat hll hT hact hApt (fun j hj => h.olds j (.inr (.inr (.inr hj)))) hR).mono ?_
    rintro e w2 ⟨tv', he, sp2, hu2, hloc⟩
    refine ⟨he, sp2.sc, hu2, tv', sp2.pr, sp2.bx, ?_, ?_⟩
    · intro B t cs hB h1 h2
      exact (hB.upd hu h1).upd hu2 h2
    · rcases hloc with e | e
      · exact .inl e
      · exact .inr (fun k hk => Nat.le_trans hu.size (e k hk))
  have hSt : ∀ k, StG m ps xb (q x + 1 + 1 + 1) tv k → k < W.heap.size := by
    rintro k (rfl | e | rfl | rfl | e)
    · exact hD.lt
    · exact h.sc.sb_lt k (.inr (.inr (.inr e)))
    · exact h.pr.blk.lt
    · exact Bx0.ba.lt
    · exact (h.pr.told.lt k e).2
  have hFP : ∀ {w3 : World}, Upd (fun k => SB b rv m ps k ∨ StG m ps xb (q x + 1 + 1 + 1) tv k) W w3 → Upd (FP b rv m ps xb q n tv) W w3 := fun u => ⟨u.os, u.tape, u.output, u.size, fun k hk hn => u.block k hk (by
    rintro (e | e | e | e | e | e)
    · exact hn (.inl e)
    · exact hn (.inl (.inr (.inr (.inl e))))
    · exact hn (.inl (.inr (.inr (.inr e))))
    · exact hn (.inr (.inl e))
    · exact hn (.inr (.inr (.inl ⟨x, hxn, by omega, by omega⟩)))
    · exact hn (.inr (.inr (.inr e))))⟩
  -- what the end of the step leaves
  have END : ∀ w2 w3 ts3 H3 tv', Pr w2 xb b dv tv' R.T M → Bx w2 (q x) (q x + 1 + 1 + 1) (q x + 1 + 1) (q x + 1) xb R.at_ (lv x) x → (∀ B t cs, Blk W B t cs → ¬ SB b rv m ps B → ¬ StG m ps xb (q x + 1 + 1 + 1) tv B → Blk w2 B t cs) →
      Sc w3 b rv m ps ts3 H3 (st + 1) false (c + 1) → (∀ (B : Nat) (t : TypeId) (cs : List Value), Blk w2 B t cs → B < W.heap.size → ¬ SB b rv m ps B → Blk w3 B t cs) → Rws w2 w3 → Upd (fun k => SB b rv m ps k ∨ StG m ps xb (q x + 1 + 1 + 1) tv k) W w3 →
      Ps w w3 b rv m ps ts3 H3 (st + 1) (c + 1) xb dv tv' R.T M q lv ls (fset at_ x R.at_) n := by
    intro w2 w3 ts3 H3 tv' pr2 bx2 keep2 hS3 k3 hRw hU4
    have k4 : ∀ (B : Nat) (t : TypeId) (cs : List Value), Blk W B t cs → t ≠ 71 → t ≠ 83 → t ≠ 85 → ¬ StG m ps xb (q x + 1 + 1 + 1) tv B → Blk w3 B t cs := fun B t cs hB h1 h2 h3 hn => k3 B t cs (keep2 B t cs hB (nW B t cs hB h1 h2 h3) hn) hB.lt (nW B t cs hB h1 h2 h3)
    have hsz := hU4.size
    have hold : ∀ k, (SB b rv m ps k ∨ StG m ps xb (q x + 1 + 1 + 1) tv k) → w.heap.size ≤ k := by
      rintro k (e | e | e | e | e | e)
      · exact h.olds k e
      · rw [e]; exact h.olds m (.inr (.inr (.inl rfl)))
      · exact h.olds k (.inr (.inr (.inr e)))
      · rw [e]; exact h.ox
      · rw [e]; omega
      · exact Nat.le_trans h.nm (h.pr.told.lt k e).1
    refine ⟨hS3, ⟨?_, ?_⟩, ?_, ?_, h.qq, h.qo, h.nm, Nat.le_trans lM hsz, h.ox, h.olds, h.lps, ?_⟩
    · exact k3 _ _ _ pr2.blk h.pr.blk.lt (nW _ _ _ h.pr.blk (by decide) (by decide) (by decide))
    · exact hRw M 3 1 tv' _ _ (by decide) (by decide) (by decide) (by decide) pr2.told
    · intro i hi
      by_cases e : i = x
      · subst e
        have e2 : fset at_ i R.at_ i = R.at_ := by simp [fset]
        rw [e2]
        exact ⟨k3 _ _ _ bx2.bx Bx0.bx.lt (nW _ _ _ Bx0.bx (by decide) (by decide) (by decide)), k3 _ _ _ bx2.ba Bx0.ba.lt (nW _ _ _ Bx0.ba (by decide) (by decide) (by decide)), k3 _ _ _ bx2.bl Bx0.bl.lt (nW _ _ _ Bx0.bl (by decide) (by decide) (by decide)), k3 _ _ _ bx2.bt Bx0.bt.lt (nW _ _ _ Bx0.bt (by decide) (by decide) (by decide))⟩
      · have e2 : fset at_ x R.at_ i = at_ i := by simp [fset, e]
        rw [e2]
        have Bi := h.bx i hi
        have hqi := h.qo i hi
        have hd : q i + 4 ≤ q x ∨ q x + 4 ≤ q i := by
          rcases Nat.lt_or_gt_of_ne e with h1 | h1
          · exact .inl (h.qq i x h1 hxn)
          · exact .inr (h.qq x i h1 hi)
        have nS : ∀ (B : Nat) (t : TypeId) (cs : List Value), Blk W B t cs → t ≠ 34 → t ≠ 85 → B < M → B ≠ q x + 1 + 1 + 1 → ¬ StG m ps xb (q x + 1 + 1 + 1) tv B := by
          rintro B t cs hB h1 h5 h2 h3 (e' | e' | e' | e' | e')
          · exact hD.ne hB e'.symm
          · obtain ⟨i', hi'⟩ := List.mem_iff_getElem?.1 e'
            have : i' < ts.length := by rw [h.sc.len]; exact (List.getElem?_eq_some_iff.1 hi').1
            exact hB.ne (h.sc.tks i' B _ hi' (List.getElem?_eq_getElem this)) h5 rfl
          · exact hB.ne h.pr.blk h1 e'
          · exact h3 e'
          · have := (h.pr.told.lt B e').1; omega
        exact ⟨k4 _ _ _ Bi.bx (by decide) (by decide) (by decide) (nS _ _ _ Bi.bx (by decide) (by decide) (by omega) (by omega)), k4 _ _ _ Bi.ba (by decide) (by decide) (by decide) (nS _ _ _ Bi.ba (by decide) (by decide) (by omega) (by omega)), k4 _ _ _ Bi.bl (by decide) (by decide) (by decide) (nS _ _ _ Bi.bl (by decide) (by decide) (by omega) (by omega)), k4 _ _ _ Bi.bt (by decide) (by decide) (by decide) (nS _ _ _ Bi.bt (by decide) (by decide) (by omega) (by omega))⟩
    · intro i hi
      exact (h.rd i hi).upd hU4 (Nat.le_trans h.nm h.hm) hold
    · exact h.bel.trans ⟨hU4.os, hU4.tape, hU4.output, hU4.size, fun k hk => hU4.block k (Nat.lt_of_lt_of_le hk h.bel.size) (fun hh => by have := hold k hh; omega)⟩
  cases hw : R.wish with
  | some ko =>
    obtain ⟨k, o⟩ := ko
    have e1 := pick_any h.sc hc (by rw [h.lps]; exact hn) hst ok hL (i := j) (j := j) (by omega) (by omega) hx ht 51 #[] #[ptr (q x), ptr (q x + 1 + 1 + 1), ptr (q x + 1 + 1), ptr (q x + 1)] hstep (fun w => by kernel_rfl) _ hSt
      (fun w2 k' o' ts2 H2 => k' = k ∧ o' = o ∧ ts2 = R.ts ∧ H2 = R.H ∧ ∃ tv', Pr w2 xb b dv tv' R.T M ∧ Bx w2 (q x) (q x + 1 + 1 + 1) (q x + 1 + 1) (q x + 1) xb R.at_ (lv x) x ∧ (∀ B t cs, Blk W B t cs → ¬ SB b rv m ps B → ¬ StG m ps xb (q x + 1 + 1 + 1) tv B → Blk w2 B t cs) ∧ (tv'.ownBlock = tv.ownBlock ∨ ∀ k, tv'.ownBlock = some k → W.heap.size ≤ k))
      (fun w1 hs hu => (HG w1 hs hu).mono (by
        rintro e w2 ⟨he, g1, g2, tv', g3, g4, g5, g6⟩
        rcases he with ⟨k', o', hk, rfl⟩ | ⟨hk, _⟩
        · rw [hw] at hk
          cases hk
          exact ⟨k, o, _, _, rfl, g1, g2, rfl, rfl, rfl, rfl, tv', g3, g4, g5, g6⟩
        · rw [hw] at hk; cases hk))
    refine e1.mono ?_
    rintro e w3 ⟨w2, k', o2, ts2, H2, t2, he, ⟨rfl, rfl, rfl, rfl, tv', pr2, bx2, keep2, loc2⟩, ht2, hS3, ⟨hU3, hRw⟩, hU4⟩
    have ef : fin R x st = (R.ts.set x (t2.wished k' o2 (st + 1)), R.H, if t2.failed then 9 else 0) := by unfold fin; rw [ht2, hw]
    rw [ef]
    refine ⟨he, tv', END w2 w3 _ _ tv' pr2 bx2 keep2 hS3 ?_ hRw hU4, hFP hU4, loc2⟩
    intro B t cs hB hl hn
    refine hB.upd hU3 ?_
    rintro ((e | e) | e)
    · exact hn (.inl e)
    · exact hn (.inr (.inr (.inr e)))
    · omega
  | none =>
    have e1 := pick_pnk h.sc hc (by rw [h.lps]; exact hn) hst ok hL (i := j) (j := j) (by omega) (by omega) hx ht 51 #[] #[ptr (q x), ptr (q x + 1 + 1 + 1), ptr (q x + 1 + 1), ptr (q x + 1)] hstep (fun w => by kernel_rfl) _ hSt
      (fun w2 ts2 H2 => ts2 = R.ts ∧ H2 = R.H ∧ ∃ tv', Pr w2 xb b dv tv' R.T M ∧ Bx w2 (q x) (q x + 1 + 1 + 1) (q x + 1 + 1) (q x + 1) xb R.at_ (lv x) x ∧ (∀ B t cs, Blk W B t cs → ¬ SB b rv m ps B → ¬ StG m ps xb (q x + 1 + 1 + 1) tv B → Blk w2 B t cs) ∧ (tv'.ownBlock = tv.ownBlock ∨ ∀ k, tv'.ownBlock = some k → W.heap.size ≤ k))
      (fun w1 hs hu => (HG w1 hs hu).mono (by
        rintro e w2 ⟨he, g1, g2, tv', g3, g4, g5, g6⟩
        rcases he with ⟨k', o', hk, _⟩ | ⟨_, v, rfl⟩
        · rw [hw] at hk; cases hk
        · exact ⟨v, _, _, rfl, g1, g2, rfl, rfl, tv', g3, g4, g5, g6⟩))
    refine e1.mono ?_
    rintro e w3 ⟨w2, ts2, H2, t2, he, ⟨rfl, rfl, tv', pr2, bx2, keep2, loc2⟩, ht2, hS3, ⟨hU3, hRw⟩, hU4⟩
    have ef : fin R x st = (R.ts.set x ({ t2 with failed := true }.wished 4 0 (st + 1)), freeH R.H x, 9) := by unfold fin; rw [ht2, hw]
    rw [ef]
    refine ⟨he, tv', END w2 w3 _ _ tv' pr2 bx2 keep2 hS3 ?_ hRw hU4, hFP hU4, loc2⟩
    intro B t cs hB hl hn
    refine hB.upd hU3 ?_
    rintro (e | e | e)
    · exact hn (.inl e)
    · exact hn (.inr (.inr (.inl e)))
    · exact hn (.inr (.inr (.inr e)))
end
end Go.Proofs.Ytkdjahgndkdnhaa
