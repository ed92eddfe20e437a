import Derived.Test.YtkdjahgndkdnhaaR
import Derived.Test.YtkdjahgndkdnhaaU
namespace Go.Proofs.Ytkdjahgndkdnhaa
open Go.RowKit Go.Maps Go.Shelf
set_option linter.unusedVariables false
set_option linter.unusedSimpArgs false
section
variable {w W : World} {b : Nat} {rv : Value} {m : Nat} {ps : List Nat} {ts : List Tk} {H : Int → Option Int} {st c xb : Nat} {dv tv : Value} {T : List Int} {M : Nat} {q : Nat → Nat} {lv : Nat → Value} {ls : Nat → List (Int × Int)} {at_ : Nat → Nat} {n : Nat}
theorem Ps.below {W' : World} (h : Ps w W b rv m ps ts H st c xb dv tv T M q lv ls at_ n) (hB : Below W.heap.size W W') : Ps w W' b rv m ps ts H st c xb dv tv T M q lv ls at_ n := by
  have u : Upd Non W W' := Upd.ofBelow hB
  exact ⟨h.sc.below hB, h.pr.upd u (fun h => h) (fun _ _ h => h), fun i hi => ⟨(h.bx i hi).bx.upd u (fun h => h), (h.bx i hi).ba.upd u (fun h => h), (h.bx i hi).bl.upd u (fun h => h), (h.bx i hi).bt.upd u (fun h => h)⟩, fun i hi => (h.rd i hi).upd u (Nat.le_trans h.nm h.hm) (fun _ h => h.elim), h.qq, h.qo, h.nm, Nat.le_trans h.hm hB.size, h.ox, h.olds, h.lps, h.bel.trans (hB.mono h.bel.size)⟩
theorem ps_pick (h : Ps w W b rv m ps ts H st c xb dv tv T M q lv ls at_ n) (hc : c < maxLen) (hn : n ≤ 64) (hst : st < 4000000000000000000) (ok : ∀ t ∈ ts, TkOk st t) {L : List Nat} (hL : nums (mayB H st) 0 ts = L) {j x : Nat} (hj : j ≤ 9223372036854775807) (hx : L[j % L.length]? = some x) {t : Tk} (ht : ts[x]? = some t) (hstep : t.step = clo (q x)) (hff : t.failed = false)
    (hat : at_ x ≤ (ls x).length) (hll : (ls x).length ≤ 1000) (hT : T.length + (ls x).length ≤ 100000) (hact : ∀ y ∈ ls x, y.1 ≤ 0 ∧ -100 ≤ y.1 ∧ I64 y.2) {R : (Int × Int) × (Int → Option Int) × List Int × Nat} (hR : stepR x ((ls x).drop (at_ x)) (lockd H t x) T (at_ x) = R) :
    Calls Try.prog 16 #[ptr b, .int .i64 j] W fun e w' => e = .returned (.tuple #[.int .i64 x, .int .i64 0]) ∧ ∃ tv', Ps w w' b rv m ps (ts.set x (t.goes.wished R.1.1 R.1.2 (st + 1))) R.2.1 (st + 1) (c + 1) xb dv tv' R.2.2.1 M q lv ls (fset at_ x R.2.2.2) n := by
  have hxn : x < n := by
    have := (List.getElem?_eq_some_iff.1 ht).1
    rw [h.sc.len, h.lps] at this
    exact this
  have hxl : x < ts.length := (List.getElem?_eq_some_iff.1 ht).1
  have hqx := h.qo x hxn
  have Bx0 := h.bx x hxn
  obtain ⟨D, hD⟩ := h.sc.map
  have nW : ∀ (B : Nat) (t : TypeId) (cs : List Value), Blk W B t cs → t ≠ 71 → t ≠ 83 → t ≠ 85 → ¬ SB b rv m ps B := fun B t cs hB h1 h2 h3 => h.sc.not_sb hB h1 h2 h3
  have lM : M ≤ W.heap.size := h.hm
  -- the step, at the world in which it is called
  have HG : ∀ w1, Sc w1 b rv m ps (ts.set x t.goes) (lockd H t x) st true (c + 1) → Upd (SB b rv m ps) W w1 →
      Stp 51 #[] #[ptr (q x), ptr (q x + 1 + 1 + 1), ptr (q x + 1 + 1), ptr (q x + 1)] b rv m ps (ts.set x t.goes) (lockd H t x) st (c + 1) (StB m xb (q x + 1 + 1 + 1) tv)
        (fun w2 k o ts2 H2 => k = R.1.1 ∧ o = R.1.2 ∧ ts2 = ts.set x t.goes ∧ H2 = R.2.1 ∧ ∃ tv', Pr w2 xb b dv tv' R.2.2.1 M ∧ Bx w2 (q x) (q x + 1 + 1 + 1) (q x + 1 + 1) (q x + 1) xb R.2.2.2 (lv x) x ∧ (∀ B t cs, Blk W B t cs → ¬ SB b rv m ps B → ¬ StB m xb (q x + 1 + 1 + 1) tv B → Blk w2 B t cs) ∧ (tv'.ownBlock = tv.ownBlock ∨ ∀ k, tv'.ownBlock = some k → W.heap.size ≤ k)) w1 := by
    intro w1 hs hu
    have k1 : ∀ (B : Nat) (t : TypeId) (cs : List Value), Blk W B t cs → t ≠ 71 → t ≠ 83 → t ≠ 85 → Blk w1 B t cs := fun B t cs hB h1 h2 h3 => hB.upd hu (nW B t cs hB h1 h2 h3)
    have pr1 : Pr w1 xb b dv tv T M := h.pr.upd hu (nW _ _ _ h.pr.blk (by decide) (by decide) (by decide)) (h.sc.not_sbr h.pr.told (by decide) (by decide) (by decide))
    have sp : Sp w1 b rv m ps (ts.set x t.goes) (lockd H t x) st (c + 1) xb dv tv T w.heap.size M (q x) (q x + 1 + 1 + 1) (q x + 1 + 1) (q x + 1) (at_ x) (lv x) x (ls x) :=
      ⟨hs, pr1, ⟨k1 _ _ _ Bx0.bx (by decide) (by decide) (by decide), k1 _ _ _ Bx0.ba (by decide) (by decide) (by decide), k1 _ _ _ Bx0.bl (by decide) (by decide) (by decide), k1 _ _ _ Bx0.bt (by decide) (by decide) (by decide)⟩, (h.rd x hxn).upd hu (Nat.le_trans h.nm h.hm) h.olds, h.nm, Nat.le_trans h.hm hu.size, by omega, by omega, by omega, by omega, h.ox, h.olds m (.inr (.inr (.inl rfl)))⟩
    have ok1 : ∀ y ∈ ts.set x t.goes, TkOk st y := by
      intro y hy
      rcases List.mem_or_eq_of_mem_set hy with hy | rfl
      · exact ok y hy
      · have := ok t (List.mem_of_getElem? ht)
        exact ⟨by unfold Tk.goes I64; dsimp only; omega, by unfold Tk.goes I64; dsimp only; omega, this.s0, this.s1⟩
    refine (step1_any sp (by rw [h.lps]; exact hn) hst ok1 (by rw [h.lps]; exact hxn) hat hll hT hact).mono ?_
    rw [hR]
    rintro e w2 ⟨tv', rfl, sp2, hu2, hloc⟩
    refine ⟨_, _, _, _, rfl, sp2.sc, hu2, rfl, rfl, rfl, rfl, tv', sp2.pr, sp2.bx, ?_, ?_⟩
    · intro B t cs hB h1 h2
      exact (hB.upd hu h1).upd hu2 h2
    · rcases hloc with e | e
      · exact .inl e
      · exact .inr (fun k hk => Nat.le_trans hu.size (e k hk))
  have e1 := pick_any h.sc hc (by rw [h.lps]; exact hn) hst ok hL (i := j) (j := j) (by omega) (by omega) hx ht 51 #[] #[ptr (q x), ptr (q x + 1 + 1 + 1), ptr (q x + 1 + 1), ptr (q x + 1)] hstep (fun w => by kernel_rfl)
    (StB m xb (q x + 1 + 1 + 1) tv) (by
      rintro k (rfl | rfl | rfl | e)
      · exact hD.lt
      · exact h.pr.blk.lt
      · exact Bx0.ba.lt
      · exact (h.pr.told.lt k e).2) _ HG
  refine e1.mono ?_
  rintro e w3 ⟨w2, k', o2, ts2, H2, t2, he, ⟨rfl, rfl, rfl, rfl, tv', pr2, bx2, keep2, loc2⟩, ht2, hS3, ⟨hU3, hRw⟩, hU4⟩
  rw [List.getElem?_set] at ht2
  simp [hxl] at ht2
  subst ht2
  rw [List.set_set] at hS3
  -- from w2 to w3
  have k3 : ∀ (B : Nat) (t : TypeId) (cs : List Value), Blk w2 B t cs → B < W.heap.size → ¬ SB b rv m ps B → Blk w3 B t cs := by
    intro B t cs hB hl hn
    refine hB.upd hU3 ?_
    rintro ((e | e) | e)
    · exact hn (.inl e)
    · exact hn (.inr (.inr (.inr e)))
    · omega
  have k4 : ∀ (B : Nat) (t : TypeId) (cs : List Value), Blk W B t cs → t ≠ 71 → t ≠ 83 → t ≠ 85 → ¬ StB m xb (q x + 1 + 1 + 1) tv B → Blk w3 B t cs := fun B t cs hB h1 h2 h3 hn => k3 B t cs (keep2 B t cs hB (nW B t cs hB h1 h2 h3) hn) hB.lt (nW B t cs hB h1 h2 h3)
  have hsz := hU4.size
  have hold : ∀ k, (SB b rv m ps k ∨ StB m xb (q x + 1 + 1 + 1) tv k) → w.heap.size ≤ k := by
    rintro k (e | e | e | e | e)
    · exact h.olds k e
    · rw [e]; exact h.olds m (.inr (.inr (.inl rfl)))
    · rw [e]; exact h.ox
    · rw [e]; omega
    · exact Nat.le_trans h.nm (h.pr.told.lt k e).1
  refine ⟨by rw [he, show t.goes.failed = t.failed from rfl, hff]; rfl, tv', hS3, ⟨?_, ?_⟩, ?_, ?_, h.qq, h.qo, h.nm, Nat.le_trans lM hsz, h.ox, h.olds, h.lps, ?_⟩
  · exact k3 _ _ _ pr2.blk h.pr.blk.lt (nW _ _ _ h.pr.blk (by decide) (by decide) (by decide))
  · exact hRw M 3 1 tv' _ _ (by decide) (by decide) (by decide) (by decide) pr2.told
  · intro i hi
    by_cases e : i = x
    · subst e
      have e2 : fset at_ i R.2.2.2 i = R.2.2.2 := by simp [fset]
      rw [e2]
      exact ⟨k3 _ _ _ bx2.bx Bx0.bx.lt (nW _ _ _ Bx0.bx (by decide) (by decide) (by decide)), k3 _ _ _ bx2.ba Bx0.ba.lt (nW _ _ _ Bx0.ba (by decide) (by decide) (by decide)), k3 _ _ _ bx2.bl Bx0.bl.lt (nW _ _ _ Bx0.bl (by decide) (by decide) (by decide)), k3 _ _ _ bx2.bt Bx0.bt.lt (nW _ _ _ Bx0.bt (by decide) (by decide) (by decide))⟩
    · have e2 : fset at_ x R.2.2.2 i = at_ i := by simp [fset, e]
      rw [e2]
      have Bi := h.bx i hi
      have hqi := h.qo i hi
      have hd : q i + 4 ≤ q x ∨ q x + 4 ≤ q i := by
        rcases Nat.lt_or_gt_of_ne e with h1 | h1
        · exact .inl (h.qq i x h1 hxn)
        · exact .inr (h.qq x i h1 hi)
      have nS : ∀ (B : Nat) (t : TypeId) (cs : List Value), Blk W B t cs → t ≠ 34 → B < M → B ≠ q x + 1 + 1 + 1 → ¬ StB m xb (q x + 1 + 1 + 1) tv B := by
        rintro B t cs hB h1 h2 h3 (e' | e' | e' | e')
        · exact hD.ne hB e'.symm
        · exact hB.ne h.pr.blk h1 e'
        · exact h3 e'
        · have := (h.pr.told.lt B e').1; omega
      exact ⟨k4 _ _ _ Bi.bx (by decide) (by decide) (by decide) (nS _ _ _ Bi.bx (by decide) (by omega) (by omega)), k4 _ _ _ Bi.ba (by decide) (by decide) (by decide) (nS _ _ _ Bi.ba (by decide) (by omega) (by omega)), k4 _ _ _ Bi.bl (by decide) (by decide) (by decide) (nS _ _ _ Bi.bl (by decide) (by omega) (by omega)), k4 _ _ _ Bi.bt (by decide) (by decide) (by decide) (nS _ _ _ Bi.bt (by decide) (by omega) (by omega))⟩
  · intro i hi
    exact (h.rd i hi).upd hU4 (Nat.le_trans h.nm h.hm) hold
  · exact h.bel.trans ⟨hU4.os, hU4.tape, hU4.output, hU4.size, fun k hk => hU4.block k (Nat.lt_of_lt_of_le hk h.bel.size) (fun hh => by have := hold k hh; omega)⟩
end
end Go.Proofs.Ytkdjahgndkdnhaa
