import Derived.Test.YtkdjahgndkdnhaaWc
import Derived.Test.YtkdjahgndkdnhaaZl
namespace Go.Proofs.Ytkdjahgndkdnhaa
open Go.RowKit Go.Maps Go.Shelf
set_option linter.unusedVariables false
set_option linter.unusedSimpArgs false
/-- Picks one behind another; where nobody may go nothing is done. -/
def mgo (ls : Nat → List (Int × Int)) (s : MS) (l : List Nat) : MS := l.foldl (fun s j => match mpick ls s j with | some r => r.2.2 | none => s) s
theorem mgo_append (ls : Nat → List (Int × Int)) (s : MS) (l l' : List Nat) : mgo ls s (l ++ l') = mgo ls (mgo ls s l) l' := List.foldl_append ..
theorem mgo_one (ls : Nat → List (Int × Int)) (s : MS) (j : Nat) : mgo ls s [j] = match mpick ls s j with | some r => r.2.2 | none => s := rfl
theorem mgo_like (ls : Nat → List (Int × Int)) (l : List Nat) : ∀ {s u : MS}, s.bare = u.bare → (mgo ls s l).bare = (mgo ls u l).bare := by
  induction l with
  | nil => intro s u h; exact h
  | cons j l ih =>
    intro s u h
    have hj := mpick_like ls h j
    show (mgo ls (mgo ls s [j]) l).bare = (mgo ls (mgo ls u [j]) l).bare
    refine ih ?_
    rw [mgo_one, mgo_one]
    cases hs : mpick ls s j with
    | none =>
      cases hu : mpick ls u j with
      | none => exact h
      | some r => rw [hs, hu] at hj; cases hj
    | some r =>
      cases hu : mpick ls u j with
      | none => rw [hs, hu] at hj; cases hj
      | some r' =>
        rw [hs, hu] at hj
        simp only [Option.map_some, Option.some.injEq, Prod.mk.injEq] at hj
        exact hj.2.2
theorem mgo_stuck {ls : Nat → List (Int × Int)} {s : MS} (h : nums (mayB s.H s.st) 0 s.ts = []) (l : List Nat) : mgo ls s l = s := by
  induction l with
  | nil => rfl
  | cons j l ih =>
    show mgo ls (mgo ls s [j]) l = s
    rw [mgo_one, mpick_empty h]
    exact ih
section
variable {w W : World} {b : Nat} {rv : Value} {m : Nat} {ps : List Nat} {xb : Nat} {dv tv : Value} {M : Nat} {q : Nat → Nat} {lv : Nat → Value} {ls : Nat → List (Int × Int)} {n tot : Nat} {s : MS}
/-- A pair whose scheduler is the machine s. -/
def Am (w W : World) (b : Nat) (rv : Value) (m : Nat) (ps : List Nat) (xb : Nat) (dv tv : Value) (M : Nat) (q : Nat → Nat) (lv : Nat → Value) (ls : Nat → List (Int × Int)) (n tot : Nat) (s : MS) : Prop :=
  Ap w W b rv m ps s.ts s.H s.st xb dv tv s.T M q lv ls s.at_ n tot
/-- What a pair's doings may turn, from W0 on. -/
def Tr (b : Nat) (rv : Value) (m : Nat) (ps : List Nat) (xb : Nat) (q : Nat → Nat) (n : Nat) (tv0 : Value) (W0 : World) (tv : Value) (W : World) : Prop :=
  Upd (FP b rv m ps xb q n tv0) W0 W ∧ (tv.ownBlock = tv0.ownBlock ∨ ∀ k, tv.ownBlock = some k → W0.heap.size ≤ k)
theorem Tr.refl (b : Nat) (rv : Value) (m : Nat) (ps : List Nat) (xb : Nat) (q : Nat → Nat) (n : Nat) (tv : Value) (W : World) : Tr b rv m ps xb q n tv W tv W := ⟨Upd.refl _ _, .inl rfl⟩
theorem Tr.trans {W0 W1 : World} {tv0 tv1 : Value} (h : Tr b rv m ps xb q n tv0 W0 tv1 W1) (k : Tr b rv m ps xb q n tv1 W1 tv W) : Tr b rv m ps xb q n tv0 W0 tv W := by
  obtain ⟨h1, h2⟩ := h
  obtain ⟨k1, k2⟩ := k
  refine ⟨h1.then k1 ?_, ?_⟩
  · rintro i hi (e | e | e | e)
    · exact .inl e
    · exact .inr (.inl e)
    · exact .inr (.inr (.inl e))
    · rcases h2 with h2 | h2
      · exact .inr (.inr (.inr (h2 ▸ e)))
      · have := h2 i e; omega
  · have hs := h1.size
    rcases k2 with k2 | k2
    · rcases h2 with h2 | h2
      · exact .inl (k2.trans h2)
      · exact .inr (fun i e => h2 i (k2 ▸ e))
    · exact .inr (fun i e => Nat.le_trans hs (k2 i e))
theorem Tr.below {W0 W1 : World} {tv0 : Value} (h : Tr b rv m ps xb q n tv0 W0 tv W) (hB : Below W.heap.size W W1) : Tr b rv m ps xb q n tv0 W0 tv W1 :=
  ⟨h.1.then (S' := Non) (Upd.ofBelow hB) (fun _ _ e => e.elim), h.2⟩
/-- All of a pair's blocks are there, and above the base. -/
theorem Am.fp_lt (h : Am w W b rv m ps xb dv tv M q lv ls n tot s) : ∀ k, FP b rv m ps xb q n tv k → k < W.heap.size ∧ w.heap.size ≤ k := by
  have P := h.ps
  have := P.hm
  rintro k (e | e | ⟨i, hi, h1, h2⟩ | e)
  · exact ⟨P.sc.sb_lt k e, P.olds k e⟩
  · rw [e]; exact ⟨P.pr.blk.lt, P.ox⟩
  · have := P.qo i hi; omega
  · have := P.pr.told.lt k e
    have := P.nm
    omega
/-- Another's doings pass it by. -/
theorem Am.keep {S : Nat → Prop} {W' : World} (h : Am w W b rv m ps xb dv tv M q lv ls n tot s) (u : Upd S W W') (hS : ∀ k, FP b rv m ps xb q n tv k → ¬ S k) (hw : ∀ k, S k → w.heap.size ≤ k) : Am w W' b rv m ps xb dv tv M q lv ls n tot s :=
  ⟨Ps.keep h.ps u hS hw, h.ti, h.la, h.tl⟩
theorem fin_err (R : GR) (x st : Nat) : (fin R x st).2.2 = 0 ∨ (fin R x st).2.2 = 9 := by
  unfold fin
  split
  · exact .inl rfl
  · split
    · dsimp only
      split
      · exact .inr rfl
      · exact .inl rfl
    · exact .inr rfl
/-- A pick is the machine's. -/
theorem am_pick (h : Am w W b rv m ps xb dv tv M q lv ls n tot s) (hn : n ≤ 64) (htot : tot ≤ 900000) (hst : s.st < 3000000) (hls : ∀ i, i < n → ∀ y ∈ ls i, I64 y.1 ∧ I64 y.2) (hll : ∀ i, i < n → (ls i).length ≤ 10000000) {j : Nat} (hj : j ≤ 9223372036854775807) {x : Nat} {er : Int} {s' : MS} (hp : mpick ls s j = some (x, er, s')) :
    (er = 0 ∨ er = 9) ∧ s'.st = s.st + 1 ∧ Calls Try.prog 16 #[ptr b, .int .i64 j] W fun e w' => e = .returned (.tuple #[.int .i64 x, .int .i64 er]) ∧ ∃ tv', Am w w' b rv m ps xb dv tv' M q lv ls n tot s' ∧ Tr b rv m ps xb q n tv W tv' w' := by
  unfold mpick at hp
  generalize hL : nums (mayB s.H s.st) 0 s.ts = L at hp
  cases hx : L[j % L.length]? with
  | none => rw [hx] at hp; cases hp
  | some y =>
  rw [hx] at hp
  dsimp only at hp
  cases ht : s.ts[y]? with
  | none => rw [ht] at hp; cases hp
  | some t =>
  rw [ht] at hp
  dsimp only at hp
  have hxm : y ∈ nums (mayB s.H s.st) 0 s.ts := by rw [hL]; exact List.mem_of_getElem? hx
  obtain ⟨i, t', hi0, ht', hq⟩ := nums_iff.1 hxm
  obtain rfl : y = i := by omega
  rw [ht] at ht'
  cases ht'
  have hxn : y < n := by rw [← h.ti.len]; exact (List.getElem?_eq_some_iff.1 ht).1
  have hk4 : t.kind ≠ 4 := by
    intro e
    unfold mayB at hq
    rw [e] at hq
    simp at hq
  have hgo := ti_go h.ti (x := y) ⟨t, ht, hk4⟩
  rw [goAt_some ht] at hgo
  obtain ⟨R, hR⟩ : ∃ R, R = stepG y ((ls y).drop (s.at_ y)) (s.ts.set y t.goes) (lockd s.H t y) s.T (s.at_ y) := ⟨_, rfl⟩
  rw [← hR] at hp
  simp only [Option.some.injEq, Prod.mk.injEq] at hp
  obtain ⟨rfl, rfl, rfl⟩ := hp
  have hactx : ∀ z ∈ (ls y).drop (s.at_ y), I64 z.1 ∧ I64 z.2 := fun z hz => hls y hxn z (List.mem_of_mem_drop hz)
  obtain ⟨i1, i2, i3, i4, i5, i6⟩ := stepG_inv (m := y) ((ls y).drop (s.at_ y)) (s.ts.set y t.goes) (lockd s.H t y) s.T (s.at_ y) hactx hgo.1
  rw [← hR] at i1 i2 i3 i4 i5 i6
  rw [List.length_drop] at i3
  have hlax := h.la y hxn
  have hge := sumTo_ge (f := fun i => (ls i).length - s.at_ i) n hxn
  have htl := h.tl
  refine ⟨fin_err R y s.st, rfl, ?_⟩
  refine (psg_pick2 h.ps (by unfold maxLen; omega) hn (by omega) h.okl hL hj hx ht (h.ti.stp y t ht hk4) hlax (hll y hxn) (by omega) (hls y hxn) h.ti.apt hR).mono ?_
  rintro e w' ⟨he, tv', P, hU, hloc⟩
  refine ⟨he, tv', ⟨P, ?_, ?_, ?_⟩, hU, hloc⟩
  · obtain ⟨t2, ht2, hk2⟩ := i6 y (hgo.2 y ⟨t, ht, hk4⟩)
    unfold fin
    rw [ht2]
    cases hw : R.wish with
    | some ko =>
      obtain ⟨k, o⟩ := ko
      obtain ⟨a1, a2⟩ := i5 k o hw
      exact ti_wish i1 ht2 hk2 a1 a2 t2.failed
    | none => exact ti_wish i1 ht2 hk2 (by unfold I64; omega) (by unfold I64; omega) true
  · intro i hi
    by_cases e : i = y
    · subst e
      simp only [fset, if_true]
      omega
    · simp only [fset, e, if_false]
      exact h.la i hi
  · have g : (fun i => (ls i).length - fset s.at_ y R.at_ i) = fset (fun i => (ls i).length - s.at_ i) y ((ls y).length - R.at_) := by
      funext i
      by_cases e : i = y
      · subst e; simp [fset]
      · simp [fset, e]
    dsimp only
    rw [g]
    have := sumTo_down (f := fun i => (ls i).length - s.at_ i) (v := (ls y).length - R.at_) n hxn (by omega)
    omega
/-- A pick where nobody may go. -/
theorem am_none (h : Am w W b rv m ps xb dv tv M q lv ls n tot s) (hn : n ≤ 64) (hst : s.st < 3000000) {j : Nat} (hp : mpick ls s j = none) (i : Int) :
    nums (mayB s.H s.st) 0 s.ts = [] ∧ Calls Try.prog 16 #[ptr b, .int .i64 i] W fun e w' => e = .returned (.tuple #[.int .i64 0, .int .i64 8]) ∧ Below W.heap.size W w' := by
  have hL := mpick_none (fun x hx => by
    obtain ⟨i, t', hi0, ht', hq⟩ := nums_iff.1 hx
    have := (List.getElem?_eq_some_iff.1 ht').1
    omega) hp
  exact ⟨hL, pick_none h.ps.sc (by rw [h.ps.lps]; exact hn) (by omega) h.okl (.inr hL) i⟩
end
end Go.Proofs.Ytkdjahgndkdnhaa
