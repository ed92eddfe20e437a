/-
  What is told in the end: the least that holds what was told and whatever lies over one that is told.
-/
import Derived.Test.YtkmpcheamdadcaaXb
namespace Go.Proofs.Ytkmpcheamdadcaa
set_option linter.unusedVariables false
set_option linter.unusedSimpArgs false
/-- A table i lies over a table j. -/
def ovr (how : Int) (l : List Fi) (j i : Nat) : Bool := rchB how (l.getD i default) (l.getD j default).sm.u (l.getD j default).la.u
structure Least (how : Int) (l : List Fi) (T R : List Bool) : Prop where
  len : R.length = T.length
  more : ∀ i, T.getD i false = true → R.getD i false = true
  clo : ∀ j i, i < l.length → R.getD j false = true → ovr how l j i = true → R.getD i false = true
  min : ∀ S : Nat → Prop, (∀ i, T.getD i false = true → S i) → (∀ j i, i < l.length → S j → ovr how l j i = true → S i) → ∀ i, R.getD i false = true → S i
theorem Least.uniq {how : Int} {l : List Fi} {T R R' : List Bool} (h : Least how l T R) (h' : Least how l T R') : R = R' := by
  apply List.ext_getElem?
  intro i
  have a1 : R.getD i false = R'.getD i false := by
    apply Bool.eq_iff_iff.2
    exact ⟨fun e => h.min (fun i => R'.getD i false = true) h'.more (fun j i hi a b => h'.clo j i hi a b) i e, fun e => h'.min (fun i => R.getD i false = true) h.more (fun j i hi a b => h.clo j i hi a b) i e⟩
  rcases Nat.lt_or_ge i T.length with hl | hl
  · rw [List.getElem?_eq_getElem (by rw [h.len]; exact hl), List.getElem?_eq_getElem (by rw [h'.len]; exact hl)]
    simp only [List.getD_eq_getElem?_getD] at a1
    rw [List.getElem?_eq_getElem (by rw [h.len]; exact hl), List.getElem?_eq_getElem (by rw [h'.len]; exact hl)] at a1
    simpa using a1
  · rw [List.getElem?_eq_none (by rw [h.len]; exact hl), List.getElem?_eq_none (by rw [h'.len]; exact hl)]
/-- The queue's own relation: what is told is the queue, what is left is not told, what has been held is closed. -/
structure Go1 (how : Int) (l : List Fi) (T0 : List Bool) (W L : List Nat) (T : List Bool) : Prop where
  len : T.length = l.length
  len0 : T0.length = l.length
  nd : L.Nodup
  mw : ∀ i ∈ W, T.getD i false = true
  ml : ∀ i, i < l.length → (i ∈ L ↔ T.getD i false = false)
  mlt : ∀ i ∈ L, i < l.length
  more : ∀ i, T0.getD i false = true → T.getD i false = true
  done : ∀ j i, i < l.length → T.getD j false = true → j ∉ W → ovr how l j i = true → T.getD i false = true
  min : ∀ S : Nat → Prop, (∀ i, T0.getD i false = true → S i) → (∀ j i, i < l.length → S j → ovr how l j i = true → S i) → ∀ i, T.getD i false = true → S i
theorem getD_set (T : List Bool) (i j : Nat) (hi : i < T.length) : (T.set i true).getD j false = if i = j then true else T.getD j false := by
  simp only [List.getD_eq_getElem?_getD, List.getElem?_set]
  by_cases h : i = j
  · subst h; simp [hi]
  · simp [h]
/-- While one (x) is held: A are those that were sifted, B those to come. -/
structure Go2 (how : Int) (l : List Fi) (T0 : List Bool) (x : Nat) (B : List Nat) (s : St) : Prop where
  len : s.2.2.length = l.length
  len0 : T0.length = l.length
  nd1 : s.2.1.Nodup
  x1 : s.2.2.getD x false = true
  mw : ∀ i ∈ s.1, s.2.2.getD i false = true
  ml : ∀ i, i < l.length → (i ∈ s.2.1 ∨ i ∈ B ↔ s.2.2.getD i false = false)
  mb : ∀ i ∈ B, i < l.length
  nd : B.Nodup
  nb : ∀ i ∈ s.2.1, i ∉ B
  hx : ∀ i ∈ s.2.1, ovr how l x i = false
  more : ∀ i, T0.getD i false = true → s.2.2.getD i false = true
  done : ∀ j i, i < l.length → s.2.2.getD j false = true → j ∉ s.1 → j ≠ x → ovr how l j i = true → s.2.2.getD i false = true
  min : ∀ S : Nat → Prop, (∀ i, T0.getD i false = true → S i) → (∀ j i, i < l.length → S j → ovr how l j i = true → S i) → ∀ i, s.2.2.getD i false = true → S i
theorem Go2.step {how : Int} {l : List Fi} {T0 : List Bool} {x y : Nat} {B : List Nat} {s : St} (h : Go2 how l T0 x (y :: B) s) : Go2 how l T0 x B (stp how l (l.getD x default) s y) := by
  have hy := h.mb y (List.mem_cons_self ..)
  have hny := List.nodup_cons.1 h.nd
  have hyF : s.2.2.getD y false = false := (h.ml y hy).1 (.inr (List.mem_cons_self ..))
  have hxy : x ≠ y := fun e => by have := h.x1; rw [e, hyF] at this; cases this
  unfold stp
  cases hr : rchB how (l.getD y default) (l.getD x default).sm.u (l.getD x default).la.u
  · simp only [Bool.false_eq_true, if_false]
    have ND : (s.2.1 ++ [y]).Nodup := by
      rw [List.nodup_append]
      refine ⟨h.nd1, by simp, fun a ha b hb e => ?_⟩
      simp at hb; subst hb; subst e
      exact h.nb a ha (List.mem_cons_self ..)
    refine ⟨h.len, h.len0, ND, h.x1, h.mw, fun i hi => ?_, fun i hi => h.mb i (List.mem_cons_of_mem _ hi), hny.2, ?_, ?_, h.more, h.done, h.min⟩
    · rw [← h.ml i hi]; simp; constructor
      · rintro ((a | a) | a)
        · exact .inl a
        · exact .inr (.inl a)
        · exact .inr (.inr a)
      · rintro (a | a | a)
        · exact .inl (.inl a)
        · exact .inl (.inr a)
        · exact .inr a
    · intro i hi
      rcases List.mem_append.1 hi with a | a
      · exact fun b => h.nb i a (List.mem_cons_of_mem _ b)
      · simp at a; subst a; exact hny.1
    · intro i hi
      rcases List.mem_append.1 hi with a | a
      · exact h.hx i a
      · simp at a; subst a; exact hr
  · simp only [if_true]
    have hg := fun j => getD_set s.2.2 y j (by rw [h.len]; exact hy)
    have X1 : (s.2.2.set y true).getD x false = true := by
      rw [hg, if_neg (Ne.symm hxy)]; exact h.x1
    refine ⟨by simp [h.len], h.len0, h.nd1, X1, fun i hi => ?_, fun i hi => ?_, fun i hi => h.mb i (List.mem_cons_of_mem _ hi), hny.2, fun i hi b => h.nb i hi (List.mem_cons_of_mem _ b), h.hx, fun i hi => ?_, fun j i hi hj hn hnx ho => ?_, fun S h1 h2 i hi => ?_⟩
    · show (s.2.2.set y true).getD i false = true
      rw [hg]
      split
      · rfl
      · next hne =>
        rcases List.mem_append.1 hi with a | a
        · exact h.mw i a
        · simp at a; exact absurd a.symm hne
    · show i ∈ s.2.1 ∨ i ∈ B ↔ (s.2.2.set y true).getD i false = false
      rw [hg]
      by_cases e : y = i
      · subst e
        simp only [if_true]
        refine ⟨fun a => ?_, fun a => by cases a⟩
        rcases a with a | a
        · exact absurd (List.mem_cons_self ..) (h.nb y a)
        · exact absurd a hny.1
      · rw [if_neg e, ← h.ml i hi]
        simp [Ne.symm e]
    · show (s.2.2.set y true).getD i false = true
      rw [hg]; split
      · rfl
      · exact h.more i hi
    · replace hj : (s.2.2.set y true).getD j false = true := hj
      show (s.2.2.set y true).getD i false = true
      rw [hg] at hj ⊢
      split
      · rfl
      · by_cases e : y = j
        · exact absurd (by simp [e]) hn
        · rw [if_neg e] at hj
          exact h.done j i hi hj (fun a => hn (by simp [a])) hnx ho
    · replace hi : (s.2.2.set y true).getD i false = true := hi
      rw [hg] at hi
      by_cases e : y = i
      · subst e
        exact h2 x y hy (h.min S h1 h2 x h.x1) hr
      · rw [if_neg e] at hi
        exact h.min S h1 h2 i hi
theorem Go2.all {how : Int} {l : List Fi} {T0 : List Bool} {x : Nat} : ∀ (B : List Nat) (s : St), Go2 how l T0 x B s → Go2 how l T0 x [] (B.foldl (stp how l (l.getD x default)) s)
  | [], s, h => h
  | y :: B, s, h => Go2.all B _ h.step
theorem Go1.start {how : Int} {l : List Fi} {T0 : List Bool} {x : Nat} {W L : List Nat} {T : List Bool} (h : Go1 how l T0 (x :: W) L T) : Go2 how l T0 x L (W, [], T) :=
  ⟨h.len, h.len0, List.nodup_nil, h.mw x (List.mem_cons_self ..), fun i hi => h.mw i (List.mem_cons_of_mem _ hi), fun i hi => by rw [← h.ml i hi]; simp, fun i hi => h.mlt i hi, h.nd, fun i hi => by simp at hi, fun i hi => by simp at hi, h.more, fun j i hi hj hn hx ho => h.done j i hi hj (fun hh => (List.mem_cons.1 hh).elim hx hn) ho, h.min⟩
theorem Go2.finish {how : Int} {l : List Fi} {T0 : List Bool} {x : Nat} {s : St} (h : Go2 how l T0 x [] s) (hm : ∀ i ∈ s.2.1, i < l.length) : Go1 how l T0 s.1 s.2.1 s.2.2 := by
  refine ⟨h.len, h.len0, h.nd1, h.mw, fun i hi => by rw [← h.ml i hi]; simp, hm, h.more, fun j i hi hj hn ho => ?_, h.min⟩
  by_cases e : j = x
  · subst e
    cases ht : s.2.2.getD i false
    · rcases (h.ml i hi).2 ht with a | a
      · have := h.hx i a
        rw [ho] at this; cases this
      · cases a
    · rfl
  · exact h.done j i hi hj hn e ho
theorem spr_least (how : Int) (l : List Fi) (T0 : List Bool) : ∀ (q : Nat) (W L : List Nat) (T : List Bool), W.length + L.length ≤ q → Go1 how l T0 W L T → Least how l T0 (spr how l q W L T)
  | q, [], L, T, _, h => by
    have e : spr how l q [] L T = T := by cases q <;> rfl
    rw [e]
    exact ⟨by rw [h.len, h.len0], h.more, fun j i hi hj ho => h.done j i hi hj (by simp) ho, h.min⟩
  | 0, x :: W, L, T, hq, h => by simp at hq
  | q + 1, x :: W, L, T, hq, h => by
    have hs := stp_len how l (l.getD x default) L (W, [], T)
    have hm := stp_mem how l (l.getD x default) (fun i => True ∧ i < l.length) L (W, [], T) (fun i hi => ⟨trivial, h.mlt i hi⟩)
    simp only [List.length_cons, List.length_nil, Nat.add_zero] at hq hs
    have h2 := Go2.all L _ h.start
    have hmem : ∀ i ∈ (L.foldl (stp how l (l.getD x default)) (W, [], T)).2.1, i < l.length := by
      have : ∀ (L : List Nat) (s : St), (∀ i ∈ L, i < l.length) → (∀ i ∈ s.2.1, i < l.length) → ∀ i ∈ (L.foldl (stp how l (l.getD x default)) s).2.1, i < l.length := by
        intro L
        induction L with
        | nil => intro s _ h; exact h
        | cons y L ih =>
          intro s h1 h2
          refine ih _ (fun i hi => h1 i (List.mem_cons_of_mem _ hi)) ?_
          unfold stp
          split
          · exact h2
          · intro i hi
            rcases List.mem_append.1 hi with a | a
            · exact h2 i a
            · simp at a; subst a; exact h1 i (List.mem_cons_self ..)
      exact this L _ h.mlt (fun i hi => by simp at hi)
    simp only [spr]
    exact spr_least how l T0 q _ _ _ (by unfold hold1; omega) (h2.finish hmem)
theorem sprT_least (how : Int) (l : List Fi) (T : List Bool) (hT : T.length = l.length) : Least how l T (spr how l l.length ((List.range l.length).filter fun i => T.getD i false) ((List.range l.length).filter fun i => !T.getD i false) T) := by
  refine spr_least how l T _ _ _ _ (by rw [flt_two]; exact Nat.le_refl _) ⟨hT, hT, (List.nodup_range.sublist List.filter_sublist), fun i hi => by simpa using (List.mem_filter.1 hi).2, fun i hi => by simp [hi], fun i hi => by simpa using (List.mem_filter.1 hi).1, fun i h => h, fun j i hi hj hn ho => ?_, fun S h1 _ i hi => h1 i hi⟩
  exfalso
  apply hn
  rw [List.mem_filter]
  refine ⟨?_, hj⟩
  simp only [List.mem_range]
  rcases Nat.lt_or_ge j l.length with h | h
  · exact h
  · rw [List.getD_eq_getElem?_getD, List.getElem?_eq_none (by omega)] at hj; cases hj
end Go.Proofs.Ytkmpcheamdadcaa
