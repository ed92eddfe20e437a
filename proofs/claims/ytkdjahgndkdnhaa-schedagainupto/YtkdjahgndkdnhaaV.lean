import Derived.Test.YtkdjahgndkdnhaaS
namespace Go.Proofs.Ytkdjahgndkdnhaa
open Go.RowKit Go.Maps Go.Shelf
set_option linter.unusedVariables false
set_option linter.unusedSimpArgs false
/-- What is left to do of a task. -/
def remT (t : Tk) (rest : List (Int × Int)) : Nat := if t.kind = 4 then 0 else rest.length + 1
/-- The tasks of SchedOrder, between two steps. -/
structure Ord (w W : World) (b : Nat) (rv : Value) (m : Nat) (ps : List Nat) (ts : List Tk) (H : Int → Option Int) (st xb : Nat) (dv tv : Value) (T : List Int) (M : Nat) (q : Nat → Nat) (lv : Nat → Value) (ls : Nat → List (Int × Int)) (at_ : Nat → Nat) (n : Nat) (hold : Nat → List Nat) (total : Nat) : Prop where
  ps : Ps w W b rv m ps ts H st st xb dv tv T M q lv ls at_ n
  tk : ∀ i t, ts[i]? = some t → TkI t (clo (q i)) (hold i) ((ls i).drop (at_ i))
  ok : ∀ t ∈ ts, TkOk st t
  hi : HI n H hold
  zero : ∀ x ∈ T, x = 0
  tl : T.length ≤ st
  la : ∀ i, i < n → at_ i ≤ (ls i).length
  sum : st + sumTo (fun i => remT (ts.getD i ⟨tName, .nilFunc, 4, 0, 0, false⟩) ((ls i).drop (at_ i))) n ≤ total
theorem getD_some {ts : List Tk} {i : Nat} {t d : Tk} (h : ts[i]? = some t) : ts.getD i d = t := by rw [List.getD_eq_getElem?_getD, h]; rfl
section
variable {w W : World} {b : Nat} {rv : Value} {m : Nat} {ps : List Nat} {ts : List Tk} {H : Int → Option Int} {st xb : Nat} {dv tv : Value} {T : List Int} {M : Nat} {q : Nat → Nat} {lv : Nat → Value} {ls : Nat → List (Int × Int)} {at_ : Nat → Nat} {n : Nat} {hold : Nat → List Nat} {total : Nat}
theorem Ord.len (h : Ord w W b rv m ps ts H st xb dv tv T M q lv ls at_ n hold total) : ts.length = n := by rw [h.ps.sc.len, h.ps.lps]
/-- Some task may go, where one is alive. -/
theorem Ord.may (h : Ord w W b rv m ps ts H st xb dv tv T M q lv ls at_ n hold total) (ha : nums aliveB 0 ts ≠ []) : nums (mayB H st) 0 ts ≠ [] := by
  obtain ⟨x, hx⟩ := List.exists_mem_of_ne_nil _ ha
  obtain ⟨i, t, _, ht, hq⟩ := nums_iff.1 hx
  have hl := h.len
  have hi : i < n := by rw [← hl]; exact (List.getElem?_eq_some_iff.1 ht).1
  have hg : ∀ i, i < n → ts[i]? = some (ts.getD i ⟨tName, .nilFunc, 4, 0, 0, false⟩) := fun i hi => by
    rw [List.getD_eq_getElem?_getD, List.getElem?_eq_getElem (by omega)]; rfl
  obtain ⟨j, hj, hm⟩ := never_dead (ts := fun i => ts.getD i ⟨tName, .nilFunc, 4, 0, 0, false⟩) (q := fun i => clo (q i)) (hold := hold) (rest := fun i => (ls i).drop (at_ i)) (st := st) (fun i hi => h.tk i _ (hg i hi)) h.hi hi (by
    rw [getD_some ht]
    unfold aliveB at hq
    simpa using hq)
  intro e
  have : j ∈ nums (mayB H st) 0 ts := nums_iff.2 ⟨j, _, by omega, hg j hj, hm⟩
  rw [e] at this
  simp at this
theorem Ord.dead (h : Ord w W b rv m ps ts H st xb dv tv T M q lv ls at_ n hold total) (ha : nums aliveB 0 ts ≠ []) : deadL H st ts = [] := by
  obtain ⟨x, hx⟩ := List.exists_mem_of_ne_nil _ (h.may ha)
  obtain ⟨i, t, _, ht, hq⟩ := nums_iff.1 hx
  unfold deadL
  rw [if_pos (List.any_eq_true.2 ⟨t, List.mem_of_getElem? ht, by unfold stirs; rw [hq]; simp⟩)]
theorem Ord.count (h : Ord w W b rv m ps ts H st xb dv tv T M q lv ls at_ n hold total) (ha : nums aliveB 0 ts ≠ []) : st < total := by
  obtain ⟨x, hx⟩ := List.exists_mem_of_ne_nil _ ha
  obtain ⟨i, t, _, ht, hq⟩ := nums_iff.1 hx
  have hl := h.len
  have hi : i < n := by rw [← hl]; exact (List.getElem?_eq_some_iff.1 ht).1
  have := sumTo_pos (f := fun i => remT (ts.getD i ⟨tName, .nilFunc, 4, 0, 0, false⟩) ((ls i).drop (at_ i))) (i := i) n hi (by
    rw [getD_some ht]
    unfold remT
    unfold aliveB at hq
    rw [if_neg (by simpa using hq)]
    omega)
  have := h.sum
  omega
theorem ord_pick (h : Ord w W b rv m ps ts H st xb dv tv T M q lv ls at_ n hold total) (hn : n ≤ 64) (htot : total ≤ 10000) (ha : nums aliveB 0 ts ≠ []) {j : Nat} (hj : j ≤ 9223372036854775807) (hll : ∀ i, i < n → (ls i).length ≤ 1000) (hact : ∀ i, i < n → ∀ y ∈ ls i, y.1 ≤ 0 ∧ -100 ≤ y.1 ∧ I64 y.2) :
    Calls Try.prog 16 #[ptr b, .int .i64 j] W fun e w' => ∃ x : Nat, e = .returned (.tuple #[.int .i64 x, .int .i64 0]) ∧ ∃ ts' H' tv' T' at' hold', Ord w w' b rv m ps ts' H' (st + 1) xb dv tv' T' M q lv ls at' n hold' total := by
  have hm := h.may ha
  have hs := h.count ha
  obtain ⟨L, hL⟩ : ∃ L, nums (mayB H st) 0 ts = L := ⟨_, rfl⟩
  rw [hL] at hm
  have hLp : 0 < L.length := List.length_pos_iff.2 hm
  obtain ⟨x, hx⟩ : ∃ x, L[j % L.length]? = some x := ⟨_, List.getElem?_eq_getElem (Nat.mod_lt _ hLp)⟩
  have hxm : x ∈ nums (mayB H st) 0 ts := by rw [hL]; exact List.mem_of_getElem? hx
  obtain ⟨i, t, hi0, ht, hq⟩ := nums_iff.1 hxm
  obtain rfl : x = i := by omega
  have hl := h.len
  have hxn : x < n := by rw [← hl]; exact (List.getElem?_eq_some_iff.1 ht).1
  have tk := h.tk x t ht
  obtain ⟨hstep, hold', used, LF⟩ := tk_step (T := T) (k0 := at_ x) (st := st + 1) hxn tk h.hi hq
  obtain ⟨R, hR⟩ : ∃ R, stepR x ((ls x).drop (at_ x)) (lockd H t x) T (at_ x) = R := ⟨_, rfl⟩
  rw [hR] at LF
  have htl := h.tl
  have hlx := hll x hxn
  refine (ps_pick h.ps (by unfold maxLen; omega) hn (by omega) h.ok hL hj hx ht hstep tk.ff (h.la x hxn) hlx (by omega) (hact x hxn) hR).mono ?_
  rintro e w' ⟨rfl, tv', P⟩
  have hxl : x < ts.length := by omega
  have hus := LF.us
  rw [List.length_drop] at hus
  have hlax := h.la x hxn
  refine ⟨x, rfl, _, _, tv', _, _, fset hold x hold', P, ?_, ?_, LF.hi, ?_, ?_, ?_, ?_⟩
  · intro i y hy
    by_cases e : i = x
    · subst e
      rw [List.getElem?_set] at hy
      simp [hxl] at hy
      subst hy
      have e1 : fset hold i hold' i = hold' := by simp [fset]
      have e2 : fset at_ i R.2.2.2 i = at_ i + used := by simp [fset, LF.at_]
      rw [e1, e2, ← List.drop_drop]
      exact LF.tk
    · rw [List.getElem?_set_ne (fun h => e h.symm)] at hy
      have e1 : fset hold x hold' i = hold i := by simp [fset, e]
      have e2 : fset at_ x R.2.2.2 i = at_ i := by simp [fset, e]
      rw [e1, e2]
      exact h.tk i y hy
  · intro y hy
    rcases List.mem_or_eq_of_mem_set hy with hy | rfl
    · have := h.ok y hy
      exact ⟨this.k64, this.o64, this.s0, by have := this.s1; omega⟩
    · have ho := LF.o64
      refine ⟨?_, ?_, ?_, ?_⟩
      · unfold Tk.wished plainK I64; dsimp only; split <;> omega
      · unfold Tk.wished plainO; dsimp only; split
        · unfold I64; omega
        · exact ho
      · unfold Tk.wished; dsimp only; omega
      · unfold Tk.wished; dsimp only; omega
  · intro y hy
    rcases LF.told with e | e
    · rw [e] at hy; exact h.zero y hy
    · rw [e] at hy
      rcases List.mem_append.1 hy with hy | hy
      · exact h.zero y hy
      · simpa using hy
  · rcases LF.told with e | e
    · rw [e]; omega
    · rw [e]; simp; omega
  · intro i hi
    by_cases e : i = x
    · subst e
      simp only [fset, if_true, LF.at_]
      omega
    · simp only [fset, e, if_false]
      exact h.la i hi
  · have hsum := h.sum
    obtain ⟨f, hf⟩ : ∃ f : Nat → Nat, f = fun i => remT (ts.getD i ⟨tName, .nilFunc, 4, 0, 0, false⟩) ((ls i).drop (at_ i)) := ⟨_, rfl⟩
    rw [← hf] at hsum
    have fx : f x = ((ls x).drop (at_ x)).length + 1 := by
      rw [hf]
      dsimp only
      rw [getD_some ht]
      unfold remT
      rw [if_neg]
      intro e
      unfold mayB at hq
      rw [e] at hq
      simp at hq
    have g : (fun i => remT ((ts.set x (t.goes.wished R.1.1 R.1.2 (st + 1))).getD i ⟨tName, .nilFunc, 4, 0, 0, false⟩) ((ls i).drop (fset at_ x R.2.2.2 i))) = fset f x (remT (t.goes.wished R.1.1 R.1.2 (st + 1)) ((ls x).drop (at_ x + used))) := by
      funext i
      by_cases e : i = x
      · subst e
        rw [getD_some (t := t.goes.wished R.1.1 R.1.2 (st + 1)) (by rw [List.getElem?_set]; simp [hxl])]
        simp only [fset, if_true, LF.at_]
      · rw [hf]
        simp only [fset, e, if_false]
        rw [List.getD_eq_getElem?_getD, List.getElem?_set_ne (fun h => e h.symm), ← List.getD_eq_getElem?_getD]
    rw [g]
    have hv : remT (t.goes.wished R.1.1 R.1.2 (st + 1)) ((ls x).drop (at_ x + used)) + 1 ≤ f x := by
      rw [fx]
      unfold remT
      split
      · simp
      · rename_i hk4
        rcases LF.go with e | e
        · exfalso
          apply hk4
          unfold Tk.wished plainK
          dsimp only
          rw [e]
          decide
        · rw [List.length_drop, List.length_drop]
          omega
    have := sumTo_fset (f := f) n hxn hv
    omega
end
end Go.Proofs.Ytkdjahgndkdnhaa
