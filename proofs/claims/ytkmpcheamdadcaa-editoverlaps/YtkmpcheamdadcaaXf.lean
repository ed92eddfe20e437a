/-
  What the reference reckons: passes over all, until nothing changes.
-/
import Derived.Test.YtkmpcheamdadcaaXd
import Derived.BigQuiet
namespace Go.Proofs.Ytkmpcheamdadcaa
open Go.RowKit
set_option linter.unusedVariables false
set_option linter.unusedSimpArgs false
/-- Some way to the least set: nothing too much is told. -/
structure Rc (how : Int) (l : List Fi) (S T : List Bool) : Prop where
  len : T.length = S.length
  lenl : S.length = l.length
  more : ∀ i, S.getD i false = true → T.getD i false = true
  min : ∀ P : Nat → Prop, (∀ i, S.getD i false = true → P i) → (∀ j i, i < l.length → P j → ovr how l j i = true → P i) → ∀ i, T.getD i false = true → P i
theorem Rc.start {how : Int} {l : List Fi} {S : List Bool} (h : S.length = l.length) : Rc how l S S := ⟨rfl, h, fun i h => h, fun P h _ i hi => h i hi⟩
theorem Rc.set {how : Int} {l : List Fi} {S T : List Bool} (h : Rc how l S T) {i j : Nat} (hi : i < l.length) (hj : T.getD j false = true) (ho : ovr how l j i = true) : Rc how l S (T.set i true) := by
  have hg := fun k => getD_set T i k (by rw [h.len, h.lenl]; exact hi)
  refine ⟨by simp [h.len], h.lenl, fun k hk => ?_, fun P h1 h2 k hk => ?_⟩
  · rw [hg]; split
    · rfl
    · exact h.more k hk
  · rw [hg] at hk
    by_cases e : i = k
    · subst e; exact h2 j i hi (h.min P h1 h2 j hj) ho
    · rw [if_neg e] at hk; exact h.min P h1 h2 k hk
theorem Rc.least {how : Int} {l : List Fi} {S T : List Bool} (h : Rc how l S T) (hc : ∀ i, i < l.length → T.getD i false = false → ∀ j, j < l.length → T.getD j false = true → ovr how l j i = false) : T = sprT how l S := by
  refine Least.uniq (how := how) (l := l) (T := S) ⟨h.len, h.more, fun j i hi hj ho => ?_, h.min⟩ (sprT_least how l S h.lenl)
  cases ht : T.getD i false
  · have hjl : j < l.length := by
      rcases Nat.lt_or_ge j l.length with h1 | h1
      · exact h1
      · rw [List.getD_eq_getElem?_getD, List.getElem?_eq_none (by rw [h.len, h.lenl]; exact h1)] at hj; cases hj
    rw [hc i hi ht j hjl hj] at ho; cases ho
  · rfl
/-- How many are not told. -/
def cF (T : List Bool) : Nat := T.count false
theorem cF_set : ∀ (T : List Bool) (i : Nat), T[i]? = some false → cF (T.set i true) < cF T
  | [], i, h => by simp at h
  | x :: T, 0, h => by simp at h; subst h; simp [cF]
  | x :: T, i + 1, h => by
    have := cF_set T i (by simpa using h)
    unfold cF at *
    simp only [List.set_cons_succ, List.count_cons]
    omega
def isF : Value → Bool
  | .bool false => true
  | _ => false
def nf (w : World) (b : Nat) : Nat := match w.heap[b]? with
  | some (.cells cur _ _) => (cur.toList.filter isF).length
  | _ => 0
theorem nf_blk {w : World} {b : Nat} {T : List Bool} (h : Blk w b 4 (bls T)) : nf w b = cF T := by
  unfold Blk at h
  unfold nf
  rw [h]
  simp only
  unfold cF
  clear h
  induction T with
  | nil => rfl
  | cons x T ih =>
    have e : bls (x :: T) = Value.bool x :: bls T := rfl
    cases x
    · rw [e, List.filter_cons, if_pos (by simp [isF]), List.length_cons, ih, List.count_cons]; rfl
    · rw [e, List.filter_cons, if_neg (by simp [isF]), ih, List.count_cons]; rfl
def bN : Value → Nat
  | .bool true => 1
  | _ => 0
/-- The marks in memory. -/
structure Cl (w : World) (TB : Nat) (how : Int) (l : List Fi) (S T : List Bool) (wr : World) : Prop where
  told : Blk wr TB 4 (bls T)
  bel : Below w.heap.size w wr
  rc : Rc how l S T
theorem Cl.drew {w : World} {TB : Nat} {how : Int} {l : List Fi} {S T : List Bool} {wr : World} (h : Cl w TB how l S T wr) : Cl w TB how l S T wr.drew := ⟨h.told, h.bel.drew, h.rc⟩
theorem Cl.drewN {w : World} {TB : Nat} {how : Int} {l : List Fi} {S T : List Bool} {wr : World} (h : Cl w TB how l S T wr) (n : Nat) : Cl w TB how l S T (wr.drewN n) := ⟨h.told, ⟨h.bel.os, h.bel.tape, h.bel.output, h.bel.size, h.bel.block⟩, h.rc⟩
theorem Cl.set {w : World} {TB : Nat} {how : Int} {l : List Fi} {S T : List Bool} {wr : World} (h : Cl w TB how l S T wr) (hTB : w.heap.size ≤ TB) {i j : Nat} (hi : i < l.length) (hj : T.getD j false = true) (ho : ovr how l j i = true) : Cl w TB how l S (T.set i true) (wr.setCell ⟨TB, i, none⟩ (.bool true)) := by
  refine ⟨?_, Upd.bel h.bel ((Upd.refl (fun x => x = TB) wr).setCell (p := ⟨TB, i, none⟩) (fun _ => rfl) _) (fun x hx => by subst hx; exact hTB) h.bel.size, h.rc.set hi hj ho⟩
  have := h.told.set i (.bool true)
  rw [bls_set] at this
  exact this
/-- One pass, at i. -/
structure Ps (how : Int) (l : List Fi) (T1 T2 : List Bool) (ag : Bool) (i : Nat) : Prop where
  no : ag = false → T2 = T1 ∧ ∀ i', i' < i → T2.getD i' false = false → ∀ j, j < l.length → T2.getD j false = true → ovr how l j i' = false
  yes : ag = true → cF T2 < cF T1
/-- One pass, at i and j. -/
structure Pj (how : Int) (l : List Fi) (T1 T2 : List Bool) (ag : Bool) (i j : Nat) : Prop where
  ps : Ps how l T1 T2 ag i
  jn : ag = false → T2.getD i false = false → ∀ j', j' < j → T2.getD j' false = true → ovr how l j' i = false
theorem Pj.next {how : Int} {l : List Fi} {T1 T2 : List Bool} {ag : Bool} {i j : Nat} (h : Pj how l T1 T2 ag i j) (hj : T2.getD j false = true → ovr how l j i = false) : Pj how l T1 T2 ag i (j + 1) :=
  ⟨h.ps, fun ha hi j' hj' ht => by
    by_cases e : j' = j
    · subst e; exact hj ht
    · exact h.jn ha hi j' (by omega) ht⟩
theorem Pj.set {how : Int} {l : List Fi} {T1 T2 : List Bool} {ag : Bool} {i j q : Nat} (h : Pj how l T1 T2 ag i j) (hi : T2[i]? = some false) : Pj how l T1 (T2.set i true) true i q := by
  have h1 := cF_set T2 i hi
  refine ⟨⟨(fun h => by cases h), fun _ => ?_⟩, (fun h => by cases h)⟩
  cases ag
  · rw [(h.ps.no rfl).1] at h1 ⊢; exact h1
  · exact Nat.lt_trans h1 (h.ps.yes rfl)
theorem Pj.done {how : Int} {l : List Fi} {T1 T2 : List Bool} {ag : Bool} {i j : Nat} (h : Pj how l T1 T2 ag i j) (hj : T2.getD i false = true ∨ l.length ≤ j) : Ps how l T1 T2 ag (i + 1) := by
  refine ⟨fun ha => ⟨(h.ps.no ha).1, fun i' hi' hf j' hj' ht => ?_⟩, h.ps.yes⟩
  by_cases e : i' = i
  · subst e
    rcases hj with h1 | h1
    · rw [hf] at h1; cases h1
    · exact h.jn ha hf j' (by omega) ht
  · exact (h.ps.no ha).2 i' (by omega) hf j' hj' ht
end Go.Proofs.Ytkmpcheamdadcaa
