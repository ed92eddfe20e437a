/-
  A region whose order is drawn, by one relation that each of its operations keeps: a goal an operation, not a goal an order.
-/
import Derived.Test.YtkmpcheamdadcaaVd
import Derived.Deep.RegionHeldLaw
namespace Go.Proofs.Ytkmpcheamdadcaa
open Go.RowKit
set_option linter.unusedVariables false
set_option linter.unusedSimpArgs false
section
variable {P : Program} {ops : Array Oper} {Q : Exit → Act → World → Prop} {md : Region.Mode}
/-- No operation waits for one behind it. -/
def ordOps (md : Region.Mode) (ops : Array Oper) : Bool := (List.range ops.size).all fun i => ((ops[i]?).map (·.after.all fun e => !Region.binds md e || decide (e.on < i))).getD true
theorem ordOps_on (h : ordOps md ops = true) {i : Nat} {o : Oper} (hi : ops[i]? = some o) : ∀ e ∈ o.after, Region.binds md e = true → e.on < i := by
  unfold ordOps at h
  rw [List.all_eq_true] at h
  have hs : i < ops.size := (Array.getElem?_eq_some_iff.1 hi).1
  have := h i (List.mem_range.2 hs)
  rw [hi] at this
  simp only [Option.map_some, Option.getD_some, Array.all_eq_true', Bool.or_eq_true, Bool.not_eq_true', decide_eq_true_eq] at this
  intro e he hb
  rcases this e he with h | h
  · rw [hb] at h; cases h
  · exact h
theorem ready_all (h : ordOps md ops = true) {l : Array Bool} (hl : l.size = ops.size) (hr : Region.ready md ops l = []) : ∀ i, i < ops.size → l.getD i false = true := by
  intro i
  induction i using Nat.strongRecOn with
  | _ i ih =>
    intro hi
    cases hd : l.getD i false with
    | true => rfl
    | false =>
      exfalso
      obtain ⟨o, ho⟩ : ∃ o, ops[i]? = some o := ⟨ops[i], by simp [hi]⟩
      have : i ∈ Region.ready md ops l := mem_ready.2 ⟨by
        have : i < l.size := by omega
        simp [Array.getD, this] at hd ⊢
        exact hd, o, ho, fun e he hb => ih e.on (ordOps_on h ho e he hb) (by have := ordOps_on h ho e he hb; omega)⟩
      rw [hr] at this
      cases this
/-- One operation keeps the relation. -/
def KeepsI (P : Program) (ops : Array Oper) (Q : Exit → Act → World → Prop) (I : (Nat → Bool) → Act → World → Prop) (i : Nat) (o : Oper) : Prop :=
  ∀ (d : Nat → Bool) (a : Act) (w : World), d i = false → (o.after.all fun e => !Region.binds .any e || d e.on) = true → I d a w →
    ∀ K : Act → World → Prop, Hid (∀ a' w', I (fun j => if j = i then true else d j) a' w' → K a' w') → if Region.wanted o (yielded ops a.tmps) = true then Oper.wp P o a w K Q else K (a.put o.dst undef) w
def AllI (P : Program) (ops : Array Oper) (Q : Exit → Act → World → Prop) (I : (Nat → Bool) → Act → World → Prop) : Nat → List Oper → Prop
  | _, [] => True
  | i, o :: r => KeepsI P ops Q I i o ∧ AllI P ops Q I (i + 1) r
theorem AllI.at {I : (Nat → Bool) → Act → World → Prop} : ∀ {l : List Oper} {n : Nat}, AllI P ops Q I n l → ∀ {j : Nat} {o : Oper}, l[j]? = some o → KeepsI P ops Q I (n + j) o
  | [], _, _, j, o, hj => by simp at hj
  | x :: l, n, h, 0, o, hj => by simp at hj; subst hj; exact h.1
  | x :: l, n, h, j + 1, o, hj => by
    have := AllI.at h.2 (j := j) (o := o) (by simpa using hj)
    rw [show n + (j + 1) = n + 1 + j by omega]
    exact this
def left (l : Array Bool) : Nat := l.toList.countP (!·)
theorem left_set {l : Array Bool} {i : Nat} (hi : i < l.size) (h : l.getD i true = false) : left (l.setIfInBounds i true) + 1 = left l := by
  unfold left
  rw [Array.toList_setIfInBounds]
  obtain ⟨l⟩ := l
  simp [Array.getD] at hi h ⊢
  have h2 : l[i] = false := by simpa [hi] using h
  clear h
  induction l generalizing i with
  | nil => simp at hi
  | cons x l ih =>
    cases i with
    | zero => simp at h2; subst h2; simp
    | succ i =>
      simp at hi h2 ⊢
      have := ih hi h2
      rw [List.countP_cons, List.countP_cons]
      omega
theorem wpAny_inv {I : (Nat → Bool) → Act → World → Prop} (hord : ordOps .any ops = true) (hops : AllI P ops Q I 0 ops.toList)
    (hend : ∀ d a w, (∀ i, i < ops.size → d i = true) → I d a w → Q .normal a w) :
    ∀ (fuel : Nat) (l : Array Bool) (a : Act) (w : World), l.size = ops.size → left l ≤ fuel → I (fun j => l.getD j false) a w → wpAny P .any ops Q fuel l a w := by
  have H2 : ∀ (l : Array Bool) (a : Act) (w : World), l.size = ops.size → Region.ready .any ops l = [] → I (fun j => l.getD j false) a w → Q .normal a w :=
    fun l a w hl hr hI => hend _ a w (fun i hi => ready_all hord hl hr i hi) hI
  intro fuel
  induction fuel with
  | zero =>
    intro l a w hl h0 hI
    have hr : Region.ready .any ops l = [] := by
      cases hre : Region.ready .any ops l with
      | nil => rfl
      | cons i r =>
        exfalso
        have hi : i ∈ Region.ready .any ops l := by rw [hre]; simp
        obtain ⟨h1, o, ho, _⟩ := mem_ready.1 hi
        have hs : i < ops.size := (Array.getElem?_eq_some_iff.1 ho).1
        have := left_set (by omega) h1
        omega
    exact ⟨hr, H2 l a w hl hr hI⟩
  | succ fuel ih =>
    intro l a w hl h0 hI
    refine ⟨fun hr => H2 l a w hl hr hI, fun i hi => ?_⟩
    obtain ⟨h1, o, ho, h2⟩ := mem_ready.1 hi
    have hs : i < ops.size := (Array.getElem?_eq_some_iff.1 ho).1
    have hk := AllI.at hops (j := i) (o := o) (by simpa using ho)
    rw [Nat.zero_add] at hk
    refine wpOp_step ho (fun K hK => ?_)
    refine hk _ a w ?_ ?_ hI K (fun a' w' hI' => hK a' w' (ih _ a' w' (by simpa using hl) ?_ ?_))
    · have : i < l.size := by omega
      simpa [Array.getD, this] using h1
    · rw [Array.all_eq_true']
      intro e he
      cases hb : Region.binds .any e
      · rfl
      · simp only [Bool.not_true, Bool.false_or]
        exact h2 e he hb
    · have := left_set (l := l) (i := i) (by omega) h1
      omega
    · refine cast (congrArg (fun f => I f a' w') ?_) hI'
      funext j
      by_cases hj : j = i
      · subst hj
        have : j < l.size := by omega
        simp [Array.getD, this]
      · rw [if_neg hj]
        simp only [Array.getD, Array.size_setIfInBounds]
        by_cases hjl : j < l.size
        · rw [dif_pos hjl, dif_pos hjl]
          show l[j] = (l.setIfInBounds i true)[j]'(by simpa using hjl)
          rw [Array.getElem_setIfInBounds_ne _ (Ne.symm hj)]
        · rw [dif_neg hjl, dif_neg hjl]
/-- **A region whose order is drawn, by one relation.** -/
theorem wp_region_inv {id : Nat} {a : Act} {w : World} (I : (Nat → Bool) → Act → World → Prop) (hm : P.follows .mixedOrders = true) (hord : ordOps .any ops = true)
    (h0 : I (fun _ => false) a w.drew) (hops : AllI P ops Q I 0 ops.toList)
    (hend : ∀ d a w, (∀ i, i < ops.size → d i = true) → I d a w → Q .normal a w) : (Code.region id ops true).wp P Q a w := by
  refine wp_region_any hm (wpAny_inv hord hops hend _ _ _ _ (by simp) ?_ ?_)
  · unfold left
    exact Nat.le_trans (List.countP_le_length) (by simp)
  · refine cast (congrArg (fun f => I f a w.drew) ?_) h0
    funext j
    simp [Array.getD]
end
end Go.Proofs.Ytkmpcheamdadcaa
