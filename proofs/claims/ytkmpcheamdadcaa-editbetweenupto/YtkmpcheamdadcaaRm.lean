/-
  A region whose order is drawn, by one relation over what is done and what its slots hold: a goal an operation.
-/
import Derived.Test.YtkmpcheamdadcaaRl
namespace Go.Proofs.Ytkmpcheamdadcaa
open Go.RowKit
set_option linter.unusedVariables false
set_option linter.unusedSimpArgs false
section
variable {P : Program} {ops : Array Oper} {Q : Exit → Act → World → Prop}
/-- An act whose slots 'ks' hold 'x'. -/
def slots (a : Act) (ks : List Nat) (x : Nat → Value) : Act := { a with tmps := a.tmps.mapIdx fun i v => if ks.contains i then x i else v }
def atk (x : Nat → Value) (d : Nat) (v : Value) : Nat → Value := fun j => if j = d then v else x j
theorem slots_in {a : Act} {ks : List Nat} {x : Nat → Value} {k : Nat} (hk : ks.contains k = true) (hs : k < a.tmps.size) : (slots a ks x).eval (.tmp k) = x k := by
  show (Array.mapIdx _ a.tmps).getD k undef = x k
  rw [Array.getD_eq_getD_getElem?, Array.getElem?_mapIdx, Array.getElem?_eq_getElem hs]
  simp only [Option.map_some, Option.getD_some, hk, if_pos]
theorem slots_out {a : Act} {ks : List Nat} {x : Nat → Value} {k : Nat} (hk : ks.contains k = false) : (slots a ks x).eval (.tmp k) = a.eval (.tmp k) := by
  show (Array.mapIdx _ a.tmps).getD k undef = a.tmps.getD k undef
  rw [Array.getD_eq_getD_getElem?, Array.getD_eq_getD_getElem?, Array.getElem?_mapIdx]
  cases a.tmps[k]? <;> simp only [Option.map_none, Option.map_some, hk, Bool.false_eq_true, if_false]
theorem slots_put {a : Act} {ks : List Nat} {x : Nat → Value} {d : Nat} {v : Value} (hd : ks.contains d = true) : (slots a ks x).put (some d) v = slots a ks (atk x d v) := by
  simp only [Act.put, slots]
  congr 1
  apply Array.ext
  · simp
  · intro i h1 h2
    by_cases h : i = d
    · subst h
      rw [Array.getElem_setIfInBounds_self, Array.getElem_mapIdx]
      rw [if_pos hd]; simp [atk]
    · rw [Array.getElem_setIfInBounds_ne (by simpa using h1) (Ne.symm h), Array.getElem_mapIdx, Array.getElem_mapIdx]
      simp [atk, h]
theorem slots_self {a : Act} {ks : List Nat} : slots a ks (fun k => a.tmps.getD k undef) = a := by
  cases a with
  | mk t df =>
    simp only [slots]
    congr 1
    apply Array.ext
    · simp
    · intro i h1 h2
      rw [Array.getElem_mapIdx]
      simp [Array.getD, h2]
theorem slots_foldl {x : Nat → Value} : ∀ {ks : List Nat} {a : Act}, slots a ks x = ks.foldl (fun b k => b.put (some k) (x k)) a
  | [], a => by
    cases a
    simp only [slots, List.foldl_nil]
    congr 1
    apply Array.ext
    · simp
    · intro i h1 h2
      rw [Array.getElem_mapIdx]
      simp
  | k :: ks, a => by
    rw [List.foldl_cons, ← slots_foldl (ks := ks)]
    simp only [slots, Act.put]
    congr 1
    apply Array.ext
    · simp
    · intro i h1 h2
      rw [Array.getElem_mapIdx, Array.getElem_mapIdx]
      by_cases h : i = k
      · subst h
        rw [Array.getElem_setIfInBounds_self]
        simp
      · rw [Array.getElem_setIfInBounds_ne (by simpa using h1) (Ne.symm h)]
        simp [h]
/-- One operation keeps the relation. -/
def KeepsJ (P : Program) (ops : Array Oper) (Q : Exit → Act → World → Prop) (a : Act) (ks : List Nat) (J : (Nat → Bool) → (Nat → Value) → World → Prop) (i : Nat) (o : Oper) : Prop :=
  ∀ (d : Nat → Bool) (x : Nat → Value) (w : World), d i = false → (o.after.all fun e => !Region.binds .any e || d e.on) = true → J d x w →
    ∀ K : Act → World → Prop, Hid (∀ x' w', J (fun j => if j = i then true else d j) x' w' → K (slots a ks x') w') →
      if Region.wanted o (yielded ops (slots a ks x).tmps) = true then Oper.wp P o (slots a ks x) w K Q else K ((slots a ks x).put o.dst undef) w
def AllJ (P : Program) (ops : Array Oper) (Q : Exit → Act → World → Prop) (a : Act) (ks : List Nat) (J : (Nat → Bool) → (Nat → Value) → World → Prop) : Nat → List Oper → Prop
  | _, [] => True
  | i, o :: r => KeepsJ P ops Q a ks J i o ∧ AllJ P ops Q a ks J (i + 1) r
theorem allI_of {a : Act} {ks : List Nat} {J : (Nat → Bool) → (Nat → Value) → World → Prop} : ∀ {l : List Oper} {n : Nat}, AllJ P ops Q a ks J n l → AllI P ops Q (fun d a' w => ∃ x, a' = slots a ks x ∧ J d x w) n l
  | [], _, _ => trivial
  | o :: r, n, h => by
    refine ⟨?_, allI_of h.2⟩
    rintro d a' w hd ho ⟨x, rfl, hJ⟩ K hK
    exact h.1 d x w hd ho hJ K (show Hid _ from fun x' w' h' => hK.out _ _ ⟨x', rfl, h'⟩)
/-- **A region whose order is drawn, by one relation over its slots.** -/
theorem wp_region_slots {id : Nat} {a : Act} {w : World} (ks : List Nat) (J : (Nat → Bool) → (Nat → Value) → World → Prop) (hm : P.follows .mixedOrders = true) (hord : ordOps .any ops = true)
    (h0 : J (fun _ => false) (fun k => a.tmps.getD k undef) w.drew) (hops : AllJ P ops Q a ks J 0 ops.toList)
    (hend : ∀ d x w, (∀ i, i < ops.size → d i = true) → J d x w → Q .normal (ks.foldl (fun b k => b.put (some k) (x k)) a) w) : (Code.region id ops true).wp P Q a w := by
  refine wp_region_inv (fun d a' w => ∃ x, a' = slots a ks x ∧ J d x w) hm hord ⟨_, slots_self.symm, h0⟩ (allI_of hops) ?_
  rintro d a' w' hd ⟨x, rfl, hJ⟩
  rw [slots_foldl]
  exact hend d x w' hd hJ
variable {a : Act} {ks : List Nat} {x : Nat → Value} {w w' : World} {K : Act → World → Prop} {Ex : Prop} {o : Oper}
theorem step_value (hg : o.guard = none) {d : Nat} (hd : o.dst = some d) (hk : ks.contains d = true) {v : Value} (hop : (execOp (slots a ks x).eval o).run P w = .ok (.value v) w')
    (h : K (slots a ks (atk x d v)) w') : if Region.wanted o (yielded ops (slots a ks x).tmps) = true then Oper.wp P o (slots a ks x) w K Q else Ex := by
  rw [if_pos (by simp [Region.wanted, hg])]
  unfold Oper.wp
  rw [hop, Oper.upon_value, hd, slots_put hk]
  exact h
theorem step_skip' (hg : o.guard = none) (hd : o.dst = none) (hop : (execOp (slots a ks x).eval o).run P w = .ok .skip w')
    (h : K (slots a ks x) w') : if Region.wanted o (yielded ops (slots a ks x).tmps) = true then Oper.wp P o (slots a ks x) w K Q else Ex := by
  rw [if_pos (by simp [Region.wanted, hg])]
  unfold Oper.wp
  rw [hop, Oper.upon_skip, hd]
  exact h
theorem step_calls (hg : o.guard = none) {d : Nat} (hd : o.dst = some d) (hk : ks.contains d = true) {f : FuncId} {args : Array Operand} {ts : Array TypeId} (ho : o.op = .call { callee := .value (.func f), args := args, argTypes := ts })
    {vs : Array Value} (hv : args.map (slots a ks x).eval = vs) (hen : Enters P f) {R : Ending → World → Prop} (hc : Calls P f vs w R)
    (h : ∀ e w', R e w' → ∃ r, e = .returned r ∧ K (slots a ks (atk x d r)) w') : if Region.wanted o (yielded ops (slots a ks x).tmps) = true then Oper.wp P o (slots a ks x) w K Q else Ex := by
  rw [if_pos (by simp [Region.wanted, hg])]
  have he := hen vs w
  unfold Oper.wp execOp
  simp only [ho, resolve, invoke, Sem.run_bind, Sem.run_pure, Result.andThen_ok, hv, go_sem]
  show Oper.upon P o (slots a ks x) K Q (Sem.run P (callFunc f (#[] ++ vs ++ #[])) w)
  rw [show (#[] ++ vs ++ #[] : Array Value) = vs by simp, he, Oper.upon_enter]
  refine hc.mono ?_
  intro e w' hR
  obtain ⟨r, rfl, hk'⟩ := h e w' hR
  show K ((slots a ks x).put o.dst r) w'
  rw [hd, slots_put hk]
  exact hk'
end
end Go.Proofs.Ytkmpcheamdadcaa
