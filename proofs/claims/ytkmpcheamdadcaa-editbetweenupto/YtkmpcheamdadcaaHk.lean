/-
  EditBetween: its second region (both Sames and Equals), its sizes and its files: drawn regions whose slots hold what is known beforehand.
-/
import Derived.Test.YtkmpcheamdadcaaHj
import Derived.Test.YtkmpcheamdadcaaYd
import Derived.Test.YtkmpcheamdadcaaYk
import Derived.Test.YtkmpcheamdadcaaWb
import Derived.Test.YtkmpcheamdadcaaJx
namespace Go.Proofs.Ytkmpcheamdadcaa
open Go.RowKit
set_option linter.unusedVariables false
set_option linter.unusedSimpArgs false
section
variable {P : Program} {ρ : Operand → Value} {o : Oper} {w w' : World}
theorem exec_bin {op : BinOp} {t t2 : TypeId} {p q : Operand} {vx vy v : Value} (ho : o.op = .binOp op t p q t2) (hx : ρ p = vx) (hy : ρ q = vy) (hg : (eqGuard op t p q vx vy).run P w = .ok () w) (hb : (binOp op t vx vy).run P w = .ok v w) : (execOp ρ o).run P w = .ok (.value v) w := by
  simp only [execOp, ho, hx, hy, Sem.run_bind, Sem.run_pure, hg, hb, Result.andThen_ok]
theorem exec_un {op : UnOp} {t : TypeId} {p : Operand} {vx v : Value} (ho : o.op = .unOp op t p) (hx : ρ p = vx) (h : (Op.unary op vx).run P w = .ok v w) : (execOp ρ o).run P w = .ok (.value v) w := by
  simp only [execOp, ho, hx, Sem.run_bind, Sem.run_pure, h, Result.andThen_ok]
theorem exec_pick {c x y : Operand} {b : Bool} {v : Value} (ho : o.op = .pick c x y) (hc : ρ c = .bool b) (hv : (if b = true then ρ x else ρ y) = v) : (execOp ρ o).run P w = .ok (.value v) w := by
  subst hv
  simp only [execOp, ho, hc, asBool, Sem.run_bind, Sem.run_pure, Result.andThen_ok]
/-- What stands ahead of an operation is done. -/
theorem ahead {d : Nat → Bool} (ho : (o.after.all fun e => !Region.binds .any e || d e.on) = true) (i : Nat) (hi : (o.after.toList.any fun e => Region.binds .any e && e.on == i) = true) : d i = true := by
  rw [List.any_eq_true] at hi
  obtain ⟨e, he, h⟩ := hi
  rw [Array.all_eq_true'] at ho
  have := ho e (Array.mem_toList_iff.1 he)
  simp only [Bool.and_eq_true, beq_iff_eq] at h
  obtain ⟨h1, rfl⟩ := h
  simpa [h1] using this
variable {ops : Array Oper} {Q : Exit → Act → World → Prop} {a : Act} {ks : List Nat} {x : Nat → Value} {K : Act → World → Prop} {Ex : Prop}
theorem wanted_none {t : Array Value} (hg : o.guard = none) : Region.wanted o (yielded ops t) = true := by simp [Region.wanted, hg]
theorem wanted_at {g k : Nat} {b : Bool} (hg : o.guard = some (g, b)) (ho : (ops[g]?).bind (·.dst) = some k) (hk : ks.contains k = true) (hs : k < a.tmps.size) (hx : x k = .bool b) : Region.wanted o (yielded ops (slots a ks x).tmps) = true := by
  have h1 := slots_in (a := a) (x := x) hk hs
  rw [hx] at h1
  have h2 : (slots a ks x).tmps[k]? = some (.bool b) := by
    have hsz : k < (slots a ks x).tmps.size := by simpa [slots] using hs
    rw [Array.getElem?_eq_getElem hsz]
    simp only [Act.eval, Array.getD, hsz, dif_pos] at h1
    exact congrArg some h1
  simp only [Region.wanted, hg, yielded, ho, Option.bind_some, h2, beq_self_eq_true]
theorem step_value_w (hw : Region.wanted o (yielded ops (slots a ks x).tmps) = true) {d : Nat} (hd : o.dst = some d) (hk : ks.contains d = true) {v : Value} (hop : (execOp (slots a ks x).eval o).run P w = .ok (.value v) w')
    (h : K (slots a ks (atk x d v)) w') : if Region.wanted o (yielded ops (slots a ks x).tmps) = true then Oper.wp P o (slots a ks x) w K Q else Ex := by
  rw [if_pos hw]
  unfold Oper.wp
  rw [hop, Oper.upon_value, hd, slots_put hk]
  exact h
theorem step_calls_w (hw : Region.wanted o (yielded ops (slots a ks x).tmps) = true) {d : Nat} (hd : o.dst = some d) (hk : ks.contains d = true) {f : FuncId} {args : Array Operand} {ts : Array TypeId} (ho : o.op = .call { callee := .value (.func f), args := args, argTypes := ts })
    {vs : Array Value} (hv : args.map (slots a ks x).eval = vs) (hen : Enters P f) {R : Ending → World → Prop} (hc : Calls P f vs w R)
    (h : ∀ e w', R e w' → ∃ r, e = .returned r ∧ K (slots a ks (atk x d r)) w') : if Region.wanted o (yielded ops (slots a ks x).tmps) = true then Oper.wp P o (slots a ks x) w K Q else Ex := by
  rw [if_pos hw]
  have he := hen vs w
  unfold Oper.wp execOp
  simp only [ho, resolve, invoke, Sem.run_bind, Sem.run_pure, Result.andThen_ok, hv, go_sem]
  show Oper.upon P o (slots a ks x) K Q (Sem.run P (callFunc f (#[] ++ vs ++ #[])) w)
  rw [show (#[] ++ vs ++ #[] : Array Value) = vs by simp, he, Oper.upon_enter]
  refine hc.mono ?_
  intro e w' hR
  obtain ⟨r, rfl, hk'⟩ := h e w' hR
  show K ((slots a ks x).put o.dst r) w'
  rw [hd, slots_put hk]
  exact hk'
end
/-- What a slot holds: a value that is known, or one of which S is known. -/
def RK (cs : List (Option Value)) (S : Value → World → Prop) (i : Nat) (v : Value) (w : World) : Prop := match cs[i]? with
  | some (some c) => v = c
  | _ => S v w
theorem RK.below {cs : List (Option Value)} {S : Value → World → Prop} (hS : ∀ v w w', Below w.heap.size w w' → S v w → S v w') {i : Nat} {v : Value} {w w' : World} (hb : Below w.heap.size w w') (h : RK cs S i v w) : RK cs S i v w' := by
  unfold RK at *
  split at h
  · exact h
  · exact hS _ _ _ hb h
/-- A drawn region that makes memory alone: its slots hold what is known. -/
structure JG (cs : List (Option Value)) (n : Nat) (S : Value → World → Prop) (sl : Nat → Nat) (W1 : World) (d : Nat → Bool) (x : Nat → Value) (w : World) : Prop where
  bel : Below W1.heap.size W1 w
  r : ∀ i, i < n → d i = true → RK cs S i (x (sl i)) w
theorem JG.set {cs : List (Option Value)} {n : Nat} {S : Value → World → Prop} {sl : Nat → Nat} {W1 w w' : World} {d : Nat → Bool} {x : Nat → Value} (hS : ∀ v w w', Below w.heap.size w w' → S v w → S v w') (hs : ∀ i, i < n → ∀ j, j < n → sl j = sl i → j = i)
    {i : Nat} (hi : i < n) {v : Value} (h : JG cs n S sl W1 d x w) (hv : RK cs S i v w') (hb : Below w.heap.size w w')   : JG cs n S sl W1 (fun j => if j = i then true else d j) (atk x (sl i) v) w' := by
  refine ⟨bstep h.bel hb, fun j hj hd => ?_⟩
  by_cases hji : j = i
  · subst hji
    rw [show atk x (sl j) v (sl j) = v from if_pos rfl]
    exact hv
  · rw [show atk x (sl i) v (sl j) = x (sl j) from if_neg (fun h => hji (hs i hi j hj h))]
    exact (h.r j hj (by simpa [hji] using hd)).below hS hb
theorem JG.start {cs : List (Option Value)} {n : Nat} {S : Value → World → Prop} {sl : Nat → Nat} {W1 : World} {x : Nat → Value} : JG cs n S sl W1 (fun _ => false) x W1.drew := ⟨(Below.refl _ _).drew, fun _ _ h => by cases h⟩
section
variable {V U : Vn} {L M : Nat → List Fi} {e : Ed} {P1 P2 : En} {W1 : World}
set_option maxRecDepth 100000 in
set_option maxHeartbeats 4000000 in
/-- Same of both edits, both Equals, Equal of a version and its copy. -/
theorem reg2_wp {Q : Exit → Act → World → Prop} {a : Act} {B1 B2 X Y : Nat} (h4 : a.eval (.tmp 4) = .pointer (some ⟨B1, 0, none⟩)) (h5 : a.eval (.tmp 5) = .pointer (some ⟨B2, 0, none⟩)) (h7 : a.eval (.tmp 7) = .pointer (some ⟨X, 0, none⟩)) (h8 : a.eval (.tmp 8) = .pointer (some ⟨Y, 0, none⟩)) (hsz : a.tmps.size = 117)
    (HV : ∀ W, Below W1.heap.size W1 W → Blk W B1 41 (cells7 (vsl V L)) ∧ Blk W B2 41 (cells7 (vsl U M)) ∧ RdV W V L ∧ RdV W U M)
    (HE : ∀ W, Below W1.heap.size W1 W → Blk W X 27 (edA P1 e).toList ∧ Blk W Y 27 (edA P2 e).toList ∧ RdEd W P1 e ∧ RdEd W P2 e)
    (hend : ∀ (x : Nat → Value) (w : World), x 42 = .bool false → Below W1.heap.size W1 w → Q .normal (([23, 24, 25, 26, 27, 28, 29, 30, 31, 32, 33, 34, 35, 36, 37, 38, 39, 40, 41, 42] : List Nat).foldl (fun b k => b.put (some k) (x k)) a) w) : (Code.region 2 (opsOf (ahead1 (ahead1 (behind1 (behind1 (bodyOf Try.f6)))))) true).wp Try.prog Q a W1 := by
  have hS : ∀ v w w', Below w.heap.size w w' → (fun v w => ∃ b V', v = .agg (verA V' L) ∧ OwnV w b V' L : Value → World → Prop) v w → (fun v w => ∃ b V', v = .agg (verA V' L) ∧ OwnV w b V' L : Value → World → Prop) v w' := fun v w w' hb ⟨b, V', h1, h2⟩ => ⟨b, V', h1, h2.below hb⟩
  have hs : ∀ i, i < 20 → ∀ j, j < 20 → (fun i => 23 + i) j = (fun i => 23 + i) i → j = i := by decide
  refine wp_region_slots [23, 24, 25, 26, 27, 28, 29, 30, 31, 32, 33, 34, 35, 36, 37, 38, 39, 40, 41, 42] (JG (([some (.agg (edA P1 e)), some (.agg (edA P2 e)), some (.bool true), some (.bool false), some (.bool false), some (.agg (verA V L)), some (.agg (verA U M)), some (.bool (eqV L M)), some (.agg (verA V L)), some (.agg (verA U M)), some (.bool (eqV L M)), some (.bool false), some (.bool false), some (.bool false), some (.agg (verA V L)), some (.agg (verA V L)), none, some (.bool true), some (.bool false), some (.bool false)] : List (Option Value))) 20 (fun v w => ∃ b V', v = .agg (verA V' L) ∧ OwnV w b V' L) (fun i => 23 + i) W1) (by kernel_rfl) (by kernel_rfl) JG.start
    ⟨?_, ?_, ?_, ?_, ?_, ?_, ?_, ?_, ?_, ?_, ?_, ?_, ?_, ?_, ?_, ?_, ?_, ?_, ?_, ?_, trivial⟩ ?_
  · intro d x w hd ho hJ K hK
    exact step_value_w (wanted_none rfl) rfl rfl (exec_load rfl (by rw [slots_out rfl, h7]; exact run_load27 (HE w hJ.bel).1)) (hK.out _ _ (hJ.set hS hs (i := 0) (by decide) rfl (Below.refl _ _)))
  · intro d x w hd ho hJ K hK
    exact step_value_w (wanted_none rfl) rfl rfl (exec_load rfl (by rw [slots_out rfl, h8]; exact run_load27 (HE w hJ.bel).2.1)) (hK.out _ _ (hJ.set hS hs (i := 1) (by decide) rfl (Below.refl _ _)))
  · intro d x w hd ho hJ K hK
    have d0 : d 0 = true := ahead ho 0 (by rfl)
    have d1 : d 1 = true := ahead ho 1 (by rfl)
    refine step_calls_w (wanted_none rfl) rfl rfl rfl (vs := #[.agg (edA P1 e), .agg (edA P2 e)]) ?_ (enters_of (P := Try.prog) Try.func13 (by kernel_rfl) rfl) (same_self (HE w hJ.bel).2.2.1 (HE w hJ.bel).2.2.2) ?_
    · simp only [List.map_toArray, List.map_cons, List.map_nil]
      rw [slots_in rfl (by rw [hsz]; decide), show x 23 = _ from hJ.r 0 (by decide) d0, slots_in rfl (by rw [hsz]; decide), show x 24 = _ from hJ.r 1 (by decide) d1]
    · rintro en w' ⟨rfl, hb⟩
      exact ⟨_, rfl, hK.out _ _ (hJ.set hS hs (i := 2) (by decide) rfl hb)⟩
  · intro d x w hd ho hJ K hK
    have d2 : d 2 = true := ahead ho 2 (by rfl)
    exact step_value_w (wanted_none rfl) rfl rfl (exec_un rfl (by rw [slots_in rfl (by rw [hsz]; decide), show x 25 = _ from hJ.r 2 (by decide) d2]) (by simp [go_sem])) (hK.out _ _ (hJ.set hS hs (i := 3) (by decide) rfl (Below.refl _ _)))
  · intro d x w hd ho hJ K hK
    have d3 : d 3 = true := ahead ho 3 (by rfl)
    refine step_value_w (v := .bool false) (wanted_none rfl) rfl rfl ?_ (hK.out _ _ (hJ.set hS hs (i := 4) (by decide) rfl (Below.refl _ _)))
    rw [exec_move rfl, slots_in rfl (by rw [hsz]; decide), show x 26 = _ from hJ.r 3 (by decide) d3]
  · intro d x w hd ho hJ K hK
    have d4 : d 4 = true := ahead ho 4 (by rfl)
    exact step_value_w (wanted_at (b := false) rfl rfl rfl (by rw [hsz]; decide) (hJ.r 4 (by decide) d4)) rfl rfl (exec_load rfl (by rw [slots_out rfl, h4]; exact run_load41 (HV w hJ.bel).1)) (hK.out _ _ (hJ.set hS hs (i := 5) (by decide) rfl (Below.refl _ _)))
  · intro d x w hd ho hJ K hK
    have d4 : d 4 = true := ahead ho 4 (by rfl)
    exact step_value_w (wanted_at (b := false) rfl rfl rfl (by rw [hsz]; decide) (hJ.r 4 (by decide) d4)) rfl rfl (exec_load rfl (by rw [slots_out rfl, h5]; exact run_load41 (HV w hJ.bel).2.1)) (hK.out _ _ (hJ.set hS hs (i := 6) (by decide) rfl (Below.refl _ _)))
  · intro d x w hd ho hJ K hK
    have d4 : d 4 = true := ahead ho 4 (by rfl)
    have d5 : d 5 = true := ahead ho 5 (by rfl)
    have d6 : d 6 = true := ahead ho 6 (by rfl)
    refine step_calls_w (wanted_at (b := false) rfl rfl rfl (by rw [hsz]; decide) (hJ.r 4 (by decide) d4)) rfl rfl rfl (vs := #[.agg (verA V L), .agg (verA U M)]) ?_ (enters_of (P := Try.prog) Try.func25 (by kernel_rfl) rfl) (equal_any (HV w hJ.bel).2.2.1 (HV w hJ.bel).2.2.2) ?_
    · simp only [List.map_toArray, List.map_cons, List.map_nil]
      rw [slots_in rfl (by rw [hsz]; decide), show x 28 = _ from hJ.r 5 (by decide) d5, slots_in rfl (by rw [hsz]; decide), show x 29 = _ from hJ.r 6 (by decide) d6]
    · rintro en w' ⟨rfl, hb⟩
      exact ⟨_, rfl, hK.out _ _ (hJ.set hS hs (i := 7) (by decide) rfl hb)⟩
  · intro d x w hd ho hJ K hK
    have d4 : d 4 = true := ahead ho 4 (by rfl)
    exact step_value_w (wanted_at (b := false) rfl rfl rfl (by rw [hsz]; decide) (hJ.r 4 (by decide) d4)) rfl rfl (exec_load rfl (by rw [slots_out rfl, h4]; exact run_load41 (HV w hJ.bel).1)) (hK.out _ _ (hJ.set hS hs (i := 8) (by decide) rfl (Below.refl _ _)))
  · intro d x w hd ho hJ K hK
    have d4 : d 4 = true := ahead ho 4 (by rfl)
    exact step_value_w (wanted_at (b := false) rfl rfl rfl (by rw [hsz]; decide) (hJ.r 4 (by decide) d4)) rfl rfl (exec_load rfl (by rw [slots_out rfl, h5]; exact run_load41 (HV w hJ.bel).2.1)) (hK.out _ _ (hJ.set hS hs (i := 9) (by decide) rfl (Below.refl _ _)))
  · intro d x w hd ho hJ K hK
    have d4 : d 4 = true := ahead ho 4 (by rfl)
    have d8 : d 8 = true := ahead ho 8 (by rfl)
    have d9 : d 9 = true := ahead ho 9 (by rfl)
    refine step_calls_w (wanted_at (b := false) rfl rfl rfl (by rw [hsz]; decide) (hJ.r 4 (by decide) d4)) rfl rfl rfl (vs := #[.agg (verA V L), .agg (verA U M)]) ?_ (enters_of (P := Try.prog) Try.func20 (by kernel_rfl) rfl) (requal_any (HV w hJ.bel).2.2.1 (HV w hJ.bel).2.2.2) ?_
    · simp only [List.map_toArray, List.map_cons, List.map_nil]
      rw [slots_in rfl (by rw [hsz]; decide), show x 31 = _ from hJ.r 8 (by decide) d8, slots_in rfl (by rw [hsz]; decide), show x 32 = _ from hJ.r 9 (by decide) d9]
    · rintro en w' ⟨rfl, hb⟩
      exact ⟨_, rfl, hK.out _ _ (hJ.set hS hs (i := 10) (by decide) rfl hb)⟩
  · intro d x w hd ho hJ K hK
    have d4 : d 4 = true := ahead ho 4 (by rfl)
    have d7 : d 7 = true := ahead ho 7 (by rfl)
    have d10 : d 10 = true := ahead ho 10 (by rfl)
    exact step_value_w (wanted_at (b := false) rfl rfl rfl (by rw [hsz]; decide) (hJ.r 4 (by decide) d4)) rfl rfl (exec_bin rfl (by rw [slots_in rfl (by rw [hsz]; decide), show x 30 = _ from hJ.r 7 (by decide) d7]) (by rw [slots_in rfl (by rw [hsz]; decide), show x 33 = _ from hJ.r 10 (by decide) d10]) (by simp [eqGuard, go_sem]) (by simp [go_sem])) (hK.out _ _ (hJ.set hS hs (i := 11) (by decide) rfl (Below.refl _ _)))
  · intro d x w hd ho hJ K hK
    have d4 : d 4 = true := ahead ho 4 (by rfl)
    have d11 : d 11 = true := ahead ho 11 (by rfl)
    exact step_value_w (wanted_none rfl) rfl rfl (exec_pick (v := .bool false) rfl (by rw [slots_in rfl (by rw [hsz]; decide), show x 27 = _ from hJ.r 4 (by decide) d4]) (by rw [if_neg (by decide), slots_in rfl (by rw [hsz]; decide), show x 34 = _ from hJ.r 11 (by decide) d11])) (hK.out _ _ (hJ.set hS hs (i := 12) (by decide) rfl (Below.refl _ _)))
  · intro d x w hd ho hJ K hK
    have d12 : d 12 = true := ahead ho 12 (by rfl)
    refine step_value_w (v := .bool false) (wanted_none rfl) rfl rfl ?_ (hK.out _ _ (hJ.set hS hs (i := 13) (by decide) rfl (Below.refl _ _)))
    rw [exec_move rfl, slots_in rfl (by rw [hsz]; decide), show x 35 = _ from hJ.r 12 (by decide) d12]
  · intro d x w hd ho hJ K hK
    have d13 : d 13 = true := ahead ho 13 (by rfl)
    exact step_value_w (wanted_at (b := false) rfl rfl rfl (by rw [hsz]; decide) (hJ.r 13 (by decide) d13)) rfl rfl (exec_load rfl (by rw [slots_out rfl, h4]; exact run_load41 (HV w hJ.bel).1)) (hK.out _ _ (hJ.set hS hs (i := 14) (by decide) rfl (Below.refl _ _)))
  · intro d x w hd ho hJ K hK
    have d13 : d 13 = true := ahead ho 13 (by rfl)
    exact step_value_w (wanted_at (b := false) rfl rfl rfl (by rw [hsz]; decide) (hJ.r 13 (by decide) d13)) rfl rfl (exec_load rfl (by rw [slots_out rfl, h4]; exact run_load41 (HV w hJ.bel).1)) (hK.out _ _ (hJ.set hS hs (i := 15) (by decide) rfl (Below.refl _ _)))
  · intro d x w hd ho hJ K hK
    have d13 : d 13 = true := ahead ho 13 (by rfl)
    have d15 : d 15 = true := ahead ho 15 (by rfl)
    refine step_calls_w (wanted_at (b := false) rfl rfl rfl (by rw [hsz]; decide) (hJ.r 13 (by decide) d13)) rfl rfl rfl (vs := #[.agg (verA V L)]) ?_ (enters_of (P := Try.prog) Try.func17 (by kernel_rfl) rfl) (copied_any (HV w hJ.bel).2.2.1) ?_
    · simp only [List.map_toArray, List.map_cons, List.map_nil]
      rw [slots_in rfl (by rw [hsz]; decide), show x 38 = _ from hJ.r 15 (by decide) d15]
    · rintro en w' ⟨V', rfl, h1, h2⟩
      exact ⟨_, rfl, hK.out _ _ (hJ.set hS hs (i := 16) (by decide) ⟨_, V', rfl, h1⟩ h2)⟩
  · intro d x w hd ho hJ K hK
    have d13 : d 13 = true := ahead ho 13 (by rfl)
    have d14 : d 14 = true := ahead ho 14 (by rfl)
    have d16 : d 16 = true := ahead ho 16 (by rfl)
    obtain ⟨b1, V1, e1, o1⟩ := hJ.r 16 (by decide) d16
    obtain ⟨_, _, r1, r2⟩ := HV w hJ.bel
    have hc := equal_any r1 (o1.rdv r1.len r1.ok)
    rw [eqV_self] at hc
    refine step_calls_w (wanted_at (b := false) rfl rfl rfl (by rw [hsz]; decide) (hJ.r 13 (by decide) d13)) rfl rfl rfl (vs := #[.agg (verA V L), .agg (verA V1 L)]) ?_ (enters_of (P := Try.prog) Try.func25 (by kernel_rfl) rfl) (hc) ?_
    · simp only [List.map_toArray, List.map_cons, List.map_nil]
      rw [slots_in rfl (by rw [hsz]; decide), slots_in rfl (by rw [hsz]; decide), show x 37 = _ from hJ.r 14 (by decide) d14, show x 39 = _ from e1]
    · rintro en w' ⟨rfl, hb⟩
      exact ⟨_, rfl, hK.out _ _ (hJ.set hS hs (i := 17) (by decide) rfl hb)⟩
  · intro d x w hd ho hJ K hK
    have d13 : d 13 = true := ahead ho 13 (by rfl)
    have d17 : d 17 = true := ahead ho 17 (by rfl)
    exact step_value_w (wanted_at (b := false) rfl rfl rfl (by rw [hsz]; decide) (hJ.r 13 (by decide) d13)) rfl rfl (exec_un rfl (by rw [slots_in rfl (by rw [hsz]; decide), show x 40 = _ from hJ.r 17 (by decide) d17]) (by simp [go_sem])) (hK.out _ _ (hJ.set hS hs (i := 18) (by decide) rfl (Below.refl _ _)))
  · intro d x w hd ho hJ K hK
    have d13 : d 13 = true := ahead ho 13 (by rfl)
    have d18 : d 18 = true := ahead ho 18 (by rfl)
    exact step_value_w (wanted_none rfl) rfl rfl (exec_pick (v := .bool false) rfl (by rw [slots_in rfl (by rw [hsz]; decide), show x 36 = _ from hJ.r 13 (by decide) d13]) (by rw [if_neg (by decide), slots_in rfl (by rw [hsz]; decide), show x 41 = _ from hJ.r 18 (by decide) d18])) (hK.out _ _ (hJ.set hS hs (i := 19) (by decide) rfl (Below.refl _ _)))
  · intro d x w hd hJ
    have hd' : ∀ i, i < 20 → d i = true := fun i hi => hd i hi
    exact hend x w (hJ.r 19 (by decide) (hd' 19 (by decide))) hJ.bel
def opened (c : Code) : Code := match c with | .block _ c => c | .loop c => c | c => c
set_option maxRecDepth 100000 in
set_option maxHeartbeats 4000000 in
/-- The sizes of a level. -/
theorem reg7_wp {Q : Exit → Act → World → Prop} {a : Act} {B1 : Nat} {i : Int} (h4 : a.eval (.tmp 4) = .pointer (some ⟨B1, 0, none⟩)) (h9 : a.eval (.tmp 9) = .int .i64 i) (hsz : a.tmps.size = 117)
    (HV : ∀ W, Below W1.heap.size W1 W → Blk W B1 41 (cells7 (vsl V L)) ∧ RdV W V L)
    (hend : ∀ (x : Nat → Value) (w : World), x 53 = .bool false → Below W1.heap.size W1 w → Q .normal (([47, 48, 49, 50, 51, 52, 53] : List Nat).foldl (fun b k => b.put (some k) (x k)) a) w) : (Code.region 7 (opsOf (ahead1 (opened (ahead1 (behind1 (opened (opened (behind1 (ahead1 (behind1 (behind1 (behind1 (bodyOf Try.f6))))))))))))) true).wp Try.prog Q a W1 := by
  have hS : ∀ v w w', Below w.heap.size w w' → (fun _ _ => True : Value → World → Prop) v w → (fun _ _ => True : Value → World → Prop) v w' := fun _ _ _ _ _ => trivial
  have hs : ∀ i, i < 7 → ∀ j, j < 7 → (fun i => 47 + i) j = (fun i => 47 + i) i → j = i := by decide
  refine wp_region_slots [47, 48, 49, 50, 51, 52, 53] (JG (([some (.agg (verA V L)), some (.int .i64 i), some (.int .u64 (sizV L i)), some (.agg (verA V L)), some (.int .i64 i), some (.int .u64 (sizV L i)), some (.bool false)] : List (Option Value))) 7 (fun _ _ => True) (fun i => 47 + i) W1) (by kernel_rfl) (by kernel_rfl) JG.start
    ⟨?_, ?_, ?_, ?_, ?_, ?_, ?_, trivial⟩ ?_
  · intro d x w hd ho hJ K hK
    exact step_value_w (wanted_none rfl) rfl rfl (exec_load rfl (by rw [slots_out rfl, h4]; exact run_load41 (HV w hJ.bel).1)) (hK.out _ _ (hJ.set hS hs (i := 0) (by decide) rfl (Below.refl _ _)))
  · intro d x w hd ho hJ K hK
    refine step_value_w (v := .int .i64 i) (wanted_none rfl) rfl rfl ?_ (hK.out _ _ (hJ.set hS hs (i := 1) (by decide) rfl (Below.refl _ _)))
    rw [exec_move rfl, slots_out rfl, h9]
  · intro d x w hd ho hJ K hK
    have d0 : d 0 = true := ahead ho 0 (by rfl)
    have d1 : d 1 = true := ahead ho 1 (by rfl)
    refine step_calls_w (wanted_none rfl) rfl rfl rfl (vs := #[.agg (verA V L), .int .i64 i]) ?_ (enters_of (P := Try.prog) Try.func26 (by kernel_rfl) rfl) (size_any (HV w hJ.bel).2 i) ?_
    · simp only [List.map_toArray, List.map_cons, List.map_nil]
      rw [slots_in rfl (by rw [hsz]; decide), show x 47 = _ from hJ.r 0 (by decide) d0, slots_in rfl (by rw [hsz]; decide), show x 48 = _ from hJ.r 1 (by decide) d1]
    · rintro en w' ⟨rfl, hb⟩
      exact ⟨_, rfl, hK.out _ _ (hJ.set hS hs (i := 2) (by decide) rfl hb)⟩
  · intro d x w hd ho hJ K hK
    exact step_value_w (wanted_none rfl) rfl rfl (exec_load rfl (by rw [slots_out rfl, h4]; exact run_load41 (HV w hJ.bel).1)) (hK.out _ _ (hJ.set hS hs (i := 3) (by decide) rfl (Below.refl _ _)))
  · intro d x w hd ho hJ K hK
    refine step_value_w (v := .int .i64 i) (wanted_none rfl) rfl rfl ?_ (hK.out _ _ (hJ.set hS hs (i := 4) (by decide) rfl (Below.refl _ _)))
    rw [exec_move rfl, slots_out rfl, h9]
  · intro d x w hd ho hJ K hK
    have d3 : d 3 = true := ahead ho 3 (by rfl)
    have d4 : d 4 = true := ahead ho 4 (by rfl)
    refine step_calls_w (wanted_none rfl) rfl rfl rfl (vs := #[.agg (verA V L), .int .i64 i]) ?_ (enters_of (P := Try.prog) Try.func27 (by kernel_rfl) rfl) (rsize_any (HV w hJ.bel).2 i) ?_
    · simp only [List.map_toArray, List.map_cons, List.map_nil]
      rw [slots_in rfl (by rw [hsz]; decide), show x 50 = _ from hJ.r 3 (by decide) d3, slots_in rfl (by rw [hsz]; decide), show x 51 = _ from hJ.r 4 (by decide) d4]
    · rintro en w' ⟨rfl, hb⟩
      exact ⟨_, rfl, hK.out _ _ (hJ.set hS hs (i := 5) (by decide) rfl hb)⟩
  · intro d x w hd ho hJ K hK
    have d2 : d 2 = true := ahead ho 2 (by rfl)
    have d5 : d 5 = true := ahead ho 5 (by rfl)
    exact step_value_w (wanted_none rfl) rfl rfl (exec_bin rfl (by rw [slots_in rfl (by rw [hsz]; decide), show x 49 = _ from hJ.r 2 (by decide) d2]) (by rw [slots_in rfl (by rw [hsz]; decide), show x 52 = _ from hJ.r 5 (by decide) d5]) (by simp [eqGuard, go_sem]) (by simp [go_sem])) (hK.out _ _ (hJ.set hS hs (i := 6) (by decide) rfl (Below.refl _ _)))
  · intro d x w hd hJ
    have hd' : ∀ i, i < 7 → d i = true := fun i hi => hd i hi
    exact hend x w (hJ.r 6 (by decide) (hd' 6 (by decide))) hJ.bel
def sl9 : Nat → Nat
  | 0 => 54 | 1 => 55 | 2 => 56 | 3 => 57 | 4 => 10 | 5 => 11 | _ => 0
set_option maxRecDepth 100000 in
set_option maxHeartbeats 4000000 in
/-- Both sides' numbers of the tables. -/
theorem reg9_wp {Q : Exit → Act → World → Prop} {a : Act} {B1 : Nat} (h4 : a.eval (.tmp 4) = .pointer (some ⟨B1, 0, none⟩)) (hsz : a.tmps.size = 117)
    (HV : ∀ W, Below W1.heap.size W1 W → Blk W B1 41 (cells7 (vsl V L)) ∧ RdV W V L) (hL : ∀ i, i < 7 → (L i).length ≤ 1048576)
    (hend : ∀ (x : Nat → Value) (w : World), (∃ b, w.ownsRow b 23 1 (x 10) (Srt.famI (Srt.nmL L 7)).length (Srt.uc (Srt.famI (Srt.nmL L 7)))) → (∃ b, w.ownsRow b 23 1 (x 11) (Srt.famI (Srt.nmL L 7)).length (Srt.uc (Srt.famI (Srt.nmL L 7)))) → Below W1.heap.size W1 w → Q .normal (([54, 55, 56, 57, 10, 11] : List Nat).foldl (fun b k => b.put (some k) (x k)) a) w) : (Code.region 9 (opsOf (ahead1 (behind1 (behind1 (behind1 (behind1 (bodyOf Try.f6))))))) true).wp Try.prog Q a W1 := by
  have hS : ∀ v w w', Below w.heap.size w w' → (fun v w => ∃ b, w.ownsRow b 23 1 v (Srt.famI (Srt.nmL L 7)).length (Srt.uc (Srt.famI (Srt.nmL L 7))) : Value → World → Prop) v w → (fun v w => ∃ b, w.ownsRow b 23 1 v (Srt.famI (Srt.nmL L 7)).length (Srt.uc (Srt.famI (Srt.nmL L 7))) : Value → World → Prop) v w' := fun v w w' hb ⟨b, h⟩ => ⟨b, row_upd (S := Non) h (Upd.ofBelow hb) (fun _ _ h => h)⟩
  have hs : ∀ i, i < 6 → ∀ j, j < 6 → (sl9) j = (sl9) i → j = i := by decide
  refine wp_region_slots [54, 55, 56, 57, 10, 11] (JG (([some (.agg (verA V L)), none, some (.agg (verA V L)), none, none, none] : List (Option Value))) 6 (fun v w => ∃ b, w.ownsRow b 23 1 v (Srt.famI (Srt.nmL L 7)).length (Srt.uc (Srt.famI (Srt.nmL L 7)))) (sl9) W1) (by kernel_rfl) (by kernel_rfl) JG.start
    ⟨?_, ?_, ?_, ?_, ?_, ?_, trivial⟩ ?_
  · intro d x w hd ho hJ K hK
    exact step_value_w (wanted_none rfl) rfl rfl (exec_load rfl (by rw [slots_out rfl, h4]; exact run_load41 (HV w hJ.bel).1)) (hK.out _ _ (hJ.set hS hs (i := 0) (by decide) rfl (Below.refl _ _)))
  · intro d x w hd ho hJ K hK
    have d0 : d 0 = true := ahead ho 0 (by rfl)
    refine step_calls_w (wanted_none rfl) rfl rfl rfl (vs := #[.agg (verA V L)]) ?_ (enters_of (P := Try.prog) Try.func28 (by kernel_rfl) rfl) (Srt.files_any (HV w hJ.bel).2 hL) ?_
    · simp only [List.map_toArray, List.map_cons, List.map_nil]
      rw [slots_in rfl (by rw [hsz]; decide), show x 54 = _ from hJ.r 0 (by decide) d0]
    · rintro en w' ⟨fv, rfl, h1, h2⟩
      exact ⟨_, rfl, hK.out _ _ (hJ.set hS hs (i := 1) (by decide) ⟨_, h1⟩ h2)⟩
  · intro d x w hd ho hJ K hK
    exact step_value_w (wanted_none rfl) rfl rfl (exec_load rfl (by rw [slots_out rfl, h4]; exact run_load41 (HV w hJ.bel).1)) (hK.out _ _ (hJ.set hS hs (i := 2) (by decide) rfl (Below.refl _ _)))
  · intro d x w hd ho hJ K hK
    have d2 : d 2 = true := ahead ho 2 (by rfl)
    refine step_calls_w (wanted_none rfl) rfl rfl rfl (vs := #[.agg (verA V L)]) ?_ (enters_of (P := Try.prog) Try.func29 (by kernel_rfl) rfl) (Srt.rfiles_any (HV w hJ.bel).2 hL) ?_
    · simp only [List.map_toArray, List.map_cons, List.map_nil]
      rw [slots_in rfl (by rw [hsz]; decide), show x 56 = _ from hJ.r 2 (by decide) d2]
    · rintro en w' ⟨fv, rfl, h1, h2⟩
      exact ⟨_, rfl, hK.out _ _ (hJ.set hS hs (i := 3) (by decide) ⟨_, h1⟩ h2)⟩
  · intro d x w hd ho hJ K hK
    have d1 : d 1 = true := ahead ho 1 (by rfl)
    refine step_value_w (wanted_none rfl) rfl rfl (exec_assign rfl) (hK.out _ _ (hJ.set hS hs (i := 4) (by decide) ?_ (Below.refl _ _)))
    rw [slots_in rfl (by rw [hsz]; decide)]
    exact hJ.r 1 (by decide) d1
  · intro d x w hd ho hJ K hK
    have d3 : d 3 = true := ahead ho 3 (by rfl)
    refine step_value_w (wanted_none rfl) rfl rfl (exec_assign rfl) (hK.out _ _ (hJ.set hS hs (i := 5) (by decide) ?_ (Below.refl _ _)))
    rw [slots_in rfl (by rw [hsz]; decide)]
    exact hJ.r 3 (by decide) d3
  · intro d x w hd hJ
    have hd' : ∀ i, i < 6 → d i = true := fun i hi => hd i hi
    exact hend x w (hJ.r 4 (by decide) (hd' 4 (by decide))) (hJ.r 5 (by decide) (hd' 5 (by decide))) hJ.bel
end
end Go.Proofs.Ytkmpcheamdadcaa
