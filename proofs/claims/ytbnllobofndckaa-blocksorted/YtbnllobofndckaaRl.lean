import Derived.Test.YtbnllobofndckaaRv2
import Derived.Deep.RegionLaw
namespace Go.Proofs.Ytbnllobofndckaa
open Go.RowKit
set_option linter.unusedVariables false
set_option linter.unusedSimpArgs false
/-- An append whose run is known, in a region that draws its order. -/
theorem step_append_run {P : Program} {w : World} {ops : Array Oper} {o : Oper} {a : Act} {K : Act → World → Prop} {Q : Exit → Act → World → Prop} {E : Prop} (hgd : o.guard = none) (s x : Operand) (t tx : TypeId)
    (ho : o.op = .call { callee := .builtin .append, args := #[s, x], argTypes := #[t, tx] }) {v u : Value} (hs : a.eval s = v) (hx : a.eval x = u) {d : Nat} (hd : o.dst = some d) {v' : Value} {w' : World}
    (hr : (Builtin.append_ #[t, tx] o.type #[v, u]).run P w = .ok v' w') (h : K (a.put (some d) v') w') :
    if Region.wanted o (yielded ops a.tmps) = true then Oper.wp P o a w K Q else E := by
  have hw : Region.wanted o (yielded ops a.tmps) = true := by simp [Region.wanted, hgd]
  rw [if_pos hw]
  unfold Oper.wp execOp
  simp only [ho, resolve, invoke, builtin, Sem.run_bind, Sem.run_pure, Result.andThen_ok, List.map_toArray, List.map_cons, List.map_nil, hs, hx, hr]
  show K (a.put o.dst v') w'
  rw [hd]; exact h
theorem step_call81 {ops : Array Oper} {o : Oper} {a : Act} {w : World} {K : Act → World → Prop} {Q : Exit → Act → World → Prop} {Ex : Prop} (hgd : o.guard = none) {d : Nat} (hd : o.dst = some d) (x y : Operand) (ts : Array TypeId)
    (ho : o.op = .call { callee := .value (.func 81), args := #[x, y], argTypes := ts }) (u v : Value) (hx : a.eval x = u) (hy : a.eval y = v) {R : Ending → World → Prop} (hc : Calls Try.prog 81 #[u, v] w R)
    (h : ∀ e w', R e w' → ∃ r, e = .returned r ∧ K (a.put (some d) r) w') :
    if Region.wanted o (yielded ops a.tmps) = true then Oper.wp Try.prog o a w K Q else Ex := by
  have hw : Region.wanted o (yielded ops a.tmps) = true := by simp [Region.wanted, hgd]
  rw [if_pos hw]
  have he := enters_of (P := Try.prog) Try.func81 (by kernel_rfl) rfl #[u, v]
  unfold Oper.wp execOp
  simp only [ho, resolve, invoke, Sem.run_bind, Sem.run_pure, Result.andThen_ok, List.map_toArray, List.map_cons, List.map_nil, hx, hy, go_sem]
  show Oper.upon Try.prog o a K Q (Sem.run Try.prog (callFunc 81 (#[] ++ #[a.eval x, a.eval y] ++ #[])) w)
  rw [show (#[] ++ #[a.eval x, a.eval y] ++ #[] : Array Value) = #[u, v] by simp [hx, hy], he, Oper.upon_enter]
  refine hc.mono ?_
  intro e w' hR
  obtain ⟨r, rfl, hk⟩ := h e w' hR
  show K (a.put o.dst r) w'
  rw [hd]
  exact hk
/-- A row of bytes that is cut. -/
theorem row_cut5 {bs : Nat} {w : World} {ak : Option Addr} {n ck m : Nat} {ky : List Int} (h : w.ownsRow bs 5 1 (.slice ak n ck) n (bc ky)) (hm : m ≤ n) : w.ownsRow bs 5 1 (.slice ak m ck) m (bc (ky.take m)) := by
  have hl : (bc ky).length = n * 1 := h.1
  have hl' : ky.length = n := by rw [bc_len] at hl; omega
  refine ⟨by rw [bc_len, List.length_take]; omega, ?_⟩
  rcases h.2 with ⟨e, h0⟩ | ⟨g, cap, cur, e, hb, hg, hnc, hcm, hcs, ht⟩
  · cases e
    exact .inl ⟨by rw [show m = 0 by omega], by omega⟩
  · cases e
    refine .inr ⟨g, ck, cur, rfl, hb, hg, by omega, hcm, hcs, ?_⟩
    have e1 : bc (ky.take m) = (bc ky).take m := by simp [bc, List.map_take]
    rw [e1, ← ht, List.take_take]
    congr 1; omega
/-- Bytes behind such a row. -/
theorem row_grow5 {bs : Nat} {w : World} {v : Value} {n : Nat} {ks : List Int} (h : w.ownsRow bs 5 1 v n (bc ks)) {ra : Option Addr} {m rc : Nat} {lf : List Int} (ha : Arg w ra m rc lf) (hbs : bs ≤ w.heap.size) (hb : n + m ≤ 140737488355328) :
    ∃ v' w', (Builtin.append_ #[23, 23] 23 #[v, .slice ra m rc]).run Try.prog w = .ok v' w' ∧ w'.ownsRow bs 5 1 v' (n + m) (bc (ks ++ lf)) ∧ w.grownBy w' v.ownBlock ∧ (v'.ownBlock = v.ownBlock ∨ v'.ownBlock = some w.heap.size) := by
  obtain ⟨i0, hi, hz0, hz1, hz2⟩ := info_parts info5
  have hlm : lf.length = m := ha.1
  cases ra with
  | none =>
    have hlf : lf = [] := by
      rcases ha.2.2.2 with h1 | ⟨b, o, e, _⟩
      · exact h1
      · cases e
    subst hlf
    have hm : m = 0 := by rw [← hlm]; rfl
    subst hm
    refine ⟨v, w, ?_, by rw [List.append_nil]; exact h, ⟨rfl, rfl, rfl, Nat.le_refl _, fun _ _ _ => rfl⟩, .inl rfl⟩
    rcases h.2 with ⟨rfl, rfl⟩ | ⟨g, cap, cur, rfl, _, _, hnc, _⟩
    · simp [Builtin.append_, run_underlying Try.underlying23, sizeOf, typeInfo, hi, Builtin.lenOf, Builtin.firstCells]
    · simp [Builtin.append_, run_underlying Try.underlying23, sizeOf, typeInfo, hi, Builtin.lenOf, Builtin.firstCells, hnc, storeCells]
  | some a =>
    obtain ⟨v', w', hr, h2, h3, _, h5⟩ := run_append_own_at (P := Try.prog) w bs 23 23 5 i0 _ 1 1 Try.underlying23 hi hz0 hz1 hz2 rfl (by decide) v n (bc ks) h a m rc (bc lf) (by rw [bc_len]; omega) (fun j u hj => by
      obtain ⟨hjl, rfl⟩ := bc_get lf j u hj
      rcases ha.2.2.2 with h1 | ⟨b, o, e, _, h6⟩
      · rw [h1] at hjl; simp at hjl
      · cases e
        rw [add_at]; exact h6 j hjl) (bc_one lf) (by unfold maxLen; omega) (by omega) hbs
    exact ⟨v', w', hr, by rw [bc_app]; exact h2, h3, h5⟩
/-- Three numbers, of which k stand. -/
def l3 (x y z : Nat) (k : Nat) : List Value := [.int .i64 (if 0 < k then (x : Int) else 0), .int .i64 (if 1 < k then (y : Int) else 0), .int .i64 (if 2 < k then (z : Int) else 0)]
theorem l3_set (x y z k : Nat) (hk : k < 3) : (l3 x y z k).set k (.int .i64 (ptN x y z k)) = l3 x y z (k + 1) := by
  rcases k with _ | _ | _ | k
  · rfl
  · rfl
  · rfl
  · omega
/-- Where k numbers end. -/
def o3 (a b c : Nat) : Nat → Nat
  | 0 => 0
  | 1 => a
  | 2 => a + b
  | _ => a + b + c
theorem o3_step (a b c k : Nat) (hk : k < 3) : o3 a b c (k + 1) = o3 a b c k + ptN a b c k := by
  rcases k with _ | _ | _ | k
  · show a = 0 + a; omega
  · rfl
  · rfl
  · omega
/-- Bytes don't lie among numbers. -/
theorem arg_l3 {w : World} {b x y z k : Nat} (hb : Blk w b 120 (l3 x y z k)) {ra : Option Addr} {n rc : Nat} {l : List Int} (h : Arg w ra n rc l) (hl : l ≠ []) : ∀ b' o, ra = some ⟨b', o, none⟩ → b' ≠ b := fun b' o e e2 => by
  subst e2
  obtain ⟨_, _, _, h4⟩ := h
  rcases h4 with h4 | ⟨b2, o2, e3, _, h5⟩
  · exact hl h4
  · rw [e] at e3; cases e3
    have hp : 0 < l.length := by cases l with | nil => exact absurd rfl hl | cons _ _ => simp
    have h6 := h5 0 hp
    rw [hb.cell] at h6
    rcases o with _ | _ | _ | o
    · simp [l3] at h6
    · simp [l3] at h6
    · simp [l3] at h6
    · simp [l3] at h6
/-- The key grows behind what is taken. -/
theorem Rst.grow {os bs : Nat} {w w2 : World} {rb : Nat} {l ky : List Int} {ra : Option Addr} {rc : Nat} {ak : Option Addr} {n ck : Nat} {u : ByteArray} {s k : Int} {vv : Value} (h : Rst os bs w rb l ky ra rc (.slice ak n ck) u s k vv) {v' : Value} {ks : List Int}
    (hr : w2.ownsRow bs 5 1 v' ks.length (bc ks)) (hg : w.grownBy w2 (Value.slice ak n ck).ownBlock) (hl : v'.ownBlock = (Value.slice ak n ck).ownBlock ∨ v'.ownBlock = some w.heap.size) :
    Rst os bs (w2.setCell ⟨rb, 1, none⟩ v') rb l ks ra rc v' u s k vv ∧ Upd (fun j => j = rb ∨ (Value.slice ak n ck).ownBlock = some j) w (w2.setCell ⟨rb, 1, none⟩ v') ∧ Blk w2 rb 88 (rdC ra l.length rc (.slice ak n ck) u s k vv) := by
  have U1 : Upd (fun j => (Value.slice ak n ck).ownBlock = some j) w w2 := (Upd.refl _ _).grown hg (fun k hk _ => hk)
  have U2 : Upd (fun j => j = rb) w2 (w2.setCell ⟨rb, 1, none⟩ v') := (Upd.refl (fun j => j = rb) w2).setCell (p := ⟨rb, 1, none⟩) (fun _ => rfl) _
  have hb : Blk w2 rb 88 (rdC ra l.length rc (.slice ak n ck) u s k vv) := h.blk.upd U1 (fun e => h.nk e)
  have hvk : v'.ownBlock ≠ some rb := by
    rcases hl with e | e
    · rw [e]; exact h.nk
    · rw [e]; intro e2; have := h.blk.lt; cases e2; omega
  refine ⟨⟨hb.set 1 _, ?_, h.cap, row_upd5 hr U2 (fun j hj e => hvk (by rw [← e]; exact hj)), fun hl' b o e => ⟨(h.nr hl' b o e).1, ?_⟩, hvk, h.ge, h.old, h.osle⟩, ?_, hb⟩
  · by_cases hl' : l = []
    · obtain ⟨a1, a2, a3, _⟩ := h.arg
      exact ⟨a1, a2, a3, .inl hl'⟩
    · exact (h.arg.upd U1 (fun b o e => (h.nr hl' b o e).2)).upd U2 (fun b o e => (h.nr hl' b o e).1)
  · rcases hl with e2 | e2
    · rw [e2]; exact (h.nr hl' b o e).2
    · rw [e2]
      rcases h.arg.2.2.2 with h1 | ⟨b2, o2, e3, hlt, _⟩
      · exact absurd h1 hl'
      · rw [e] at e3; cases e3
        intro e4; cases e4; omega
  · exact Upd.then (U1.mono (fun k _ hk => .inr hk)) U2 (fun i _ hi => .inl hi)
end Go.Proofs.Ytbnllobofndckaa
