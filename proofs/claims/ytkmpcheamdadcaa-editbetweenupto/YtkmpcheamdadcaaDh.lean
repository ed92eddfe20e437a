/-
  The reader's part f80: the parts of tables.
-/
import Derived.Test.YtkmpcheamdadcaaDg
namespace Go.Proofs.Ytkmpcheamdadcaa
open Go.RowKit
set_option linter.unusedVariables false
set_option linter.unusedSimpArgs false
/-- append, at a step of a region. -/
theorem step_appt {v u : Value} {t : TypeId} {Rr : Value → World → Prop} {w : World} {ops : Array Oper} {o : Oper} {a : Act} {K : Act → World → Prop} {Q : Exit → Act → World → Prop} {Ex : Prop} (hgd : o.guard = none) (s x : Operand)
    (ho : o.op = .call { callee := .builtin .append, args := #[s, x], argTypes := #[t, t] }) (hs : a.eval s = v) (hx : a.eval x = u) (hrun : ∃ v' w', (Builtin.append_ #[t, t] o.type #[v, u]).run Try.prog w = .ok v' w' ∧ Rr v' w')
    (hK : ∀ v' w', Rr v' w' → K (a.put o.dst v') w') :
    if Region.wanted o (yielded ops a.tmps) = true then Oper.wp Try.prog o a w K Q else Ex := by
  have hw : Region.wanted o (yielded ops a.tmps) = true := by simp [Region.wanted, hgd]
  rw [if_pos hw]
  obtain ⟨v', w', hr, h2⟩ := hrun
  unfold Oper.wp execOp
  simp only [ho, resolve, invoke, builtin, Sem.run_bind, Sem.run_pure, Result.andThen_ok, List.map_toArray, List.map_cons, List.map_nil, hs, hx, hr]
  exact hK v' w' h2
theorem Rs.below {B M : Nat} {w w' : World} {rb : Nat} {l : List Int} {P : En} {e : Ed} (h : Rs B M w rb l P e) (hb : Below w.heap.size w w') : Rs B M w' rb l P e := h.call (h.rd.below hb) (Upd.ofBelow hb)
theorem Rs.size {B M : Nat} {w : World} {rb : Nat} {l : List Int} {P : En} {e : Ed} (h : Rs B M w rb l P e) : M ≤ w.heap.size := h.m.2
/-- What an append of a table that is gone leaves, ahead of its store. -/
structure Gpost (B M : Nat) (W w' : World) (rb : Nat) (l : List Int) (P : En) (e : Ed) (x : Gn) (v' : Value) : Prop where
  ex : ∃ a c, v' = .slice a (e.gone.length + 1) c ∧ Rdl B w' rb l (edA P e).toList ∧ OwnE w' M ⟨a, c, P.aa, P.ac⟩ { e with gone := e.gone ++ [x] }
  u : Upd (Fr M rb) W w'
  m : B ≤ M ∧ M ≤ w'.heap.size
theorem Rs.addGone {B M : Nat} {W : World} {rb : Nat} {l : List Int} {P : En} {e : Ed} (h : Rs B M W rb l P e) {vb : Nat} {x : Gn} (hv : Blk W vb 66 (Gn.c x)) (hm : roomB e = true) (ty : TypeId) :
    ∃ v' w', (Builtin.append_ #[24, 24] ty #[.slice P.ga e.gone.length P.gc, .slice (some ⟨vb, 0, none⟩) 1 1]).run Try.prog W = .ok v' w' ∧ Gpost B M W w' rb l P e x v' := by
  have hn := h.n
  obtain ⟨v, hB⟩ := h.blk
  obtain ⟨v', w', hr, ho, hu, _, _⟩ := push_g gn_k gn_1 (t := 24) Try.underlying24 info66 rfl (by decide) h.o.g h.size hv ty (by omega) (by unfold maxLen; omega)
  obtain ⟨a, c, rfl⟩ := row_slice ho
  have hg := fun k hk => row_blk h.o.g k hk
  have hne := fun k hk => row_ne h.o.g hB (by decide) k hk
  refine ⟨_, w', hr, ⟨a, c, by rw [List.length_append]; rfl, h.rd.upd hu (fun hk => hne _ hk rfl) (fun k hk e => by have := (hg k e).1; have := h.m.1; omega), ho, ?_⟩, hu.mono (fun k _ hk => .inr (hg k hk).1), h.m.1, Nat.le_trans h.m.2 hu.size⟩
  exact row_upd h.o.a hu (fun k hk e => row_row_ne h.o.a h.o.g (by decide) k hk e)
theorem Gpost.store {B M : Nat} {W w' : World} {rb : Nat} {l : List Int} {P : En} {e : Ed} {x : Gn} {v' : Value} (h : Gpost B M W w' rb l P e x v') (hm : roomB e = true) :
    ∃ P', Rs B M (w'.setCell ⟨rb, 12, none⟩ v') rb l P' { e with gone := e.gone ++ [x] } ∧ Upd (Fr M rb) W (w'.setCell ⟨rb, 12, none⟩ v') := by
  obtain ⟨⟨a, c, rfl, hr, ho⟩, hu, hm1, hm2⟩ := h
  have hr' := hr
  obtain ⟨a0, c0, hB, _⟩ := hr'
  have hS := hr.set 11 (.slice a (e.gone.length + 1) c)
  have e1 : (edA P e).toList.set 11 (.slice a (e.gone.length + 1) c) = (edA ⟨a, c, P.aa, P.ac⟩ { e with gone := e.gone ++ [x] }).toList := by
    have : (e.gone ++ [x]).length = e.gone.length + 1 := by simp
    show _ = [_, _, _, _, _, _, _, _, _, _, _, Value.slice a (e.gone ++ [x]).length c, _]
    rw [this]; rfl
  rw [e1] at hS
  refine ⟨⟨a, c, P.aa, P.ac⟩, ⟨hS.1, ⟨row_upd ho.g hS.2 (fun k hk e => row_ne ho.g hB (by decide) k hk e), row_upd ho.a hS.2 (fun k hk e => row_ne ho.a hB (by decide) k hk e)⟩, ?_, hm1, Nat.le_trans hm2 hS.2.size⟩, hu.trans (upd_is hr.lt.2 hS.2)⟩
  unfold roomB at hm
  simp at hm ⊢
  omega
/-- The same of a table that is added. -/
structure Apost (B M : Nat) (W w' : World) (rb : Nat) (l : List Int) (P : En) (e : Ed) (x : Ad) (v' : Value) : Prop where
  ex : ∃ a c, v' = .slice a (e.added.length + 1) c ∧ Rdl B w' rb l (edA P e).toList ∧ OwnE w' M ⟨P.ga, P.gc, a, c⟩ { e with added := e.added ++ [x] }
  u : Upd (Fr M rb) W w'
  m : B ≤ M ∧ M ≤ w'.heap.size
theorem Rs.addAdd {B M : Nat} {W : World} {rb : Nat} {l : List Int} {P : En} {e : Ed} (h : Rs B M W rb l P e) {vb : Nat} {x : Ad} (hv : Blk W vb 64 (Ad.c x)) (hm : roomB e = true) (ty : TypeId) :
    ∃ v' w', (Builtin.append_ #[25, 25] ty #[.slice P.aa e.added.length P.ac, .slice (some ⟨vb, 0, none⟩) 1 1]).run Try.prog W = .ok v' w' ∧ Apost B M W w' rb l P e x v' := by
  have hn := h.n
  obtain ⟨v, hB⟩ := h.blk
  obtain ⟨v', w', hr, ho, hu, _, _⟩ := push_g ad_k ad_1 (t := 25) Try.underlying25 info64 rfl (by decide) h.o.a h.size hv ty (by omega) (by unfold maxLen; omega)
  obtain ⟨a, c, rfl⟩ := row_slice ho
  have hg := fun k hk => row_blk h.o.a k hk
  have hne := fun k hk => row_ne h.o.a hB (by decide) k hk
  refine ⟨_, w', hr, ⟨a, c, by rw [List.length_append]; rfl, h.rd.upd hu (fun hk => hne _ hk rfl) (fun k hk e => by have := (hg k e).1; have := h.m.1; omega), ?_, ho⟩, hu.mono (fun k _ hk => .inr (hg k hk).1), h.m.1, Nat.le_trans h.m.2 hu.size⟩
  exact row_upd h.o.g hu (fun k hk e => row_row_ne h.o.g h.o.a (by decide) k hk e)
theorem Apost.store {B M : Nat} {W w' : World} {rb : Nat} {l : List Int} {P : En} {e : Ed} {x : Ad} {v' : Value} (h : Apost B M W w' rb l P e x v') (hm : roomB e = true) :
    ∃ P', Rs B M (w'.setCell ⟨rb, 13, none⟩ v') rb l P' { e with added := e.added ++ [x] } ∧ Upd (Fr M rb) W (w'.setCell ⟨rb, 13, none⟩ v') := by
  obtain ⟨⟨a, c, rfl, hr, ho⟩, hu, hm1, hm2⟩ := h
  have hr' := hr
  obtain ⟨a0, c0, hB, _⟩ := hr'
  have hS := hr.set 12 (.slice a (e.added.length + 1) c)
  have e1 : (edA P e).toList.set 12 (.slice a (e.added.length + 1) c) = (edA ⟨P.ga, P.gc, a, c⟩ { e with added := e.added ++ [x] }).toList := by
    have : (e.added ++ [x]).length = e.added.length + 1 := by simp
    show _ = [_, _, _, _, _, _, _, _, _, _, _, _, Value.slice a (e.added ++ [x]).length c]
    rw [this]; rfl
  rw [e1] at hS
  refine ⟨⟨P.ga, P.gc, a, c⟩, ⟨hS.1, ⟨row_upd ho.g hS.2 (fun k hk e => row_ne ho.g hB (by decide) k hk e), row_upd ho.a hS.2 (fun k hk e => row_ne ho.a hB (by decide) k hk e)⟩, ?_, hm1, Nat.le_trans hm2 hS.2.size⟩, hu.trans (upd_is hr.lt.2 hS.2)⟩
  unfold roomB at hm
  simp at hm ⊢
  omega
end Go.Proofs.Ytkmpcheamdadcaa
