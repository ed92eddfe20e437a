import Derived.Test.YtkdjahgndkdnhaaN
import Derived.Deep.RegionHeldLaw
import Derived.Shelf.Abstract
namespace Go.Proofs.Ytkdjahgndkdnhaa
open Go.RowKit Go.Maps Go.Shelf
set_option linter.unusedVariables false
set_option linter.unusedSimpArgs false
def iz (l : List Int) : List Value := l.map fun (n : Int) => .int .i64 n
/-- The pair: the program's scheduler, the document's, what was told; nothing bad. Its row of what was told lies at N or behind it. -/
structure Pr (W : World) (xb b : Nat) (dv tv : Value) (T : List Int) (N : Nat) : Prop where
  blk : Blk W xb 34 [ptr b, dv, tv, .bool false]
  told : W.ownsRow N 3 1 tv T.length (iz T)
theorem Pr.upd {S : Nat → Prop} {w w' : World} {xb b : Nat} {dv tv : Value} {T : List Int} {N : Nat} (h : Pr w xb b dv tv T N) (u : Upd S w w') (h1 : ¬ S xb) (h2 : ∀ k, tv.ownBlock = some k → ¬ S k) : Pr w' xb b dv tv T N := ⟨h.blk.upd u h1, row_upd h.told u h2⟩
theorem step_call32 {ops : Array Oper} {o : Oper} {a : Act} {w : World} {K : Act → World → Prop} {Q : Exit → Act → World → Prop} {Ex : Prop} (hgd : o.guard = none) {d : Nat} (hd : o.dst = some d) (x y z : Operand) (ts : Array TypeId)
    (ho : o.op = .call { callee := .value (.func 32), args := #[x, y, z], argTypes := ts }) (u v s : Value) (hx : a.eval x = u) (hy : a.eval y = v) (hz : a.eval z = s) {R : Ending → World → Prop} (hc : Calls Try.prog 32 #[u, v, s] w R)
    (h : ∀ e w', R e w' → ∃ r, e = .returned r ∧ K (a.put (some d) r) w') :
    if Region.wanted o (yielded ops a.tmps) = true then Oper.wp Try.prog o a w K Q else Ex := by
  have hw : Region.wanted o (yielded ops a.tmps) = true := by simp [Region.wanted, hgd]
  rw [if_pos hw]
  have he := enters_of (P := Try.prog) Try.func32 (by kernel_rfl) rfl #[u, v, s]
  unfold Oper.wp execOp
  simp only [ho, resolve, invoke, Sem.run_bind, Sem.run_pure, Result.andThen_ok, List.map_toArray, List.map_cons, List.map_nil, hx, hy, hz, go_sem]
  show Oper.upon Try.prog o a K Q (Sem.run Try.prog (callFunc 32 (#[] ++ #[a.eval x, a.eval y, a.eval z] ++ #[])) w)
  rw [show (#[] ++ #[a.eval x, a.eval y, a.eval z] ++ #[] : Array Value) = #[u, v, s] by simp [hx, hy, hz], he, Oper.upon_enter]
  refine hc.mono ?_
  intro e w' hR
  obtain ⟨r, rfl, hk⟩ := h e w' hR
  show K (a.put o.dst r) w'
  rw [hd]
  exact hk
/-- append of one int, at a step of a region that draws its order. -/
theorem step_push {ops : Array Oper} {o : Oper} {a : Act} {w : World} {K : Act → World → Prop} {Q : Exit → Act → World → Prop} {Ex : Prop} (hgd : o.guard = none) {d : Nat} (hd : o.dst = some d) (s x : Operand)
    (ho : o.op = .call { callee := .builtin .append, args := #[s, x], argTypes := #[30, 30] }) {N : Nat} {v : Value} {T : List Int} (hs : a.eval s = v) (hown : w.ownsRow N 3 1 v T.length (iz T)) {B : Nat} (hx : a.eval x = .slice (some ⟨B, 0, none⟩) 1 1) (y : Int) (hc : w.cell? ⟨B, 0, none⟩ = some (.int .i64 y)) (hl : T.length ≤ 1000000000000) (hN : N ≤ w.heap.size)
    (h : ∀ av cv w', w'.ownsRow N 3 1 (.slice av (T.length + 1) cv) (T.length + 1) (iz (T ++ [y])) → w.grownBy w' v.ownBlock → (Value.ownBlock (.slice av (T.length + 1) cv) = v.ownBlock ∨ Value.ownBlock (.slice av (T.length + 1) cv) = some w.heap.size) → K (a.put (some d) (.slice av (T.length + 1) cv)) w') :
    if Region.wanted o (yielded ops a.tmps) = true then Oper.wp Try.prog o a w K Q else Ex := by
  have hw : Region.wanted o (yielded ops a.tmps) = true := by simp [Region.wanted, hgd]
  rw [if_pos hw]
  obtain ⟨i0, hi, hz0, hz1, hz2⟩ := info_parts info3
  obtain ⟨v', w', hr, h2, h3, h4, h5⟩ := run_append_own_at (P := Try.prog) w N 30 o.type 3 i0 (.int .i64 0) 1 8 Try.underlying30 hi hz0 hz1 hz2 rfl (by decide) v T.length (iz T) hown ⟨B, 0, none⟩ 1 1 [.int .i64 y] rfl (by
    intro j u hj
    match j, hj with
    | 0, hj => simp at hj; subst hj; simpa [Addr.add] using hc) (by simp [Value.oneCell']) (by unfold maxLen; omega) (by omega) hN
  have e1 : iz T ++ [Value.int .i64 y] = iz (T ++ [y]) := by simp [iz]
  rw [e1] at h2
  obtain ⟨av, cv, rfl⟩ := row_form h2
  unfold Oper.wp execOp
  simp only [ho, resolve, invoke, builtin, Sem.run_bind, Sem.run_pure, Result.andThen_ok, List.map_toArray, List.map_cons, List.map_nil, hs, hx, hr]
  show K (a.put o.dst _) w'
  rw [hd]
  exact h av cv w' h2 h3 h5
theorem Sc.not_sbr {w : World} {b : Nat} {rv : Value} {m : Nat} {ps : List Nat} {ts : List Tk} {H : Int → Option Int} {st : Nat} {wi : Bool} {c : Nat} (h : Sc w b rv m ps ts H st wi c) {base : Nat} {e : TypeId} {size : Nat} {v : Value} {n : Nat} {xs : List Value} (hr : w.ownsRow base e size v n xs) (h1 : e ≠ 71) (h2 : e ≠ 83) (h3 : e ≠ 85) : ∀ k, v.ownBlock = some k → ¬ SB b rv m ps k := by
  obtain ⟨D, hD⟩ := h.map
  rintro k hk (e' | e' | e' | e')
  · exact row_ne hr h.blk h1 k hk e'
  · exact row_row_ne hr h.row h2 k hk e'
  · exact hD.ner hr k hk e'
  · obtain ⟨i, hi⟩ := List.mem_iff_getElem?.1 e'
    have : i < ts.length := by rw [h.len]; exact (List.getElem?_eq_some_iff.1 hi).1
    exact row_ne hr (h.tks i k _ hi (List.getElem?_eq_getElem this)) h3 k hk rfl
section
variable {w : World} {b : Nat} {rv : Value} {m : Nat} {ps : List Nat} {ts : List Tk} {H : Int → Option Int} {st : Nat} {wi : Bool} {c : Nat} {xb : Nat} {dv tv : Value} {T : List Int} {N : Nat}
set_option maxRecDepth 100000 in
set_option maxHeartbeats 1600000 in
/-- A step's act: Unlock. -/
theorem acts_unlock (h : Sc w b rv m ps ts H st wi c) (hP : Pr w xb b dv tv T N) (hN : N ≤ w.heap.size) (hT : T.length ≤ 1000000) {n : Nat} (hn : n < ps.length) {x : Int} (hx : I64 x) :
    Calls Try.prog 52 #[ptr xb, .int .i64 n, .agg #[.int .i64 0, .int .i64 x]] w fun e w' => e = .returned (.tuple #[]) ∧ Sc w' b rv m ps ts (unH H n x) st wi c ∧ ∃ tv', Pr w' xb b dv tv' (T ++ [unE H n x]) N ∧ Upd (fun k => k = m ∨ k = xb ∨ tv.ownBlock = some k) w w' ∧ (tv'.ownBlock = tv.ownBlock ∨ ∀ k, tv'.ownBlock = some k → w.heap.size ≤ k) := by
  have al := fun (W : World) (o : Obj) => (Below.refl W.heap.size W).alloc (Nat.le_refl _) o
  obtain ⟨WA, hWA⟩ : ∃ WA, WA = w.alloc (.cells #[.int .i64 0, .int .i64 x] 64) := ⟨_, rfl⟩
  have h1 := h.below (al w (.cells #[.int .i64 0, .int .i64 x] 64))
  have hB1 := al w (.cells #[.int .i64 0, .int .i64 x] 64)
  have hD1 := Blk.new w 64 [.int .i64 0, .int .i64 x]
  have hP1 := hP.upd (S := Non) (Upd.ofBelow hB1) (fun h => h) (fun _ _ h => h)
  obtain ⟨ta, tc, htv⟩ := row_form hP.told
  have p0 := hP.blk.cell1 0 _ rfl
  have p2 := hP.blk.cell1 2 _ rfl
  rw [htv] at p2
  have lx := hP.blk.lt
  rw [htv] at hP1
  have hP1' := hP1
  obtain ⟨D, hD⟩ := h1.map
  have nm : ¬ (fun k => k = m) xb := fun e => hD.ne hP1.blk e.symm
  have nt : ∀ k, Value.ownBlock (.slice ta T.length tc) = some k → ¬ (fun k => k = m) k := fun k hk e => hD.ner hP1.told k hk e
  clear hD
  have HU := unlock_any (h1.below ((Below.refl _ _).drew)) hn hx
  go_enter Try.func52, Try.ntmps52
  go_wp2
  go_region_law (first
    | (refine step_push (by rfl) (by rfl) _ _ (by rfl) (by rfl) ((P2.told.alloc _)) (by rfl) (unE H n x) (by simp) (by omega) (by rw [World.size_alloc]; have := g2.size; simp at this; omega) ?_
       intro av cv w3 ho3 hg3 hl3
       have U3 : Upd (fun k => Value.ownBlock (.slice ta T.length tc) = some k) w1 w3 := ((Upd.refl _ w1).alloc _).grown hg3 (fun k hk _ => hk)
       have X3 := P2.blk.upd U3 (fun e => row_ne P2.told P2.blk (by decide) xb e rfl)
       have x2 := X3.cell1 2 _ rfl
       have x3 := X3.frozen 2)
    | (refine step_call32 (by rfl) (by rfl) _ _ _ _ (by rfl) _ _ _ (by rfl) (by rfl) (by rfl) HU ?_
       rintro e w1 ⟨rfl, g1, g2⟩
       refine ⟨_, rfl, ?_⟩
       have P2 : Pr w1 xb b dv (.slice ta T.length tc) T N := hP1'.upd (Upd.then ((Upd.refl (fun k => k = m) _).drew) g2 (fun _ _ h => h)) nm nt
       have q2 := P2.blk.cell1 2 _ rfl
       have lx1 := P2.blk.lt))
  all_goals go_wp2
  all_goals go_end0
  all_goals
    have UX : Upd (fun k => k = xb) w3 (w3.setCell ⟨xb, 2, none⟩ (.slice av (T.length + 1) cv)) := Upd.setCell (p := ⟨xb, 2, none⟩) (Upd.refl (fun k => k = xb) w3) (fun _ => rfl) _
    have S3 := g1.upd U3 (fun k hk e => g1.not_sbr P2.told (by decide) (by decide) (by decide) k e hk)
    have nX : ∀ k, SB b rv m ps k → ¬ (fun k => k = xb) k := fun k hk e => S3.not_sb X3 (by decide) (by decide) (by decide) ((show k = xb from e) ▸ hk)
    have eT : (T ++ [unE H n x]).length = T.length + 1 := by simp
    have R3 := row_upd ho3 UX (fun k hk e => row_ne ho3 X3 (by decide) k hk e)
    refine ⟨rfl, S3.upd UX nX, _, ⟨X3.set 2 _, by rw [eT]; exact R3⟩, ?_, ?_⟩
    · refine Upd.then (Upd.then (Upd.then (((Upd.refl _ w).alloc _).drew) g2 (fun i _ hi => .inl hi)) U3 (fun i _ hi => .inr (.inr (by rw [htv]; exact hi)))) UX (fun i _ hi => .inr (.inl hi))
    · rcases hl3 with e | e
      · exact .inl (by rw [htv]; exact e)
      · refine .inr (fun k hk => ?_)
        rw [e] at hk
        have := g2.size
        simp at hk this
        omega
end
end Go.Proofs.Ytkdjahgndkdnhaa
