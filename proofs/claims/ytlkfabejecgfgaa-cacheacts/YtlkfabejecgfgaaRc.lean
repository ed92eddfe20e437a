/-
  The reference's cache is turned: an item, a row; gone.
-/
import Derived.Test.YtlkfabejecgfgaaRb
import Derived.Deep.RegionHeldLaw
namespace Go.Proofs.Ytlkfabejecgfgaa
open Go.RowKit Go.Maps
set_option linter.unusedVariables false
set_option linter.unusedSimpArgs false
theorem vset_get {vs : List Vw} {i i' : Nat} {v v' : Vw} (hi : vs[i]? = some v) : (vs.set i v')[i']? = if i' = i then some v' else vs[i']? := by
  by_cases c : i' = i
  · subst c; rw [if_pos rfl, List.getElem?_set_self (List.getElem?_eq_some_iff.1 hi).1]
  · rw [if_neg c, List.getElem?_set_ne (Ne.symm c)]
theorem vset_at {vs : List Vw} {i : Nat} {v v' : Vw} (hi : vs[i]? = some v) (a : Nat) : vat_ (vs.set i v') a = if a = i then v' else vat_ vs a := by
  unfold vat_
  simp only [List.getD_eq_getElem?_getD]
  rw [vset_get hi]
  split <;> rfl
section
variable {w : World} {R : Lr} {n room : Nat} {st : Bool} {vs : List Vw} {pv : Value} {P : List (Option (Nat × Nat))}
theorem Rr.congr {b : Nat} {ls ls' : Nat → List Nat} (h : Rr w R b n pv ls) (he : ∀ i, i < n → ls i = ls' i) : Rr w R b n pv ls' := by
  obtain ⟨lc, hB, hl, hc⟩ := h.ex
  exact ⟨lc, hB, hl, fun i hi => by rw [← he i hi]; exact hc i hi⟩
/-- One of the rows is another one. -/
theorem Rr.set {b : Nat} {ls : Nat → List Nat} (h : Rr w R b n pv ls) {i : Nat} (hi : i < n) {u : Value} {l' : List Nat} (hu : RowQ w 0 u (bds R i l')) (hp : ∀ k, u.ownBlock = some k → pv.ownBlock ≠ some k) : Rr (w.setCell ⟨b, i, none⟩ u) R b n pv (fun a => if a = i then l' else ls a) := by
  obtain ⟨lc, hB, hl, hc⟩ := h.ex
  have U : Upd (fun k => k = b) w (w.setCell ⟨b, i, none⟩ u) := Upd.setCell (p := ⟨b, i, none⟩) (Upd.refl (fun k => k = b) w) (fun _ => rfl) _
  refine ⟨lc.set i u, hB.set i u, by simpa using hl, fun a ha => ?_⟩
  by_cases c : a = i
  · subst c
    rw [if_pos rfl]
    exact ⟨u, List.getElem?_set_self (by omega), row_upd hu U (fun k hk => row_ne hu hB (by decide) k hk), hp⟩
  · rw [if_neg c]
    obtain ⟨u', h1, h2, h3⟩ := hc a ha
    exact ⟨u', by rw [List.getElem?_set_ne (Ne.symm c)]; exact h1, row_upd h2 U (fun k hk => row_ne h2 hB (by decide) k hk), h3⟩
/-- An item is turned. -/
theorem Rf.setItem (h : Rf w R n room st vs pv P) {i : Nat} {v : Vw} {j : Nat} {e e' : En} {b' : Bool} {w' : World} (hv : vs[i]? = some v) (he : v.ent[j]? = some e) (hB : Blk w' (R.bd i j) 84 (itC e' b')) (U : Upd (fun k => k = R.bd i j) w w') :
    Rf w' R n room st (vs.set i { v with ent := v.ent.set j e', inn := fset v.inn j b' }) pv P := by
  have hI := h.it i v j e hv he
  have hr : ∀ k u l, RowQ w 0 u l → u.ownBlock = some k → pv.ownBlock ≠ some k → ¬ k = R.bd i j := fun k u l hu hk _ => row_ne hu hI (by decide) k hk
  have lB := h.lr.ex.choose_spec.1
  have wB := h.wr.ex.choose_spec.1
  refine ⟨h.blk.upd U (fun e => h.blk.ne hI (by decide) e), by simpa using h.len, ?_, ?_, h.lw, row_upd h.pr U (fun k hk => row_ne h.pr hI (by decide) k hk), ?_, ?_, ?_⟩
  · refine (h.lr.upd U (fun e => lB.ne hI (by decide) e) hr).congr (fun a _ => ?_)
    rw [vset_at hv]
    split
    · rename_i e; subst e; rw [vws_get hv]
    · rfl
  · refine (h.wr.upd U (fun e => wB.ne hI (by decide) e) hr).congr (fun a _ => ?_)
    rw [vset_at hv]
    split
    · rename_i e; subst e; rw [vws_get hv]
    · rfl
  · intro a y b f hy hf
    rw [vset_get hv] at hy
    by_cases ca : a = i
    · subst ca
      rw [if_pos rfl] at hy
      cases hy
      simp only [] at hf ⊢
      rw [set_get he] at hf
      by_cases cb : b = j
      · subst cb
        rw [if_pos rfl] at hf
        cases hf
        have : fset v.inn b b' b = b' := by unfold fset; rw [if_pos rfl]
        rw [this]; exact hB
      · rw [if_neg cb] at hf
        have : fset v.inn j b' b = v.inn b := by unfold fset; rw [if_neg cb]
        rw [this]
        exact (h.it a v b f hv hf).upd U (fun hh => cb (h.inj a v b a v j hv (lt_of_get hf) hv (lt_of_get he) hh).2)
    · rw [if_neg ca] at hy
      exact (h.it a y b f hy hf).upd U (fun hh => ca (h.inj a y b i v j hy (lt_of_get hf) hv (lt_of_get he) hh).1)
  · intro a y b a' y' b' hy hb hy' hb' hh
    rw [vset_get hv] at hy hy'
    have f1 : ∃ y0, vs[a]? = some y0 ∧ b < y0.ent.length := by
      split at hy
      · rename_i ee; cases hy; subst ee; exact ⟨v, hv, by simpa using hb⟩
      · exact ⟨y, hy, hb⟩
    have f2 : ∃ y0, vs[a']? = some y0 ∧ b' < y0.ent.length := by
      split at hy'
      · rename_i ee; cases hy'; subst ee; exact ⟨v, hv, by simpa using hb'⟩
      · exact ⟨y', hy', hb'⟩
    obtain ⟨y1, h1, h2⟩ := f1
    obtain ⟨y2, h3, h4⟩ := f2
    exact h.inj a y1 b a' y2 b' h1 h2 h3 h4 hh
  · intro a y hy
    rw [vset_get hv] at hy
    split at hy
    · cases hy; simpa using h.llr i v hv
    · exact h.llr a y hy
/-- A shard's list is another one. -/
theorem Rf.setL (h : Rf w R n room st vs pv P) {i : Nat} {v : Vw} (hv : vs[i]? = some v) {u : Value} {l' : List Nat} (hu : RowQ w 0 u (bds R i l')) (hp : ∀ k, u.ownBlock = some k → pv.ownBlock ≠ some k) (hl : ∀ j ∈ l', j < v.ent.length) :
    Rf (w.setCell ⟨R.lb, i, none⟩ u) R n room st (vs.set i { v with ll := l' }) pv P ∧ Upd (fun k => k = R.lb) w (w.setCell ⟨R.lb, i, none⟩ u) := by
  have hi : i < n := by rw [← h.len]; exact (List.getElem?_eq_some_iff.1 hv).1
  have lB := h.lr.ex.choose_spec.1
  have wB := h.wr.ex.choose_spec.1
  have U : Upd (fun k => k = R.lb) w (w.setCell ⟨R.lb, i, none⟩ u) := Upd.setCell (p := ⟨R.lb, i, none⟩) (Upd.refl (fun k => k = R.lb) w) (fun _ => rfl) _
  refine ⟨⟨h.blk.upd U (fun e => h.blk.ne lB (by decide) e), by simpa using h.len, ?_, ?_, h.lw, row_upd h.pr U (fun k hk => row_ne h.pr lB (by decide) k hk), ?_, ?_, ?_⟩, U⟩
  · refine (h.lr.set hi hu hp).congr (fun a _ => ?_)
    rw [vset_at hv]
    split <;> rfl
  · refine (h.wr.upd U (fun e => h.lw e.symm) (fun k u l hu hk _ => row_ne hu lB (by decide) k hk)).congr (fun a _ => ?_)
    rw [vset_at hv]
    split
    · rename_i e; subst e; rw [vws_get hv]
    · rfl
  · intro a y b f hy hf
    have f1 : ∃ y0, vs[a]? = some y0 ∧ y0.ent = y.ent ∧ y0.inn = y.inn := by
      rw [vset_get hv] at hy
      split at hy
      · rename_i ee; cases hy; subst ee; exact ⟨v, hv, rfl, rfl⟩
      · exact ⟨y, hy, rfl, rfl⟩
    obtain ⟨y0, h1, h2, h3⟩ := f1
    have := h.it a y0 b f h1 (by rw [h2]; exact hf)
    rw [h3] at this
    exact this.upd U (fun e => this.ne lB (by decide) e)
  · intro a y b a' y' b' hy hb hy' hb' hh
    rw [vset_get hv] at hy hy'
    have f1 : ∃ y0, vs[a]? = some y0 ∧ b < y0.ent.length := by
      split at hy
      · rename_i ee; cases hy; subst ee; exact ⟨v, hv, hb⟩
      · exact ⟨y, hy, hb⟩
    have f2 : ∃ y0, vs[a']? = some y0 ∧ b' < y0.ent.length := by
      split at hy'
      · rename_i ee; cases hy'; subst ee; exact ⟨v, hv, hb'⟩
      · exact ⟨y', hy', hb'⟩
    obtain ⟨y1, h1, h2⟩ := f1
    obtain ⟨y2, h3, h4⟩ := f2
    exact h.inj a y1 b a' y2 b' h1 h2 h3 h4 hh
  · intro a y hy
    rw [vset_get hv] at hy
    split at hy
    · cases hy; exact ⟨hl, (h.llr i v hv).2⟩
    · exact h.llr a y hy
theorem Rf.setW (h : Rf w R n room st vs pv P) {i : Nat} {v : Vw} (hv : vs[i]? = some v) {u : Value} {l' : List Nat} (hu : RowQ w 0 u (bds R i l')) (hp : ∀ k, u.ownBlock = some k → pv.ownBlock ≠ some k) (hl : ∀ j ∈ l', j < v.ent.length) :
    Rf (w.setCell ⟨R.wb, i, none⟩ u) R n room st (vs.set i { v with wl := l' }) pv P ∧ Upd (fun k => k = R.wb) w (w.setCell ⟨R.wb, i, none⟩ u) := by
  have hi : i < n := by rw [← h.len]; exact (List.getElem?_eq_some_iff.1 hv).1
  have lB := h.lr.ex.choose_spec.1
  have wB := h.wr.ex.choose_spec.1
  have U : Upd (fun k => k = R.wb) w (w.setCell ⟨R.wb, i, none⟩ u) := Upd.setCell (p := ⟨R.wb, i, none⟩) (Upd.refl (fun k => k = R.wb) w) (fun _ => rfl) _
  refine ⟨⟨h.blk.upd U (fun e => h.blk.ne wB (by decide) e), by simpa using h.len, ?_, ?_, h.lw, row_upd h.pr U (fun k hk => row_ne h.pr wB (by decide) k hk), ?_, ?_, ?_⟩, U⟩
  · refine (h.lr.upd U (fun e => h.lw e) (fun k u l hu hk _ => row_ne hu wB (by decide) k hk)).congr (fun a _ => ?_)
    rw [vset_at hv]
    split
    · rename_i e; subst e; rw [vws_get hv]
    · rfl
  · refine (h.wr.set hi hu hp).congr (fun a _ => ?_)
    rw [vset_at hv]
    split <;> rfl
  · intro a y b f hy hf
    have f1 : ∃ y0, vs[a]? = some y0 ∧ y0.ent = y.ent ∧ y0.inn = y.inn := by
      rw [vset_get hv] at hy
      split at hy
      · rename_i ee; cases hy; subst ee; exact ⟨v, hv, rfl, rfl⟩
      · exact ⟨y, hy, rfl, rfl⟩
    obtain ⟨y0, h1, h2, h3⟩ := f1
    have := h.it a y0 b f h1 (by rw [h2]; exact hf)
    rw [h3] at this
    exact this.upd U (fun e => this.ne wB (by decide) e)
  · intro a y b a' y' b' hy hb hy' hb' hh
    rw [vset_get hv] at hy hy'
    have f1 : ∃ y0, vs[a]? = some y0 ∧ b < y0.ent.length := by
      split at hy
      · rename_i ee; cases hy; subst ee; exact ⟨v, hv, hb⟩
      · exact ⟨y, hy, hb⟩
    have f2 : ∃ y0, vs[a']? = some y0 ∧ b' < y0.ent.length := by
      split at hy'
      · rename_i ee; cases hy'; subst ee; exact ⟨v, hv, hb'⟩
      · exact ⟨y', hy', hb'⟩
    obtain ⟨y1, h1, h2⟩ := f1
    obtain ⟨y2, h3, h4⟩ := f2
    exact h.inj a y1 b a' y2 b' h1 h2 h3 h4 hh
  · intro a y hy
    rw [vset_get hv] at hy
    split at hy
    · cases hy; exact ⟨(h.llr i v hv).1, hl⟩
    · exact h.llr a y hy
/-- Without one, as places. -/
def woN (l : List Nat) (j : Nat) : List Nat := l.filter (fun a => decide (a ≠ j))
theorem bds_wo (h : Rf w R n room st vs pv P) {i : Nat} {v : Vw} (hv : vs[i]? = some v) {l : List Nat} (hl : ∀ a ∈ l, a < v.ent.length) {j : Nat} (hj : j < v.ent.length) : wo (bds R i l) (R.bd i j) = bds R i (woN l j) := by
  induction l with
  | nil => rfl
  | cons a r ih =>
    have ih' := ih (fun b hb => hl b (List.mem_cons_of_mem _ hb))
    unfold wo bds woN at *
    simp only [List.map_cons, List.filter_cons]
    by_cases c : a = j
    · subst c; simpa using ih'
    · have hne : R.bd i a ≠ R.bd i j := fun e => c (h.inj i v a i v j hv (hl a List.mem_cons_self) hv hj e).2
      simp only [ne_eq, Option.some.injEq, hne, not_false_eq_true, decide_true, if_true, c]
      rw [List.map_cons]
      exact congrArg _ ih'
theorem ent_same {l : List En} {j : Nat} {e : En} (h : l[j]? = some e) : l.set j e = l := by
  obtain ⟨h1, h2⟩ := List.getElem?_eq_some_iff.1 h
  subst h2
  simp
theorem fresh_ne {w0 w : World} {u pv : Value} {lu : List (Option Nat)} {l : List (Option Nat)} (hu : RowQ w w0.heap.size u lu) (hp : RowQ w0 0 pv l) : ∀ k, u.ownBlock = some k → pv.ownBlock ≠ some k := fun k hk hk' => by
  have h1 := (row_blk hu k hk).1
  have h2 := (row_blk hp k hk').2
  omega
theorem rowq_base {w : World} {b : Nat} {u : Value} {l : List (Option Nat)} (h : RowQ w b u l) : RowQ w 0 u l := by
  refine ⟨h.1, ?_⟩
  rcases h.2 with hn | ⟨g, cap, cur, e, hb, rest⟩
  · exact .inl hn
  · exact .inr ⟨g, cap, cur, e, Nat.zero_le _, rest⟩
theorem step_call62 {ops : Array Oper} {o : Oper} {a : Act} {w : World} {K : Act → World → Prop} {Q : Exit → Act → World → Prop} {Ex : Prop} (hgd : o.guard = none) {d : Nat} (hd : o.dst = some d) (x y : Operand) (ts : Array TypeId)
    (ho : o.op = .call { callee := .value (.func 62), args := #[x, y], argTypes := ts }) (u v : Value) (hx : a.eval x = u) (hy : a.eval y = v) {R : Ending → World → Prop} (hc : Calls Try.prog 62 #[u, v] w R)
    (h : ∀ e w', R e w' → ∃ r, e = .returned r ∧ K (a.put (some d) r) w') :
    if Region.wanted o (yielded ops a.tmps) = true then Oper.wp Try.prog o a w K Q else Ex := by
  have hw : Region.wanted o (yielded ops a.tmps) = true := by simp [Region.wanted, hgd]
  rw [if_pos hw]
  have he := enters_of (P := Try.prog) Try.func62 (by kernel_rfl) rfl #[u, v]
  unfold Oper.wp execOp
  simp only [ho, resolve, invoke, Sem.run_bind, Sem.run_pure, Result.andThen_ok, List.map_toArray, List.map_cons, List.map_nil, hx, hy, go_sem]
  show Oper.upon Try.prog o a K Q (Sem.run Try.prog (callFunc 62 (#[] ++ #[a.eval x, a.eval y] ++ #[])) w)
  rw [show (#[] ++ #[a.eval x, a.eval y] ++ #[] : Array Value) = #[u, v] by simp [hx, hy], he, Oper.upon_enter]
  refine hc.mono ?_
  intro e w' hR
  obtain ⟨r, rfl, hk⟩ := h e w' hR
  show K (a.put o.dst r) w'
  rw [hd]
  exact hk
set_option maxRecDepth 100000 in
set_option maxHeartbeats 4000000 in
theorem gone_any (h : Rf w R n room st vs pv P) {i : Nat} {v : Vw} {j : Nat} {e : En} (hv : vs[i]? = some v) (he : v.ent[j]? = some e) (hn : n ≤ 64) (h1 : v.ll.length ≤ 4000000000000) (h2 : v.wl.length ≤ 4000000000000) :
    Calls Try.prog 64 #[.pointer (some ⟨R.cb, 0, none⟩), .int .i64 i, .pointer (some ⟨R.bd i j, 0, none⟩)] w fun r w' => r = .returned (.tuple #[]) ∧
      Rf w' R n room st (vs.set i { v with inn := fset v.inn j false, ll := woN v.ll j, wl := woN v.wl j }) pv P ∧ Upd (Rb R vs pv) w w' := by
  have hi : i < n := by rw [← h.len]; exact (List.getElem?_eq_some_iff.1 hv).1
  have hjl := lt_of_get he
  have hI := h.it i v j e hv he
  have q3 := hI.cell1 3 _ rfl
  have z3 := hI.frozen 3
  obtain ⟨w1, hw1⟩ : ∃ W, w.setCell ⟨R.bd i j, 3, none⟩ (.bool false) = W := ⟨_, rfl⟩
  have U1 : Upd (fun k => k = R.bd i j) w w1 := by rw [← hw1]; exact Upd.setCell (p := ⟨R.bd i j, 3, none⟩) (Upd.refl (fun k => k = R.bd i j) w) (fun _ => rfl) _
  have I1 : Blk w1 (R.bd i j) 84 (itC e false) := by rw [← hw1]; exact hI.set 3 _
  have F1 := h.setItem hv he I1 U1
  rw [ent_same he] at F1
  have hv1 : (vs.set i { v with inn := fset v.inn j false })[i]? = some { v with inn := fset v.inn j false } := by rw [vset_get hv, if_pos rfl]
  -- at whatever world with new blocks
  obtain ⟨lc, lB, ll, lcc⟩ := F1.lr.ex
  obtain ⟨uL, huL, rL, _⟩ := lcc i hi
  obtain ⟨wc, wB, wl, wcc⟩ := F1.wr.ex
  obtain ⟨uW, huW, rW, _⟩ := wcc i hi
  rw [vws_get hv1] at rL rW
  have HL : ∀ W, Upd Non w1 W → Calls Try.prog 62 #[uL, .pointer (some ⟨R.bd i j, 0, none⟩)] W fun r w' => ∃ v', r = .returned v' ∧ RowQ w' W.heap.size v' (bds R i (woN v.ll j)) ∧ Upd Non W w' := fun W hW => by
    have := without_any (row_upd rL hW (fun _ _ e => e)) (I1.upd hW (fun e => e)) (fun o ho => by
      obtain ⟨a, ha, rfl⟩ := List.mem_map.1 ho
      have hal := (F1.llr i _ hv1).1 a ha
      exact ⟨_, _, rfl, (F1.it i _ a _ hv1 (List.getElem?_eq_getElem hal)).upd hW (fun e => e)⟩) (by unfold bds; simpa using h1)
    rw [bds_wo F1 hv1 (F1.llr i _ hv1).1 hjl] at this
    exact this
  have HW : ∀ W, Upd Non w1 W → Calls Try.prog 62 #[uW, .pointer (some ⟨R.bd i j, 0, none⟩)] W fun r w' => ∃ v', r = .returned v' ∧ RowQ w' W.heap.size v' (bds R i (woN v.wl j)) ∧ Upd Non W w' := fun W hW => by
    have := without_any (row_upd rW hW (fun _ _ e => e)) (I1.upd hW (fun e => e)) (fun o ho => by
      obtain ⟨a, ha, rfl⟩ := List.mem_map.1 ho
      have hal := (F1.llr i _ hv1).2 a ha
      exact ⟨_, _, rfl, (F1.it i _ a _ hv1 (List.getElem?_eq_getElem hal)).upd hW (fun e => e)⟩) (by unfold bds; simpa using h2)
    rw [bds_wo F1 hv1 (F1.llr i _ hv1).2 hjl] at this
    exact this
  -- the end
  have FIN : ∀ (W : World) (vL vW : Value) (bL bW : Nat), Upd Non w1 W → RowQ W bL vL (bds R i (woN v.ll j)) → RowQ W bW vW (bds R i (woN v.wl j)) → w1.heap.size ≤ bL → w1.heap.size ≤ bW →
      Rf ((W.setCell ⟨R.lb, i, none⟩ vL).setCell ⟨R.wb, i, none⟩ vW) R n room st (vs.set i { v with inn := fset v.inn j false, ll := woN v.ll j, wl := woN v.wl j }) pv P ∧ Upd (Rb R vs pv) w ((W.setCell ⟨R.lb, i, none⟩ vL).setCell ⟨R.wb, i, none⟩ vW) := by
    intro W vL vW bL bW hW hL hWr hbL hbW
    have FW := F1.grow hW
    have p1 : ∀ k, vL.ownBlock = some k → pv.ownBlock ≠ some k := fun k hk hk' => by
      have a1 := (row_blk hL k hk).1
      have a2 := (row_blk F1.pr k hk').2
      omega
    have p2 : ∀ k, vW.ownBlock = some k → pv.ownBlock ≠ some k := fun k hk hk' => by
      have a1 := (row_blk hWr k hk).1
      have a2 := (row_blk F1.pr k hk').2
      omega
    obtain ⟨F2, U2⟩ := FW.setL hv1 (rowq_base hL) p1 (fun a ha => (F1.llr i _ hv1).1 a ((List.mem_filter.1 ha).1))
    have hv2 : ((vs.set i { v with inn := fset v.inn j false }).set i { v with inn := fset v.inn j false, ll := woN v.ll j })[i]? = some { v with inn := fset v.inn j false, ll := woN v.ll j } := by rw [vset_get hv1, if_pos rfl]
    have lBW := FW.lr.ex.choose_spec.1
    obtain ⟨F3, U3⟩ := F2.setW hv2 (row_upd (rowq_base hWr) U2 (fun k hk => row_ne hWr lBW (by decide) k hk)) p2 (fun a ha => (F1.llr i _ hv1).2 a ((List.mem_filter.1 ha).1))
    rw [List.set_set, List.set_set] at F3
    refine ⟨F3, ?_⟩
    refine (U1.mono (fun k _ hk => .inr (.inr (.inr (.inr ⟨i, v, j, hv, hjl, hk⟩))))).trans ((hW.mono (fun k _ hk => hk.elim)).trans ((U2.mono (fun k _ hk => .inr (.inl hk))).trans (U3.mono (fun k _ hk => .inr (.inr (.inl hk))))))
  have c3 := F1.blk.cell1 3 _ rfl
  have c4 := F1.blk.cell1 4 _ rfl
  have cl := lB.cell1 i _ huL
  have cw := wB.cell1 i _ huW
  have zl := lB.frozen i
  have zw := wB.frozen i
  have hlw := h.lw
  have hlw' := Ne.symm h.lw
  have hi' : (i : Int) < n := by omega
  have KB : Hid (∀ W, Upd Non w1 W → Blk W R.lb 68 lc ∧ Blk W R.wb 68 wc ∧ Blk W R.cb 70 (rfC R n room st pv)) := fun W hW => ⟨lB.upd hW (fun e => e), wB.upd hW (fun e => e), F1.blk.upd hW (fun e => e)⟩
  have FIN' : Hid _ := FIN
  obtain ⟨la, lcp, hla⟩ := rowq_len rL
  obtain ⟨wa, wcp, hwa⟩ := rowq_len rW
  obtain ⟨nL, hnL⟩ : ∃ x, (bds R i v.ll).length = x := ⟨_, rfl⟩
  obtain ⟨nW, hnW⟩ : ∃ x, (bds R i v.wl).length = x := ⟨_, rfl⟩
  simp only [] at hla hwa
  rw [hnL] at hla
  rw [hnW] at hwa
  subst hla hwa
  clear FIN rL rW I1 F1 hI lB wB lcc wcc hnL hnW
  go_enter Try.func64, Try.ntmps64
  go_wp2_with fail
  have hU0 : Upd Non w1 w1.drew := (Upd.refl Non w1).drew
  clear hw1 q3 z3
  refine wp_region_held_drew (S := fun W => W.cell? ⟨R.cb, 3, none⟩ = some (.slice (some ⟨R.lb, 0, none⟩) n n) ∧ W.cell? ⟨R.cb, 4, none⟩ = some (.slice (some ⟨R.wb, 0, none⟩) n n)) (by kernel_rfl) ?_ (fun hHeld => ?_)
  · (try dsimp only); exact ⟨by go_keep, by go_keep⟩
  refine wpAnyH_take (i := 0) (v := ?_) (by simp only [List.getElem?_toArray, List.getElem?_cons_zero, List.getElem?_cons_succ]; rfl) (by kernel_rfl) (by kernel_rfl) (by kernel_rfl) (by intro _ _ _ h; exact h) (Or.inl ⟨by rfl, ?_⟩) (by assumption) ?_
  rotate_left
  · intro w hSw; (try dsimp only at hSw); go_simp; (try with_reducible rfl)
  (try simp only [Act.put, List.setIfInBounds_toArray, List.set_cons_zero, List.set_cons_succ])
  refine wpAnyH_take (i := 1) (v := ?_) (by simp only [List.getElem?_toArray, List.getElem?_cons_zero, List.getElem?_cons_succ]; rfl) (by kernel_rfl) (by kernel_rfl) (by kernel_rfl) (by intro _ _ _ h; exact h) (Or.inl ⟨by rfl, ?_⟩) (by assumption) ?_
  rotate_left
  · intro w hSw; (try dsimp only at hSw); go_simp; (try with_reducible rfl)
  (try simp only [Act.put, List.setIfInBounds_toArray, List.set_cons_zero, List.set_cons_succ])
  refine wpAnyH_take (i := 2) (v := ?_) (by simp only [List.getElem?_toArray, List.getElem?_cons_zero, List.getElem?_cons_succ]; rfl) (by kernel_rfl) (by kernel_rfl) (by kernel_rfl) (by intro _ _ _ h; exact h) (Or.inl ⟨by rfl, ?_⟩) (by assumption) ?_
  rotate_left
  · intro w hSw; (try dsimp only at hSw); go_simp; (try with_reducible rfl)
  (try simp only [Act.put, List.setIfInBounds_toArray, List.set_cons_zero, List.set_cons_succ])
  refine wpAnyH_take (i := 3) (v := ?_) (by simp only [List.getElem?_toArray, List.getElem?_cons_zero, List.getElem?_cons_succ]; rfl) (by kernel_rfl) (by kernel_rfl) (by kernel_rfl) (by intro _ _ _ h; exact h) (Or.inl ⟨by rfl, ?_⟩) (by assumption) ?_
  rotate_left
  · intro w hSw; (try dsimp only at hSw); go_simp; (try with_reducible rfl)
  (try simp only [Act.put, List.setIfInBounds_toArray, List.set_cons_zero, List.set_cons_succ])
  refine wpAnyH_take (i := 4) (v := ?_) (by simp only [List.getElem?_toArray, List.getElem?_cons_zero, List.getElem?_cons_succ]; rfl) (by kernel_rfl) (by kernel_rfl) (by kernel_rfl) (by intro _ _ _ h; exact h) (Or.inl ⟨by rfl, ?_⟩) (by assumption) ?_
  rotate_left
  · intro w hSw; (try dsimp only at hSw); go_simp; (try with_reducible rfl)
  (try simp only [Act.put, List.setIfInBounds_toArray, List.set_cons_zero, List.set_cons_succ])
  refine wpAnyH_take (i := 5) (v := ?_) (by simp only [List.getElem?_toArray, List.getElem?_cons_zero, List.getElem?_cons_succ]; rfl) (by kernel_rfl) (by kernel_rfl) (by kernel_rfl) (by intro _ _ _ h; exact h) (Or.inl ⟨by rfl, ?_⟩) (by assumption) ?_
  rotate_left
  · intro w hSw; (try dsimp only at hSw); go_simp; (try with_reducible rfl)
  (try simp only [Act.put, List.setIfInBounds_toArray, List.set_cons_zero, List.set_cons_succ])
  refine wpAnyH_take (i := 6) (v := ?_) (by simp only [List.getElem?_toArray, List.getElem?_cons_zero, List.getElem?_cons_succ]; rfl) (by kernel_rfl) (by kernel_rfl) (by kernel_rfl) (by intro _ _ _ h; exact h) (Or.inl ⟨by rfl, ?_⟩) (by assumption) ?_
  rotate_left
  · intro w hSw; (try dsimp only at hSw); go_simp; (try with_reducible rfl)
  (try simp only [Act.put, List.setIfInBounds_toArray, List.set_cons_zero, List.set_cons_succ])
  refine wpAnyH_take (i := 7) (v := ?_) (by simp only [List.getElem?_toArray, List.getElem?_cons_zero, List.getElem?_cons_succ]; rfl) (by kernel_rfl) (by kernel_rfl) (by kernel_rfl) (by intro _ _ _ h; exact h) (Or.inl ⟨by rfl, ?_⟩) (by assumption) ?_
  rotate_left
  · intro w hSw; (try dsimp only at hSw); go_simp; (try with_reducible rfl)
  (try simp only [Act.put, List.setIfInBounds_toArray, List.set_cons_zero, List.set_cons_succ])
  refine wpAnyH_take (i := 8) (v := ?_) (by simp only [List.getElem?_toArray, List.getElem?_cons_zero, List.getElem?_cons_succ]; rfl) (by kernel_rfl) (by kernel_rfl) (by kernel_rfl) (by intro _ _ _ h; exact h) (Or.inl ⟨by rfl, ?_⟩) (by assumption) ?_
  rotate_left
  · intro w hSw; (try dsimp only at hSw); go_simp; (try with_reducible rfl)
  (try simp only [Act.put, List.setIfInBounds_toArray, List.set_cons_zero, List.set_cons_succ])
  refine wpAnyH_take (i := 9) (v := ?_) (by simp only [List.getElem?_toArray, List.getElem?_cons_zero, List.getElem?_cons_succ]; rfl) (by kernel_rfl) (by kernel_rfl) (by kernel_rfl) (by intro _ _ _ h; exact h) (Or.inl ⟨by rfl, ?_⟩) (by assumption) ?_
  rotate_left
  · intro w hSw; (try dsimp only at hSw); go_simp; (try with_reducible rfl)
  (try simp only [Act.put, List.setIfInBounds_toArray, List.set_cons_zero, List.set_cons_succ])
  refine wpAnyH_take (i := 10) (v := ?_) (by simp only [List.getElem?_toArray, List.getElem?_cons_zero, List.getElem?_cons_succ]; rfl) (by kernel_rfl) (by kernel_rfl) (by kernel_rfl) (by intro _ _ _ h; exact h) (Or.inl ⟨by rfl, ?_⟩) (by assumption) ?_
  rotate_left
  · intro w hSw; (try dsimp only at hSw); go_simp; (try with_reducible rfl)
  (try simp only [Act.put, List.setIfInBounds_toArray, List.set_cons_zero, List.set_cons_succ])
  refine wpAnyH_take (i := 11) (v := ?_) (by simp only [List.getElem?_toArray, List.getElem?_cons_zero, List.getElem?_cons_succ]; rfl) (by kernel_rfl) (by kernel_rfl) (by kernel_rfl) (by intro _ _ _ h; exact h) (Or.inl ⟨by rfl, ?_⟩) (by assumption) ?_
  rotate_left
  · intro w hSw; (try dsimp only at hSw); go_simp; (try with_reducible rfl)
  (try simp only [Act.put, List.setIfInBounds_toArray, List.set_cons_zero, List.set_cons_succ])
  refine wpAnyH_take (i := 12) (v := ?_) (by simp only [List.getElem?_toArray, List.getElem?_cons_zero, List.getElem?_cons_succ]; rfl) (by kernel_rfl) (by kernel_rfl) (by kernel_rfl) (by intro _ _ _ h; exact h) (Or.inl ⟨by rfl, ?_⟩) (by assumption) ?_
  rotate_left
  · intro w hSw; (try dsimp only at hSw); go_simp; (try with_reducible rfl)
  (try simp only [Act.put, List.setIfInBounds_toArray, List.set_cons_zero, List.set_cons_succ])
  refine wpAnyH_take (i := 13) (v := ?_) (by simp only [List.getElem?_toArray, List.getElem?_cons_zero, List.getElem?_cons_succ]; rfl) (by kernel_rfl) (by kernel_rfl) (by kernel_rfl) (by intro _ _ _ h; exact h) (Or.inl ⟨by rfl, ?_⟩) (by assumption) ?_
  rotate_left
  · intro w hSw; (try dsimp only at hSw); go_simp; (try with_reducible rfl)
  (try simp only [Act.put, List.setIfInBounds_toArray, List.set_cons_zero, List.set_cons_succ])
  refine wpAnyH_take (i := 14) (v := ?_) (by simp only [List.getElem?_toArray, List.getElem?_cons_zero, List.getElem?_cons_succ]; rfl) (by kernel_rfl) (by kernel_rfl) (by kernel_rfl) (by intro _ _ _ h; exact h) (Or.inl ⟨by rfl, ?_⟩) (by assumption) ?_
  rotate_left
  · intro w hSw; (try dsimp only at hSw); go_simp; (try with_reducible rfl)
  (try simp only [Act.put, List.setIfInBounds_toArray, List.set_cons_zero, List.set_cons_succ])
  refine wpAnyH_take (i := 15) (v := ?_) (by simp only [List.getElem?_toArray, List.getElem?_cons_zero, List.getElem?_cons_succ]; rfl) (by kernel_rfl) (by kernel_rfl) (by kernel_rfl) (by intro _ _ _ h; exact h) (Or.inl ⟨by rfl, ?_⟩) (by assumption) ?_
  rotate_left
  · intro w hSw; (try dsimp only at hSw); go_simp; (try with_reducible rfl)
  (try simp only [Act.put, List.setIfInBounds_toArray, List.set_cons_zero, List.set_cons_succ])
  refine wpAnyH_take (i := 17) (v := ?_) (by simp only [List.getElem?_toArray, List.getElem?_cons_zero, List.getElem?_cons_succ]; rfl) (by kernel_rfl) (by kernel_rfl) (by kernel_rfl) (by intro _ _ _ h; exact h) (Or.inl ⟨by rfl, ?_⟩) (by assumption) ?_
  rotate_left
  · intro w hSw; (try dsimp only at hSw); go_simp; (try with_reducible rfl)
  (try simp only [Act.put, List.setIfInBounds_toArray, List.set_cons_zero, List.set_cons_succ])
  refine wpAnyH_take (i := 19) (v := ?_) (by simp only [List.getElem?_toArray, List.getElem?_cons_zero, List.getElem?_cons_succ]; rfl) (by kernel_rfl) (by kernel_rfl) (by kernel_rfl) (by intro _ _ _ h; exact h) (Or.inl ⟨by rfl, ?_⟩) (by assumption) ?_
  rotate_left
  · intro w hSw; (try dsimp only at hSw); go_simp; (try with_reducible rfl)
  (try simp only [Act.put, List.setIfInBounds_toArray, List.set_cons_zero, List.set_cons_succ])
  refine wpAnyH_take (i := 20) (v := ?_) (by simp only [List.getElem?_toArray, List.getElem?_cons_zero, List.getElem?_cons_succ]; rfl) (by kernel_rfl) (by kernel_rfl) (by kernel_rfl) (by intro _ _ _ h; exact h) (Or.inl ⟨by rfl, ?_⟩) (by assumption) ?_
  rotate_left
  · intro w hSw; (try dsimp only at hSw); go_simp; (try with_reducible rfl)
  (try simp only [Act.put, List.setIfInBounds_toArray, List.set_cons_zero, List.set_cons_succ])
  refine wpAnyH_take (i := 21) (v := ?_) (by simp only [List.getElem?_toArray, List.getElem?_cons_zero, List.getElem?_cons_succ]; rfl) (by kernel_rfl) (by kernel_rfl) (by kernel_rfl) (by intro _ _ _ h; exact h) (Or.inl ⟨by rfl, ?_⟩) (by assumption) ?_
  rotate_left
  · intro w hSw; (try dsimp only at hSw); go_simp; (try with_reducible rfl)
  (try simp only [Act.put, List.setIfInBounds_toArray, List.set_cons_zero, List.set_cons_succ])
  refine wpAnyH_take (i := 22) (v := ?_) (by simp only [List.getElem?_toArray, List.getElem?_cons_zero, List.getElem?_cons_succ]; rfl) (by kernel_rfl) (by kernel_rfl) (by kernel_rfl) (by intro _ _ _ h; exact h) (Or.inl ⟨by rfl, ?_⟩) (by assumption) ?_
  rotate_left
  · intro w hSw; (try dsimp only at hSw); go_simp; (try with_reducible rfl)
  (try simp only [Act.put, List.setIfInBounds_toArray, List.set_cons_zero, List.set_cons_succ])
  refine wpAnyH_take (i := 23) (v := ?_) (by simp only [List.getElem?_toArray, List.getElem?_cons_zero, List.getElem?_cons_succ]; rfl) (by kernel_rfl) (by kernel_rfl) (by kernel_rfl) (by intro _ _ _ h; exact h) (Or.inl ⟨by rfl, ?_⟩) (by assumption) ?_
  rotate_left
  · intro w hSw; (try dsimp only at hSw); go_simp; (try with_reducible rfl)
  (try simp only [Act.put, List.setIfInBounds_toArray, List.set_cons_zero, List.set_cons_succ])
  refine wpAnyH_take (i := 24) (v := ?_) (by simp only [List.getElem?_toArray, List.getElem?_cons_zero, List.getElem?_cons_succ]; rfl) (by kernel_rfl) (by kernel_rfl) (by kernel_rfl) (by intro _ _ _ h; exact h) (Or.inl ⟨by rfl, ?_⟩) (by assumption) ?_
  rotate_left
  · intro w hSw; (try dsimp only at hSw); go_simp; (try with_reducible rfl)
  (try simp only [Act.put, List.setIfInBounds_toArray, List.set_cons_zero, List.set_cons_succ])
  refine wpAnyH_take (i := 26) (v := ?_) (by simp only [List.getElem?_toArray, List.getElem?_cons_zero, List.getElem?_cons_succ]; rfl) (by kernel_rfl) (by kernel_rfl) (by kernel_rfl) (by intro _ _ _ h; exact h) (Or.inl ⟨by rfl, ?_⟩) (by assumption) ?_
  rotate_left
  · intro w hSw; (try dsimp only at hSw); go_simp; (try with_reducible rfl)
  (try simp only [Act.put, List.setIfInBounds_toArray, List.set_cons_zero, List.set_cons_succ])
  refine wpAnyH_ready (rs := [16, 25]) (by kernel_rfl) (by simp) ?_
  refine AllReadyH.cons rfl (fun K hK => ?_) ?_
  · have cl9 := (KB.out _ hU0).1.cell1 i _ huL
    go_simp
    refine hK.out _ _ ⟨(KB.out _ hU0).2.2.cell1 3 _ rfl, (KB.out _ hU0).2.2.cell1 4 _ rfl⟩ (fun hHeld => ?_)
    clear cl9
    clear hK K
    (try simp only [Act.put, List.setIfInBounds_toArray, List.set_cons_zero, List.set_cons_succ])
    refine wpAnyH_ready (rs := [18, 25]) (by kernel_rfl) (by simp) ?_
    refine AllReadyH.cons rfl (fun K hK => ?_) ?_
    · refine step_call62 (by rfl) (by rfl) _ _ _ (by rfl) _ _ (by rfl) (by rfl) (HL _ hU0) ?_
      rintro e wL ⟨vL, rfl, hRL, hUL⟩
      obtain ⟨xa, xc, hx9⟩ := rowq_len hRL
      obtain ⟨xn, hxn⟩ : ∃ x, (bds R i (woN v.ll j)).length = x := ⟨_, rfl⟩
      rw [hxn] at hx9
      subst hx9
      refine ⟨_, rfl, ?_⟩
      refine hK.out _ _ ⟨(KB.out _ (hU0.trans hUL)).2.2.cell1 3 _ rfl, (KB.out _ (hU0.trans hUL)).2.2.cell1 4 _ rfl⟩ (fun hHeld => ?_)
      clear hK K
      (try simp only [Act.put, List.setIfInBounds_toArray, List.set_cons_zero, List.set_cons_succ])
      refine wpAnyH_ready (rs := [25]) (by kernel_rfl) (by simp) ?_
      refine AllReadyH.cons rfl (fun K hK => ?_) ?_
      · have cw9 := (KB.out _ (hU0.trans hUL)).2.1.cell1 i _ huW
        go_simp
        refine hK.out _ _ ⟨(KB.out _ (hU0.trans hUL)).2.2.cell1 3 _ rfl, (KB.out _ (hU0.trans hUL)).2.2.cell1 4 _ rfl⟩ (fun hHeld => ?_)
        clear cw9
        clear hK K
        (try simp only [Act.put, List.setIfInBounds_toArray, List.set_cons_zero, List.set_cons_succ])
        refine wpAnyH_ready (rs := [27]) (by kernel_rfl) (by simp) ?_
        refine AllReadyH.cons rfl (fun K hK => ?_) ?_
        · refine step_call62 (by rfl) (by rfl) _ _ _ (by rfl) _ _ (by rfl) (by rfl) (HW _ (hU0.trans hUL)) ?_
          rintro e wW ⟨vW, rfl, hRW, hUW⟩
          obtain ⟨ya, yc, hy9⟩ := rowq_len hRW
          obtain ⟨yn, hyn⟩ : ∃ x, (bds R i (woN v.wl j)).length = x := ⟨_, rfl⟩
          rw [hyn] at hy9
          subst hy9
          refine ⟨_, rfl, ?_⟩
          refine hK.out _ _ ⟨(KB.out _ ((hU0.trans hUL).trans hUW)).2.2.cell1 3 _ rfl, (KB.out _ ((hU0.trans hUL).trans hUW)).2.2.cell1 4 _ rfl⟩ (fun hHeld => ?_)
          clear hK K
          (try simp only [Act.put, List.setIfInBounds_toArray, List.set_cons_zero, List.set_cons_succ])
          refine wpAnyH_take (i := 28) (v := ?_) (by simp only [List.getElem?_toArray, List.getElem?_cons_zero, List.getElem?_cons_succ]; rfl) (by kernel_rfl) (by kernel_rfl) (by kernel_rfl) (by intro _ _ _ h; exact h) (Or.inl ⟨by rfl, ?_⟩) (by assumption) ?_
          rotate_left
          · intro w hSw; (try dsimp only at hSw); go_simp; (try with_reducible rfl)
          (try simp only [Act.put, List.setIfInBounds_toArray, List.set_cons_zero, List.set_cons_succ])
          refine wpAnyH_ready (rs := [29]) (by kernel_rfl) (by simp) ?_
          refine AllReadyH.cons rfl (fun K hK => ?_) ?_
          · have kl := (KB.out _ ((hU0.trans hUL).trans hUW)).1
            have kw := (KB.out _ ((hU0.trans hUL).trans hUW)).2.1
            have kc := (KB.out _ ((hU0.trans hUL).trans hUW)).2.2
            have cl8 := kl.cell1 i _ huL
            have zl8 := kl.frozen i
            have ncl := kc.ne kl (by decide)
            have ncw := kc.ne kw (by decide)
            go_simp
            refine hK.out _ _ ⟨(kc.other (a := ⟨R.lb, i, none⟩) ncl _).cell1 3 _ rfl, (kc.other (a := ⟨R.lb, i, none⟩) ncl _).cell1 4 _ rfl⟩ (fun hHeld => ?_)
            have kw2 := kw.other (a := ⟨R.lb, i, none⟩) hlw' (.slice xa xn xc)
            have cw8 := kw2.cell1 i _ huW
            have zw8 := kw2.frozen i
            clear cl8 zl8
            clear hK K
            (try simp only [Act.put, List.setIfInBounds_toArray, List.set_cons_zero, List.set_cons_succ])
            refine wpAnyH_take (i := 30) (v := ?_) (by simp only [List.getElem?_toArray, List.getElem?_cons_zero, List.getElem?_cons_succ]; rfl) (by kernel_rfl) (by kernel_rfl) (by kernel_rfl) (by intro _ _ _ h; exact h) (Or.inl ⟨by rfl, ?_⟩) (by assumption) ?_
            rotate_left
            · intro w hSw; (try dsimp only at hSw); go_simp; (try with_reducible rfl)
            (try simp only [Act.put, List.setIfInBounds_toArray, List.set_cons_zero, List.set_cons_succ])
            refine wpAnyH_ready (rs := [31]) (by kernel_rfl) (by simp) ?_
            refine AllReadyH.cons rfl (fun K hK => ?_) ?_
            · go_simp
              refine hK.out _ _ ⟨((kc.other (a := ⟨R.lb, i, none⟩) ncl _).other (a := ⟨R.wb, i, none⟩) ncw _).cell1 3 _ rfl, ((kc.other (a := ⟨R.lb, i, none⟩) ncl _).other (a := ⟨R.wb, i, none⟩) ncw _).cell1 4 _ rfl⟩ (fun hHeld => ?_)
              clear hK K
              (try simp only [Act.put, List.setIfInBounds_toArray, List.set_cons_zero, List.set_cons_succ])
              refine wpAnyH_done (by kernel_rfl) ?_ _
              go_wp2
              go_end0
              have hh := FIN'.out _ _ _ _ _ ((hU0.trans hUL).trans hUW) (row_upd hRL hUW (fun _ _ e => e)) hRW (by have := hU0.size; omega) (by have := (hU0.trans hUL).size; omega)
              exact ⟨rfl, hh.1, hh.2⟩
            exact AllReadyH.nil
          exact AllReadyH.nil
        exact AllReadyH.nil
      exact AllReadyH.nil
    refine AllReadyH.cons rfl (fun K hK => ?_) ?_
    · have cw9 := (KB.out _ hU0).2.1.cell1 i _ huW
      go_simp
      refine hK.out _ _ ⟨(KB.out _ hU0).2.2.cell1 3 _ rfl, (KB.out _ hU0).2.2.cell1 4 _ rfl⟩ (fun hHeld => ?_)
      clear cw9
      clear hK K
      (try simp only [Act.put, List.setIfInBounds_toArray, List.set_cons_zero, List.set_cons_succ])
      refine wpAnyH_ready (rs := [18]) (by kernel_rfl) (by simp) ?_
      refine AllReadyH.cons rfl (fun K hK => ?_) ?_
      · refine step_call62 (by rfl) (by rfl) _ _ _ (by rfl) _ _ (by rfl) (by rfl) (HL _ hU0) ?_
        rintro e wL ⟨vL, rfl, hRL, hUL⟩
        obtain ⟨xa, xc, hx9⟩ := rowq_len hRL
        obtain ⟨xn, hxn⟩ : ∃ x, (bds R i (woN v.ll j)).length = x := ⟨_, rfl⟩
        rw [hxn] at hx9
        subst hx9
        refine ⟨_, rfl, ?_⟩
        refine hK.out _ _ ⟨(KB.out _ (hU0.trans hUL)).2.2.cell1 3 _ rfl, (KB.out _ (hU0.trans hUL)).2.2.cell1 4 _ rfl⟩ (fun hHeld => ?_)
        clear hK K
        (try simp only [Act.put, List.setIfInBounds_toArray, List.set_cons_zero, List.set_cons_succ])
        refine wpAnyH_ready (rs := [27]) (by kernel_rfl) (by simp) ?_
        refine AllReadyH.cons rfl (fun K hK => ?_) ?_
        · refine step_call62 (by rfl) (by rfl) _ _ _ (by rfl) _ _ (by rfl) (by rfl) (HW _ (hU0.trans hUL)) ?_
          rintro e wW ⟨vW, rfl, hRW, hUW⟩
          obtain ⟨ya, yc, hy9⟩ := rowq_len hRW
          obtain ⟨yn, hyn⟩ : ∃ x, (bds R i (woN v.wl j)).length = x := ⟨_, rfl⟩
          rw [hyn] at hy9
          subst hy9
          refine ⟨_, rfl, ?_⟩
          refine hK.out _ _ ⟨(KB.out _ ((hU0.trans hUL).trans hUW)).2.2.cell1 3 _ rfl, (KB.out _ ((hU0.trans hUL).trans hUW)).2.2.cell1 4 _ rfl⟩ (fun hHeld => ?_)
          clear hK K
          (try simp only [Act.put, List.setIfInBounds_toArray, List.set_cons_zero, List.set_cons_succ])
          refine wpAnyH_take (i := 28) (v := ?_) (by simp only [List.getElem?_toArray, List.getElem?_cons_zero, List.getElem?_cons_succ]; rfl) (by kernel_rfl) (by kernel_rfl) (by kernel_rfl) (by intro _ _ _ h; exact h) (Or.inl ⟨by rfl, ?_⟩) (by assumption) ?_
          rotate_left
          · intro w hSw; (try dsimp only at hSw); go_simp; (try with_reducible rfl)
          (try simp only [Act.put, List.setIfInBounds_toArray, List.set_cons_zero, List.set_cons_succ])
          refine wpAnyH_ready (rs := [29]) (by kernel_rfl) (by simp) ?_
          refine AllReadyH.cons rfl (fun K hK => ?_) ?_
          · have kl := (KB.out _ ((hU0.trans hUL).trans hUW)).1
            have kw := (KB.out _ ((hU0.trans hUL).trans hUW)).2.1
            have kc := (KB.out _ ((hU0.trans hUL).trans hUW)).2.2
            have cl8 := kl.cell1 i _ huL
            have zl8 := kl.frozen i
            have ncl := kc.ne kl (by decide)
            have ncw := kc.ne kw (by decide)
            go_simp
            refine hK.out _ _ ⟨(kc.other (a := ⟨R.lb, i, none⟩) ncl _).cell1 3 _ rfl, (kc.other (a := ⟨R.lb, i, none⟩) ncl _).cell1 4 _ rfl⟩ (fun hHeld => ?_)
            have kw2 := kw.other (a := ⟨R.lb, i, none⟩) hlw' (.slice xa xn xc)
            have cw8 := kw2.cell1 i _ huW
            have zw8 := kw2.frozen i
            clear cl8 zl8
            clear hK K
            (try simp only [Act.put, List.setIfInBounds_toArray, List.set_cons_zero, List.set_cons_succ])
            refine wpAnyH_take (i := 30) (v := ?_) (by simp only [List.getElem?_toArray, List.getElem?_cons_zero, List.getElem?_cons_succ]; rfl) (by kernel_rfl) (by kernel_rfl) (by kernel_rfl) (by intro _ _ _ h; exact h) (Or.inl ⟨by rfl, ?_⟩) (by assumption) ?_
            rotate_left
            · intro w hSw; (try dsimp only at hSw); go_simp; (try with_reducible rfl)
            (try simp only [Act.put, List.setIfInBounds_toArray, List.set_cons_zero, List.set_cons_succ])
            refine wpAnyH_ready (rs := [31]) (by kernel_rfl) (by simp) ?_
            refine AllReadyH.cons rfl (fun K hK => ?_) ?_
            · go_simp
              refine hK.out _ _ ⟨((kc.other (a := ⟨R.lb, i, none⟩) ncl _).other (a := ⟨R.wb, i, none⟩) ncw _).cell1 3 _ rfl, ((kc.other (a := ⟨R.lb, i, none⟩) ncl _).other (a := ⟨R.wb, i, none⟩) ncw _).cell1 4 _ rfl⟩ (fun hHeld => ?_)
              clear hK K
              (try simp only [Act.put, List.setIfInBounds_toArray, List.set_cons_zero, List.set_cons_succ])
              refine wpAnyH_done (by kernel_rfl) ?_ _
              go_wp2
              go_end0
              have hh := FIN'.out _ _ _ _ _ ((hU0.trans hUL).trans hUW) (row_upd hRL hUW (fun _ _ e => e)) hRW (by have := hU0.size; omega) (by have := (hU0.trans hUL).size; omega)
              exact ⟨rfl, hh.1, hh.2⟩
            exact AllReadyH.nil
          exact AllReadyH.nil
        exact AllReadyH.nil
      exact AllReadyH.nil
    exact AllReadyH.nil
  refine AllReadyH.cons rfl (fun K hK => ?_) ?_
  · have cw9 := (KB.out _ hU0).2.1.cell1 i _ huW
    go_simp
    refine hK.out _ _ ⟨(KB.out _ hU0).2.2.cell1 3 _ rfl, (KB.out _ hU0).2.2.cell1 4 _ rfl⟩ (fun hHeld => ?_)
    clear cw9
    clear hK K
    (try simp only [Act.put, List.setIfInBounds_toArray, List.set_cons_zero, List.set_cons_succ])
    refine wpAnyH_ready (rs := [16]) (by kernel_rfl) (by simp) ?_
    refine AllReadyH.cons rfl (fun K hK => ?_) ?_
    · have cl9 := (KB.out _ hU0).1.cell1 i _ huL
      go_simp
      refine hK.out _ _ ⟨(KB.out _ hU0).2.2.cell1 3 _ rfl, (KB.out _ hU0).2.2.cell1 4 _ rfl⟩ (fun hHeld => ?_)
      clear cl9
      clear hK K
      (try simp only [Act.put, List.setIfInBounds_toArray, List.set_cons_zero, List.set_cons_succ])
      refine wpAnyH_ready (rs := [18]) (by kernel_rfl) (by simp) ?_
      refine AllReadyH.cons rfl (fun K hK => ?_) ?_
      · refine step_call62 (by rfl) (by rfl) _ _ _ (by rfl) _ _ (by rfl) (by rfl) (HL _ hU0) ?_
        rintro e wL ⟨vL, rfl, hRL, hUL⟩
        obtain ⟨xa, xc, hx9⟩ := rowq_len hRL
        obtain ⟨xn, hxn⟩ : ∃ x, (bds R i (woN v.ll j)).length = x := ⟨_, rfl⟩
        rw [hxn] at hx9
        subst hx9
        refine ⟨_, rfl, ?_⟩
        refine hK.out _ _ ⟨(KB.out _ (hU0.trans hUL)).2.2.cell1 3 _ rfl, (KB.out _ (hU0.trans hUL)).2.2.cell1 4 _ rfl⟩ (fun hHeld => ?_)
        clear hK K
        (try simp only [Act.put, List.setIfInBounds_toArray, List.set_cons_zero, List.set_cons_succ])
        refine wpAnyH_ready (rs := [27]) (by kernel_rfl) (by simp) ?_
        refine AllReadyH.cons rfl (fun K hK => ?_) ?_
        · refine step_call62 (by rfl) (by rfl) _ _ _ (by rfl) _ _ (by rfl) (by rfl) (HW _ (hU0.trans hUL)) ?_
          rintro e wW ⟨vW, rfl, hRW, hUW⟩
          obtain ⟨ya, yc, hy9⟩ := rowq_len hRW
          obtain ⟨yn, hyn⟩ : ∃ x, (bds R i (woN v.wl j)).length = x := ⟨_, rfl⟩
          rw [hyn] at hy9
          subst hy9
          refine ⟨_, rfl, ?_⟩
          refine hK.out _ _ ⟨(KB.out _ ((hU0.trans hUL).trans hUW)).2.2.cell1 3 _ rfl, (KB.out _ ((hU0.trans hUL).trans hUW)).2.2.cell1 4 _ rfl⟩ (fun hHeld => ?_)
          clear hK K
          (try simp only [Act.put, List.setIfInBounds_toArray, List.set_cons_zero, List.set_cons_succ])
          refine wpAnyH_take (i := 28) (v := ?_) (by simp only [List.getElem?_toArray, List.getElem?_cons_zero, List.getElem?_cons_succ]; rfl) (by kernel_rfl) (by kernel_rfl) (by kernel_rfl) (by intro _ _ _ h; exact h) (Or.inl ⟨by rfl, ?_⟩) (by assumption) ?_
          rotate_left
          · intro w hSw; (try dsimp only at hSw); go_simp; (try with_reducible rfl)
          (try simp only [Act.put, List.setIfInBounds_toArray, List.set_cons_zero, List.set_cons_succ])
          refine wpAnyH_ready (rs := [29]) (by kernel_rfl) (by simp) ?_
          refine AllReadyH.cons rfl (fun K hK => ?_) ?_
          · have kl := (KB.out _ ((hU0.trans hUL).trans hUW)).1
            have kw := (KB.out _ ((hU0.trans hUL).trans hUW)).2.1
            have kc := (KB.out _ ((hU0.trans hUL).trans hUW)).2.2
            have cl8 := kl.cell1 i _ huL
            have zl8 := kl.frozen i
            have ncl := kc.ne kl (by decide)
            have ncw := kc.ne kw (by decide)
            go_simp
            refine hK.out _ _ ⟨(kc.other (a := ⟨R.lb, i, none⟩) ncl _).cell1 3 _ rfl, (kc.other (a := ⟨R.lb, i, none⟩) ncl _).cell1 4 _ rfl⟩ (fun hHeld => ?_)
            have kw2 := kw.other (a := ⟨R.lb, i, none⟩) hlw' (.slice xa xn xc)
            have cw8 := kw2.cell1 i _ huW
            have zw8 := kw2.frozen i
            clear cl8 zl8
            clear hK K
            (try simp only [Act.put, List.setIfInBounds_toArray, List.set_cons_zero, List.set_cons_succ])
            refine wpAnyH_take (i := 30) (v := ?_) (by simp only [List.getElem?_toArray, List.getElem?_cons_zero, List.getElem?_cons_succ]; rfl) (by kernel_rfl) (by kernel_rfl) (by kernel_rfl) (by intro _ _ _ h; exact h) (Or.inl ⟨by rfl, ?_⟩) (by assumption) ?_
            rotate_left
            · intro w hSw; (try dsimp only at hSw); go_simp; (try with_reducible rfl)
            (try simp only [Act.put, List.setIfInBounds_toArray, List.set_cons_zero, List.set_cons_succ])
            refine wpAnyH_ready (rs := [31]) (by kernel_rfl) (by simp) ?_
            refine AllReadyH.cons rfl (fun K hK => ?_) ?_
            · go_simp
              refine hK.out _ _ ⟨((kc.other (a := ⟨R.lb, i, none⟩) ncl _).other (a := ⟨R.wb, i, none⟩) ncw _).cell1 3 _ rfl, ((kc.other (a := ⟨R.lb, i, none⟩) ncl _).other (a := ⟨R.wb, i, none⟩) ncw _).cell1 4 _ rfl⟩ (fun hHeld => ?_)
              clear hK K
              (try simp only [Act.put, List.setIfInBounds_toArray, List.set_cons_zero, List.set_cons_succ])
              refine wpAnyH_done (by kernel_rfl) ?_ _
              go_wp2
              go_end0
              have hh := FIN'.out _ _ _ _ _ ((hU0.trans hUL).trans hUW) (row_upd hRL hUW (fun _ _ e => e)) hRW (by have := hU0.size; omega) (by have := (hU0.trans hUL).size; omega)
              exact ⟨rfl, hh.1, hh.2⟩
            exact AllReadyH.nil
          exact AllReadyH.nil
        exact AllReadyH.nil
      exact AllReadyH.nil
    exact AllReadyH.nil
  exact AllReadyH.nil
end
end Go.Proofs.Ytlkfabejecgfgaa
