/-
  Same.
-/
import Derived.Test.YtkmpcheamdadcaaZl
import Derived.Test.YtkmpcheamdadcaaZc
import Derived.Deep.RegionHeldLaw
import Derived.Deep.RegionLaw
namespace Go.Proofs.Ytkmpcheamdadcaa
open Go.RowKit
set_option linter.unusedVariables false
set_option linter.unusedSimpArgs false
theorem step_call39 {ops : Array Oper} {o : Oper} {a : Act} {w : World} {K : Act → World → Prop} {Q : Exit → Act → World → Prop} {Ex : Prop} (hw : Region.wanted o (yielded ops a.tmps) = true) {d : Nat} (hd : o.dst = some d) (x : Operand) (ts : Array TypeId)
    (ho : o.op = .call { callee := .value (.func 39), args := #[x], argTypes := ts }) (u : Value) (hx : a.eval x = u) {R : Ending → World → Prop} (hc : Calls Try.prog 39 #[u] w R)
    (h : ∀ e w', R e w' → ∃ r, e = .returned r ∧ K (a.put (some d) r) w') :
    if Region.wanted o (yielded ops a.tmps) = true then Oper.wp Try.prog o a w K Q else Ex := by
  rw [if_pos hw]
  have he := enters_of (P := Try.prog) Try.func39 (by kernel_rfl) rfl #[u]
  unfold Oper.wp execOp
  simp only [ho, resolve, invoke, Sem.run_bind, Sem.run_pure, Result.andThen_ok, List.map_toArray, List.map_cons, List.map_nil, hx, go_sem]
  show Oper.upon Try.prog o a K Q (Sem.run Try.prog (callFunc 39 (#[] ++ #[a.eval x] ++ #[])) w)
  rw [show (#[] ++ #[a.eval x] ++ #[] : Array Value) = #[u] by simp [hx], he, Oper.upon_enter]
  refine hc.mono ?_
  intro e w' hR
  obtain ⟨r, rfl, hk⟩ := h e w' hR
  show K (a.put o.dst r) w'
  rw [hd]; exact hk
theorem step_call40 {ops : Array Oper} {o : Oper} {a : Act} {w : World} {K : Act → World → Prop} {Q : Exit → Act → World → Prop} {Ex : Prop} (hw : Region.wanted o (yielded ops a.tmps) = true) {d : Nat} (hd : o.dst = some d) (x y : Operand) (ts : Array TypeId)
    (ho : o.op = .call { callee := .value (.func 40), args := #[x, y], argTypes := ts }) (u v : Value) (hx : a.eval x = u) (hy : a.eval y = v) {R : Ending → World → Prop} (hc : Calls Try.prog 40 #[u, v] w R)
    (h : ∀ e w', R e w' → ∃ r, e = .returned r ∧ K (a.put (some d) r) w') :
    if Region.wanted o (yielded ops a.tmps) = true then Oper.wp Try.prog o a w K Q else Ex := by
  rw [if_pos hw]
  have he := enters_of (P := Try.prog) Try.func40 (by kernel_rfl) rfl #[u, v]
  unfold Oper.wp execOp
  simp only [ho, resolve, invoke, Sem.run_bind, Sem.run_pure, Result.andThen_ok, List.map_toArray, List.map_cons, List.map_nil, hx, hy, go_sem]
  show Oper.upon Try.prog o a K Q (Sem.run Try.prog (callFunc 40 (#[] ++ #[a.eval x, a.eval y] ++ #[])) w)
  rw [show (#[] ++ #[a.eval x, a.eval y] ++ #[] : Array Value) = #[u, v] by simp [hx, hy], he, Oper.upon_enter]
  refine hc.mono ?_
  intro e w' hR
  obtain ⟨r, rfl, hk⟩ := h e w' hR
  show K (a.put o.dst r) w'
  rw [hd]; exact hk
theorem step_call41 {ops : Array Oper} {o : Oper} {a : Act} {w : World} {K : Act → World → Prop} {Q : Exit → Act → World → Prop} {Ex : Prop} (hw : Region.wanted o (yielded ops a.tmps) = true) {d : Nat} (hd : o.dst = some d) (x y : Operand) (ts : Array TypeId)
    (ho : o.op = .call { callee := .value (.func 41), args := #[x, y], argTypes := ts }) (u v : Value) (hx : a.eval x = u) (hy : a.eval y = v) {R : Ending → World → Prop} (hc : Calls Try.prog 41 #[u, v] w R)
    (h : ∀ e w', R e w' → ∃ r, e = .returned r ∧ K (a.put (some d) r) w') :
    if Region.wanted o (yielded ops a.tmps) = true then Oper.wp Try.prog o a w K Q else Ex := by
  rw [if_pos hw]
  have he := enters_of (P := Try.prog) Try.func41 (by kernel_rfl) rfl #[u, v]
  unfold Oper.wp execOp
  simp only [ho, resolve, invoke, Sem.run_bind, Sem.run_pure, Result.andThen_ok, List.map_toArray, List.map_cons, List.map_nil, hx, hy, go_sem]
  show Oper.upon Try.prog o a K Q (Sem.run Try.prog (callFunc 41 (#[] ++ #[a.eval x, a.eval y] ++ #[])) w)
  rw [show (#[] ++ #[a.eval x, a.eval y] ++ #[] : Array Value) = #[u, v] by simp [hx, hy], he, Oper.upon_enter]
  refine hc.mono ?_
  intro e w' hR
  obtain ⟨r, rfl, hk⟩ := h e w' hR
  show K (a.put o.dst r) w'
  rw [hd]; exact hk
set_option maxRecDepth 100000 in
set_option maxHeartbeats 4000000 in
theorem same_no1 {w : World} {P1 P2 : En} {a b : Ed} (h1 : RdEd w P1 a) (h2 : RdEd w P2 b) (hs : seq75 (plainE a) (plainE b) = false) : Calls Try.prog 12 #[.agg (edA P1 a), .agg (edA P2 b)] w fun en w' => en = .returned (.bool false) ∧ Below w.heap.size w w' := by
  have HV : Hid (RdEd w P1 a ∧ RdEd w P2 b) := ⟨h1, h2⟩
  have HB1 : Hid (Below w.heap.size w ((w.alloc (edO P1 a)).alloc (edO P2 b))) := bstep (al1 _ _) (al1 _ _)
  have hbB := ed_box (w.alloc (edO P1 a)) P2 b
  rw [World.size_alloc] at hbB
  have HBx : Hid (∀ W, Below ((w.alloc (edO P1 a)).alloc (edO P2 b)).heap.size ((w.alloc (edO P1 a)).alloc (edO P2 b)) W → Blk W w.heap.size 27 (edA P1 a).toList ∧ Blk W (w.heap.size + 1) 27 (edA P2 b).toList) := fun W hb =>
    ⟨((ed_box w P1 a).alloc (edO P2 b)).upd (S := Non) (Upd.ofBelow hb) (fun h => h), hbB.upd (S := Non) (Upd.ofBelow hb) (fun h => h)⟩
  obtain ⟨A, hA⟩ : ∃ A : Array Value, saiA (plainE a) = A := ⟨_, rfl⟩
  obtain ⟨B, hB⟩ : ∃ B : Array Value, saiA (plainE b) = B := ⟨_, rfl⟩
  have HSa : Hid (∀ W, Calls Try.prog 39 #[.agg (edA P1 a)] W fun en w' => en = .returned (.agg A) ∧ Below W.heap.size W w') := fun W => by rw [← hA]; exact said_any P1 a W
  have HSb : Hid (∀ W, Calls Try.prog 39 #[.agg (edA P2 b)] W fun en w' => en = .returned (.agg B) ∧ Below W.heap.size W w') := fun W => by rw [← hB]; exact said_any P2 b W
  have hq : ∀ W, (binOp .eql 75 (.agg A) (.agg B)).run Try.prog W = .ok (.bool (seq75 (plainE a) (plainE b))) W := fun W => by rw [← hA, ← hB]; exact eqs_any _ _ W
  clear h1 h2 hA hB hbB
  rw [hs] at hq
  go_enter Try.func12, Try.ntmps12
  go_wp2
  generalize hW1 : (w.alloc (edO P1 a)).alloc (edO P2 b) = W1 at *
  clear hW1
  have HA : Hid (∀ w', Below W1.heap.size W1 w' → w'.cell? ⟨w.heap.size, 0, none⟩ = some (.int .u32 a.fam) ∧ w'.cell? ⟨w.heap.size, 1, none⟩ = some (.bool a.ma) ∧ w'.cell? ⟨w.heap.size, 2, none⟩ = some (.bool a.dr) ∧ w'.cell? ⟨w.heap.size, 3, none⟩ = some (.string a.name) ∧ w'.cell? ⟨w.heap.size, 4, none⟩ = some (.int .i64 a.how) ∧ w'.cell? ⟨w.heap.size, 5, none⟩ = some (.bool a.hl) ∧ w'.cell? ⟨w.heap.size, 6, none⟩ = some (.bool a.hn) ∧ w'.cell? ⟨w.heap.size, 7, none⟩ = some (.bool a.hs) ∧ w'.cell? ⟨w.heap.size, 8, none⟩ = some (.int .u64 a.log) ∧ w'.cell? ⟨w.heap.size, 9, none⟩ = some (.int .u64 a.next) ∧ w'.cell? ⟨w.heap.size, 10, none⟩ = some (.int .u64 a.seq) ∧ w'.cell? ⟨w.heap.size, 11, none⟩ = some (.slice P1.ga a.gone.length P1.gc) ∧ w'.cell? ⟨w.heap.size, 12, none⟩ = some (.slice P1.aa a.added.length P1.ac) ∧ w'.cell? ⟨(w.heap.size + 1), 0, none⟩ = some (.int .u32 b.fam) ∧ w'.cell? ⟨(w.heap.size + 1), 1, none⟩ = some (.bool b.ma) ∧ w'.cell? ⟨(w.heap.size + 1), 2, none⟩ = some (.bool b.dr) ∧ w'.cell? ⟨(w.heap.size + 1), 3, none⟩ = some (.string b.name) ∧ w'.cell? ⟨(w.heap.size + 1), 4, none⟩ = some (.int .i64 b.how) ∧ w'.cell? ⟨(w.heap.size + 1), 5, none⟩ = some (.bool b.hl) ∧ w'.cell? ⟨(w.heap.size + 1), 6, none⟩ = some (.bool b.hn) ∧ w'.cell? ⟨(w.heap.size + 1), 7, none⟩ = some (.bool b.hs) ∧ w'.cell? ⟨(w.heap.size + 1), 8, none⟩ = some (.int .u64 b.log) ∧ w'.cell? ⟨(w.heap.size + 1), 9, none⟩ = some (.int .u64 b.next) ∧ w'.cell? ⟨(w.heap.size + 1), 10, none⟩ = some (.int .u64 b.seq) ∧ w'.cell? ⟨(w.heap.size + 1), 11, none⟩ = some (.slice P2.ga b.gone.length P2.gc) ∧ w'.cell? ⟨(w.heap.size + 1), 12, none⟩ = some (.slice P2.aa b.added.length P2.ac)) := fun W hb => by
    obtain ⟨B0, B1⟩ := HBx.out W hb
    exact ⟨B0.cell1 0 _ rfl, B0.cell1 1 _ rfl, B0.cell1 2 _ rfl, B0.cell1 3 _ rfl, B0.cell1 4 _ rfl, B0.cell1 5 _ rfl, B0.cell1 6 _ rfl, B0.cell1 7 _ rfl, B0.cell1 8 _ rfl, B0.cell1 9 _ rfl, B0.cell1 10 _ rfl, B0.cell1 11 _ rfl, B0.cell1 12 _ rfl, B1.cell1 0 _ rfl, B1.cell1 1 _ rfl, B1.cell1 2 _ rfl, B1.cell1 3 _ rfl, B1.cell1 4 _ rfl, B1.cell1 5 _ rfl, B1.cell1 6 _ rfl, B1.cell1 7 _ rfl, B1.cell1 8 _ rfl, B1.cell1 9 _ rfl, B1.cell1 10 _ rfl, B1.cell1 11 _ rfl, B1.cell1 12 _ rfl⟩
  obtain ⟨c0, c1, c2, c3, c4, c5, c6, c7, c8, c9, c10, c11, c12, d0, d1, d2, d3, d4, d5, d6, d7, d8, d9, d10, d11, d12⟩ := HA.out W1 (Below.refl _ _)
  refine wp_region_held_drew (S := fun w' => w'.cell? ⟨w.heap.size, 0, none⟩ = some (.int .u32 a.fam) ∧ w'.cell? ⟨w.heap.size, 1, none⟩ = some (.bool a.ma) ∧ w'.cell? ⟨w.heap.size, 2, none⟩ = some (.bool a.dr) ∧ w'.cell? ⟨w.heap.size, 3, none⟩ = some (.string a.name) ∧ w'.cell? ⟨w.heap.size, 4, none⟩ = some (.int .i64 a.how) ∧ w'.cell? ⟨w.heap.size, 5, none⟩ = some (.bool a.hl) ∧ w'.cell? ⟨w.heap.size, 6, none⟩ = some (.bool a.hn) ∧ w'.cell? ⟨w.heap.size, 7, none⟩ = some (.bool a.hs) ∧ w'.cell? ⟨w.heap.size, 8, none⟩ = some (.int .u64 a.log) ∧ w'.cell? ⟨w.heap.size, 9, none⟩ = some (.int .u64 a.next) ∧ w'.cell? ⟨w.heap.size, 10, none⟩ = some (.int .u64 a.seq) ∧ w'.cell? ⟨w.heap.size, 11, none⟩ = some (.slice P1.ga a.gone.length P1.gc) ∧ w'.cell? ⟨w.heap.size, 12, none⟩ = some (.slice P1.aa a.added.length P1.ac) ∧ w'.cell? ⟨(w.heap.size + 1), 0, none⟩ = some (.int .u32 b.fam) ∧ w'.cell? ⟨(w.heap.size + 1), 1, none⟩ = some (.bool b.ma) ∧ w'.cell? ⟨(w.heap.size + 1), 2, none⟩ = some (.bool b.dr) ∧ w'.cell? ⟨(w.heap.size + 1), 3, none⟩ = some (.string b.name) ∧ w'.cell? ⟨(w.heap.size + 1), 4, none⟩ = some (.int .i64 b.how) ∧ w'.cell? ⟨(w.heap.size + 1), 5, none⟩ = some (.bool b.hl) ∧ w'.cell? ⟨(w.heap.size + 1), 6, none⟩ = some (.bool b.hn) ∧ w'.cell? ⟨(w.heap.size + 1), 7, none⟩ = some (.bool b.hs) ∧ w'.cell? ⟨(w.heap.size + 1), 8, none⟩ = some (.int .u64 b.log) ∧ w'.cell? ⟨(w.heap.size + 1), 9, none⟩ = some (.int .u64 b.next) ∧ w'.cell? ⟨(w.heap.size + 1), 10, none⟩ = some (.int .u64 b.seq) ∧ w'.cell? ⟨(w.heap.size + 1), 11, none⟩ = some (.slice P2.ga b.gone.length P2.gc) ∧ w'.cell? ⟨(w.heap.size + 1), 12, none⟩ = some (.slice P2.aa b.added.length P2.ac)) (by kernel_rfl) ?_ (fun hHeld => ?_)
  · (try dsimp only); exact HA.out W1.drew (Below.refl _ _).drew
  refine wpAnyH_take (i := 0) (v := ?_) (by simp only [List.getElem?_toArray, List.getElem?_cons_zero, List.getElem?_cons_succ]; rfl) (by kernel_rfl) (by kernel_rfl) (by kernel_rfl) (by intro _ _ _ h; exact h) (Or.inl ⟨by rfl, ?_⟩) (by assumption) ?_
  rotate_left
  · intro w hSw; (try dsimp only at hSw); go_simp; (try with_reducible rfl)
  (try simp only [Act.put, List.setIfInBounds_toArray, List.set_cons_zero, List.set_cons_succ])
  refine wpAnyH_take (i := 2) (v := ?_) (by simp only [List.getElem?_toArray, List.getElem?_cons_zero, List.getElem?_cons_succ]; rfl) (by kernel_rfl) (by kernel_rfl) (by kernel_rfl) (by intro _ _ _ h; exact h) (Or.inl ⟨by rfl, ?_⟩) (by assumption) ?_
  rotate_left
  · intro w hSw; (try dsimp only at hSw); go_simp; (try with_reducible rfl)
  (try simp only [Act.put, List.setIfInBounds_toArray, List.set_cons_zero, List.set_cons_succ])
  refine wpAnyH_ready (rs := [1]) (by kernel_rfl) (by simp) ?_
  refine AllReadyH.cons rfl (fun K hK => ?_) AllReadyH.nil
  refine step_call39 (by rfl) (by rfl) _ _ (by rfl) _ (by rfl) (HSa.out _) ?_
  rintro en w2 ⟨rfl, hb⟩
  refine ⟨_, rfl, ?_⟩
  have HBw2 : Hid (Below W1.heap.size W1 w2) := bstep (Below.refl _ _).drew hb
  clear hb
  refine hK.out _ _ (HA.out w2 HBw2.out) (fun hHeld => ?_)
  clear hK K
  (try simp only [Act.put, List.setIfInBounds_toArray, List.set_cons_zero, List.set_cons_succ])
  refine wpAnyH_ready (rs := [3]) (by kernel_rfl) (by simp) ?_
  refine AllReadyH.cons rfl (fun K hK => ?_) AllReadyH.nil
  refine step_call39 (by rfl) (by rfl) _ _ (by rfl) _ (by rfl) (HSb.out _) ?_
  rintro en w3 ⟨rfl, hb⟩
  refine ⟨_, rfl, ?_⟩
  have HBw3 : Hid (Below W1.heap.size W1 w3) := bstep HBw2.out hb
  clear hb
  refine hK.out _ _ (HA.out w3 HBw3.out) (fun hHeld => ?_)
  clear hK K
  (try simp only [Act.put, List.setIfInBounds_toArray, List.set_cons_zero, List.set_cons_succ])
  refine wpAnyH_take (i := 4) (v := ?_) (by simp only [List.getElem?_toArray, List.getElem?_cons_zero, List.getElem?_cons_succ]; rfl) (by kernel_rfl) (by kernel_rfl) (by kernel_rfl) (by intro _ _ _ h; exact h) (Or.inl ⟨by rfl, ?_⟩) (by assumption) ?_
  rotate_left
  · intro w hSw; (try dsimp only at hSw); go_simp; (try with_reducible rfl)
  (try simp only [Act.put, List.setIfInBounds_toArray, List.set_cons_zero, List.set_cons_succ])
  refine wpAnyH_take (i := 5) (v := ?_) (by simp only [List.getElem?_toArray, List.getElem?_cons_zero, List.getElem?_cons_succ]; rfl) (by kernel_rfl) (by kernel_rfl) (by kernel_rfl) (by intro _ _ _ h; exact h) (Or.inl ⟨by rfl, ?_⟩) (by assumption) ?_
  rotate_left
  · intro w hSw; (try dsimp only at hSw); go_simp; (try with_reducible rfl)
  (try simp only [Act.put, List.setIfInBounds_toArray, List.set_cons_zero, List.set_cons_succ])
  refine wpAnyH_take (i := 6) (v := undef) (by simp only [List.getElem?_toArray, List.getElem?_cons_zero, List.getElem?_cons_succ]; rfl) (by kernel_rfl) (by kernel_rfl) (by kernel_rfl) (by intro _ _ _ h; exact h) (Or.inr ⟨by rfl, rfl⟩) (by assumption) ?_
  (try simp only [Act.put, List.setIfInBounds_toArray, List.set_cons_zero, List.set_cons_succ])
  refine wpAnyH_take (i := 7) (v := undef) (by simp only [List.getElem?_toArray, List.getElem?_cons_zero, List.getElem?_cons_succ]; rfl) (by kernel_rfl) (by kernel_rfl) (by kernel_rfl) (by intro _ _ _ h; exact h) (Or.inr ⟨by rfl, rfl⟩) (by assumption) ?_
  (try simp only [Act.put, List.setIfInBounds_toArray, List.set_cons_zero, List.set_cons_succ])
  refine wpAnyH_take (i := 8) (v := undef) (by simp only [List.getElem?_toArray, List.getElem?_cons_zero, List.getElem?_cons_succ]; rfl) (by kernel_rfl) (by kernel_rfl) (by kernel_rfl) (by intro _ _ _ h; exact h) (Or.inr ⟨by rfl, rfl⟩) (by assumption) ?_
  (try simp only [Act.put, List.setIfInBounds_toArray, List.set_cons_zero, List.set_cons_succ])
  refine wpAnyH_take (i := 9) (v := undef) (by simp only [List.getElem?_toArray, List.getElem?_cons_zero, List.getElem?_cons_succ]; rfl) (by kernel_rfl) (by kernel_rfl) (by kernel_rfl) (by intro _ _ _ h; exact h) (Or.inr ⟨by rfl, rfl⟩) (by assumption) ?_
  (try simp only [Act.put, List.setIfInBounds_toArray, List.set_cons_zero, List.set_cons_succ])
  refine wpAnyH_take (i := 10) (v := undef) (by simp only [List.getElem?_toArray, List.getElem?_cons_zero, List.getElem?_cons_succ]; rfl) (by kernel_rfl) (by kernel_rfl) (by kernel_rfl) (by intro _ _ _ h; exact h) (Or.inr ⟨by rfl, rfl⟩) (by assumption) ?_
  (try simp only [Act.put, List.setIfInBounds_toArray, List.set_cons_zero, List.set_cons_succ])
  refine wpAnyH_take (i := 11) (v := ?_) (by simp only [List.getElem?_toArray, List.getElem?_cons_zero, List.getElem?_cons_succ]; rfl) (by kernel_rfl) (by kernel_rfl) (by kernel_rfl) (by intro _ _ _ h; exact h) (Or.inl ⟨by rfl, ?_⟩) (by assumption) ?_
  rotate_left
  · intro w hSw; (try dsimp only at hSw); go_simp; (try with_reducible rfl)
  (try simp only [Act.put, List.setIfInBounds_toArray, List.set_cons_zero, List.set_cons_succ])
  refine wpAnyH_take (i := 12) (v := ?_) (by simp only [List.getElem?_toArray, List.getElem?_cons_zero, List.getElem?_cons_succ]; rfl) (by kernel_rfl) (by kernel_rfl) (by kernel_rfl) (by intro _ _ _ h; exact h) (Or.inl ⟨by rfl, ?_⟩) (by assumption) ?_
  rotate_left
  · intro w hSw; (try dsimp only at hSw); go_simp; (try with_reducible rfl)
  (try simp only [Act.put, List.setIfInBounds_toArray, List.set_cons_zero, List.set_cons_succ])
  refine wpAnyH_take (i := 13) (v := undef) (by simp only [List.getElem?_toArray, List.getElem?_cons_zero, List.getElem?_cons_succ]; rfl) (by kernel_rfl) (by kernel_rfl) (by kernel_rfl) (by intro _ _ _ h; exact h) (Or.inr ⟨by rfl, rfl⟩) (by assumption) ?_
  (try simp only [Act.put, List.setIfInBounds_toArray, List.set_cons_zero, List.set_cons_succ])
  refine wpAnyH_take (i := 14) (v := undef) (by simp only [List.getElem?_toArray, List.getElem?_cons_zero, List.getElem?_cons_succ]; rfl) (by kernel_rfl) (by kernel_rfl) (by kernel_rfl) (by intro _ _ _ h; exact h) (Or.inr ⟨by rfl, rfl⟩) (by assumption) ?_
  (try simp only [Act.put, List.setIfInBounds_toArray, List.set_cons_zero, List.set_cons_succ])
  refine wpAnyH_take (i := 15) (v := undef) (by simp only [List.getElem?_toArray, List.getElem?_cons_zero, List.getElem?_cons_succ]; rfl) (by kernel_rfl) (by kernel_rfl) (by kernel_rfl) (by intro _ _ _ h; exact h) (Or.inr ⟨by rfl, rfl⟩) (by assumption) ?_
  (try simp only [Act.put, List.setIfInBounds_toArray, List.set_cons_zero, List.set_cons_succ])
  refine wpAnyH_take (i := 16) (v := undef) (by simp only [List.getElem?_toArray, List.getElem?_cons_zero, List.getElem?_cons_succ]; rfl) (by kernel_rfl) (by kernel_rfl) (by kernel_rfl) (by intro _ _ _ h; exact h) (Or.inr ⟨by rfl, rfl⟩) (by assumption) ?_
  (try simp only [Act.put, List.setIfInBounds_toArray, List.set_cons_zero, List.set_cons_succ])
  refine wpAnyH_take (i := 17) (v := undef) (by simp only [List.getElem?_toArray, List.getElem?_cons_zero, List.getElem?_cons_succ]; rfl) (by kernel_rfl) (by kernel_rfl) (by kernel_rfl) (by intro _ _ _ h; exact h) (Or.inr ⟨by rfl, rfl⟩) (by assumption) ?_
  (try simp only [Act.put, List.setIfInBounds_toArray, List.set_cons_zero, List.set_cons_succ])
  refine wpAnyH_take (i := 18) (v := ?_) (by simp only [List.getElem?_toArray, List.getElem?_cons_zero, List.getElem?_cons_succ]; rfl) (by kernel_rfl) (by kernel_rfl) (by kernel_rfl) (by intro _ _ _ h; exact h) (Or.inl ⟨by rfl, ?_⟩) (by assumption) ?_
  rotate_left
  · intro w hSw; (try dsimp only at hSw); go_simp; (try with_reducible rfl)
  (try simp only [Act.put, List.setIfInBounds_toArray, List.set_cons_zero, List.set_cons_succ])
  refine wpAnyH_take (i := 19) (v := ?_) (by simp only [List.getElem?_toArray, List.getElem?_cons_zero, List.getElem?_cons_succ]; rfl) (by kernel_rfl) (by kernel_rfl) (by kernel_rfl) (by intro _ _ _ h; exact h) (Or.inl ⟨by rfl, ?_⟩) (by assumption) ?_
  rotate_left
  · intro w hSw; (try dsimp only at hSw); go_simp; (try with_reducible rfl)
  (try simp only [Act.put, List.setIfInBounds_toArray, List.set_cons_zero, List.set_cons_succ])
  refine wpAnyH_done (by kernel_rfl) ?_ _
  clear hHeld
  go_wp2
  go_ret
  exact ⟨rfl, bstep HB1.out HBw3.out⟩
set_option maxRecDepth 100000 in
set_option maxHeartbeats 4000000 in
theorem same_no2 {w : World} {P1 P2 : En} {a b : Ed} (h1 : RdEd w P1 a) (h2 : RdEd w P2 b) (hs : seq75 (plainE a) (plainE b) = true) (hg : lgq a.gone b.gone = false) : Calls Try.prog 12 #[.agg (edA P1 a), .agg (edA P2 b)] w fun en w' => en = .returned (.bool false) ∧ Below w.heap.size w w' := by
  have HV : Hid (RdEd w P1 a ∧ RdEd w P2 b) := ⟨h1, h2⟩
  have HB1 : Hid (Below w.heap.size w ((w.alloc (edO P1 a)).alloc (edO P2 b))) := bstep (al1 _ _) (al1 _ _)
  have hbB := ed_box (w.alloc (edO P1 a)) P2 b
  rw [World.size_alloc] at hbB
  have HBx : Hid (∀ W, Below ((w.alloc (edO P1 a)).alloc (edO P2 b)).heap.size ((w.alloc (edO P1 a)).alloc (edO P2 b)) W → Blk W w.heap.size 27 (edA P1 a).toList ∧ Blk W (w.heap.size + 1) 27 (edA P2 b).toList) := fun W hb =>
    ⟨((ed_box w P1 a).alloc (edO P2 b)).upd (S := Non) (Upd.ofBelow hb) (fun h => h), hbB.upd (S := Non) (Upd.ofBelow hb) (fun h => h)⟩
  obtain ⟨A, hA⟩ : ∃ A : Array Value, saiA (plainE a) = A := ⟨_, rfl⟩
  obtain ⟨B, hB⟩ : ∃ B : Array Value, saiA (plainE b) = B := ⟨_, rfl⟩
  have HSa : Hid (∀ W, Calls Try.prog 39 #[.agg (edA P1 a)] W fun en w' => en = .returned (.agg A) ∧ Below W.heap.size W w') := fun W => by rw [← hA]; exact said_any P1 a W
  have HSb : Hid (∀ W, Calls Try.prog 39 #[.agg (edA P2 b)] W fun en w' => en = .returned (.agg B) ∧ Below W.heap.size W w') := fun W => by rw [← hB]; exact said_any P2 b W
  have hq : ∀ W, (binOp .eql 75 (.agg A) (.agg B)).run Try.prog W = .ok (.bool (seq75 (plainE a) (plainE b))) W := fun W => by rw [← hA, ← hB]; exact eqs_any _ _ W
  clear h1 h2 hA hB hbB
  rw [hs] at hq
  obtain ⟨R2, hR2⟩ : ∃ R2, lgq a.gone b.gone = R2 := ⟨_, rfl⟩
  go_enter Try.func12, Try.ntmps12
  go_wp2
  generalize hW1 : (w.alloc (edO P1 a)).alloc (edO P2 b) = W1 at *
  clear hW1
  have HA : Hid (∀ w', Below W1.heap.size W1 w' → w'.cell? ⟨w.heap.size, 0, none⟩ = some (.int .u32 a.fam) ∧ w'.cell? ⟨w.heap.size, 1, none⟩ = some (.bool a.ma) ∧ w'.cell? ⟨w.heap.size, 2, none⟩ = some (.bool a.dr) ∧ w'.cell? ⟨w.heap.size, 3, none⟩ = some (.string a.name) ∧ w'.cell? ⟨w.heap.size, 4, none⟩ = some (.int .i64 a.how) ∧ w'.cell? ⟨w.heap.size, 5, none⟩ = some (.bool a.hl) ∧ w'.cell? ⟨w.heap.size, 6, none⟩ = some (.bool a.hn) ∧ w'.cell? ⟨w.heap.size, 7, none⟩ = some (.bool a.hs) ∧ w'.cell? ⟨w.heap.size, 8, none⟩ = some (.int .u64 a.log) ∧ w'.cell? ⟨w.heap.size, 9, none⟩ = some (.int .u64 a.next) ∧ w'.cell? ⟨w.heap.size, 10, none⟩ = some (.int .u64 a.seq) ∧ w'.cell? ⟨w.heap.size, 11, none⟩ = some (.slice P1.ga a.gone.length P1.gc) ∧ w'.cell? ⟨w.heap.size, 12, none⟩ = some (.slice P1.aa a.added.length P1.ac) ∧ w'.cell? ⟨(w.heap.size + 1), 0, none⟩ = some (.int .u32 b.fam) ∧ w'.cell? ⟨(w.heap.size + 1), 1, none⟩ = some (.bool b.ma) ∧ w'.cell? ⟨(w.heap.size + 1), 2, none⟩ = some (.bool b.dr) ∧ w'.cell? ⟨(w.heap.size + 1), 3, none⟩ = some (.string b.name) ∧ w'.cell? ⟨(w.heap.size + 1), 4, none⟩ = some (.int .i64 b.how) ∧ w'.cell? ⟨(w.heap.size + 1), 5, none⟩ = some (.bool b.hl) ∧ w'.cell? ⟨(w.heap.size + 1), 6, none⟩ = some (.bool b.hn) ∧ w'.cell? ⟨(w.heap.size + 1), 7, none⟩ = some (.bool b.hs) ∧ w'.cell? ⟨(w.heap.size + 1), 8, none⟩ = some (.int .u64 b.log) ∧ w'.cell? ⟨(w.heap.size + 1), 9, none⟩ = some (.int .u64 b.next) ∧ w'.cell? ⟨(w.heap.size + 1), 10, none⟩ = some (.int .u64 b.seq) ∧ w'.cell? ⟨(w.heap.size + 1), 11, none⟩ = some (.slice P2.ga b.gone.length P2.gc) ∧ w'.cell? ⟨(w.heap.size + 1), 12, none⟩ = some (.slice P2.aa b.added.length P2.ac)) := fun W hb => by
    obtain ⟨B0, B1⟩ := HBx.out W hb
    exact ⟨B0.cell1 0 _ rfl, B0.cell1 1 _ rfl, B0.cell1 2 _ rfl, B0.cell1 3 _ rfl, B0.cell1 4 _ rfl, B0.cell1 5 _ rfl, B0.cell1 6 _ rfl, B0.cell1 7 _ rfl, B0.cell1 8 _ rfl, B0.cell1 9 _ rfl, B0.cell1 10 _ rfl, B0.cell1 11 _ rfl, B0.cell1 12 _ rfl, B1.cell1 0 _ rfl, B1.cell1 1 _ rfl, B1.cell1 2 _ rfl, B1.cell1 3 _ rfl, B1.cell1 4 _ rfl, B1.cell1 5 _ rfl, B1.cell1 6 _ rfl, B1.cell1 7 _ rfl, B1.cell1 8 _ rfl, B1.cell1 9 _ rfl, B1.cell1 10 _ rfl, B1.cell1 11 _ rfl, B1.cell1 12 _ rfl⟩
  obtain ⟨c0, c1, c2, c3, c4, c5, c6, c7, c8, c9, c10, c11, c12, d0, d1, d2, d3, d4, d5, d6, d7, d8, d9, d10, d11, d12⟩ := HA.out W1 (Below.refl _ _)
  have HG : Hid (∀ W, Below W1.heap.size W1 W → Calls Try.prog 40 #[.slice P1.ga a.gone.length P1.gc, .slice P2.ga b.gone.length P2.gc] W fun en w' => en = .returned (.bool false) ∧ Below W.heap.size W w') := fun W hb => by
    have h := HV.out.1.below (bstep HB1.out hb)
    have k := HV.out.2.below (bstep HB1.out hb)
    have := seqg_any (ca := P1.gc) (cb := P2.gc) h.g k.g h.gl k.gl
    rw [hg] at this
    exact this
  refine wp_region_held_drew (S := fun w' => w'.cell? ⟨w.heap.size, 0, none⟩ = some (.int .u32 a.fam) ∧ w'.cell? ⟨w.heap.size, 1, none⟩ = some (.bool a.ma) ∧ w'.cell? ⟨w.heap.size, 2, none⟩ = some (.bool a.dr) ∧ w'.cell? ⟨w.heap.size, 3, none⟩ = some (.string a.name) ∧ w'.cell? ⟨w.heap.size, 4, none⟩ = some (.int .i64 a.how) ∧ w'.cell? ⟨w.heap.size, 5, none⟩ = some (.bool a.hl) ∧ w'.cell? ⟨w.heap.size, 6, none⟩ = some (.bool a.hn) ∧ w'.cell? ⟨w.heap.size, 7, none⟩ = some (.bool a.hs) ∧ w'.cell? ⟨w.heap.size, 8, none⟩ = some (.int .u64 a.log) ∧ w'.cell? ⟨w.heap.size, 9, none⟩ = some (.int .u64 a.next) ∧ w'.cell? ⟨w.heap.size, 10, none⟩ = some (.int .u64 a.seq) ∧ w'.cell? ⟨w.heap.size, 11, none⟩ = some (.slice P1.ga a.gone.length P1.gc) ∧ w'.cell? ⟨w.heap.size, 12, none⟩ = some (.slice P1.aa a.added.length P1.ac) ∧ w'.cell? ⟨(w.heap.size + 1), 0, none⟩ = some (.int .u32 b.fam) ∧ w'.cell? ⟨(w.heap.size + 1), 1, none⟩ = some (.bool b.ma) ∧ w'.cell? ⟨(w.heap.size + 1), 2, none⟩ = some (.bool b.dr) ∧ w'.cell? ⟨(w.heap.size + 1), 3, none⟩ = some (.string b.name) ∧ w'.cell? ⟨(w.heap.size + 1), 4, none⟩ = some (.int .i64 b.how) ∧ w'.cell? ⟨(w.heap.size + 1), 5, none⟩ = some (.bool b.hl) ∧ w'.cell? ⟨(w.heap.size + 1), 6, none⟩ = some (.bool b.hn) ∧ w'.cell? ⟨(w.heap.size + 1), 7, none⟩ = some (.bool b.hs) ∧ w'.cell? ⟨(w.heap.size + 1), 8, none⟩ = some (.int .u64 b.log) ∧ w'.cell? ⟨(w.heap.size + 1), 9, none⟩ = some (.int .u64 b.next) ∧ w'.cell? ⟨(w.heap.size + 1), 10, none⟩ = some (.int .u64 b.seq) ∧ w'.cell? ⟨(w.heap.size + 1), 11, none⟩ = some (.slice P2.ga b.gone.length P2.gc) ∧ w'.cell? ⟨(w.heap.size + 1), 12, none⟩ = some (.slice P2.aa b.added.length P2.ac)) (by kernel_rfl) ?_ (fun hHeld => ?_)
  · (try dsimp only); exact HA.out W1.drew (Below.refl _ _).drew
  refine wpAnyH_take (i := 0) (v := ?_) (by simp only [List.getElem?_toArray, List.getElem?_cons_zero, List.getElem?_cons_succ]; rfl) (by kernel_rfl) (by kernel_rfl) (by kernel_rfl) (by intro _ _ _ h; exact h) (Or.inl ⟨by rfl, ?_⟩) (by assumption) ?_
  rotate_left
  · intro w hSw; (try dsimp only at hSw); go_simp; (try with_reducible rfl)
  (try simp only [Act.put, List.setIfInBounds_toArray, List.set_cons_zero, List.set_cons_succ])
  refine wpAnyH_take (i := 2) (v := ?_) (by simp only [List.getElem?_toArray, List.getElem?_cons_zero, List.getElem?_cons_succ]; rfl) (by kernel_rfl) (by kernel_rfl) (by kernel_rfl) (by intro _ _ _ h; exact h) (Or.inl ⟨by rfl, ?_⟩) (by assumption) ?_
  rotate_left
  · intro w hSw; (try dsimp only at hSw); go_simp; (try with_reducible rfl)
  (try simp only [Act.put, List.setIfInBounds_toArray, List.set_cons_zero, List.set_cons_succ])
  refine wpAnyH_ready (rs := [1]) (by kernel_rfl) (by simp) ?_
  refine AllReadyH.cons rfl (fun K hK => ?_) AllReadyH.nil
  refine step_call39 (by rfl) (by rfl) _ _ (by rfl) _ (by rfl) (HSa.out _) ?_
  rintro en w2 ⟨rfl, hb⟩
  refine ⟨_, rfl, ?_⟩
  have HBw2 : Hid (Below W1.heap.size W1 w2) := bstep (Below.refl _ _).drew hb
  clear hb
  refine hK.out _ _ (HA.out w2 HBw2.out) (fun hHeld => ?_)
  clear hK K
  (try simp only [Act.put, List.setIfInBounds_toArray, List.set_cons_zero, List.set_cons_succ])
  refine wpAnyH_ready (rs := [3]) (by kernel_rfl) (by simp) ?_
  refine AllReadyH.cons rfl (fun K hK => ?_) AllReadyH.nil
  refine step_call39 (by rfl) (by rfl) _ _ (by rfl) _ (by rfl) (HSb.out _) ?_
  rintro en w3 ⟨rfl, hb⟩
  refine ⟨_, rfl, ?_⟩
  have HBw3 : Hid (Below W1.heap.size W1 w3) := bstep HBw2.out hb
  clear hb
  refine hK.out _ _ (HA.out w3 HBw3.out) (fun hHeld => ?_)
  clear hK K
  (try simp only [Act.put, List.setIfInBounds_toArray, List.set_cons_zero, List.set_cons_succ])
  refine wpAnyH_take (i := 4) (v := ?_) (by simp only [List.getElem?_toArray, List.getElem?_cons_zero, List.getElem?_cons_succ]; rfl) (by kernel_rfl) (by kernel_rfl) (by kernel_rfl) (by intro _ _ _ h; exact h) (Or.inl ⟨by rfl, ?_⟩) (by assumption) ?_
  rotate_left
  · intro w hSw; (try dsimp only at hSw); go_simp; (try with_reducible rfl)
  (try simp only [Act.put, List.setIfInBounds_toArray, List.set_cons_zero, List.set_cons_succ])
  refine wpAnyH_take (i := 5) (v := ?_) (by simp only [List.getElem?_toArray, List.getElem?_cons_zero, List.getElem?_cons_succ]; rfl) (by kernel_rfl) (by kernel_rfl) (by kernel_rfl) (by intro _ _ _ h; exact h) (Or.inl ⟨by rfl, ?_⟩) (by assumption) ?_
  rotate_left
  · intro w hSw; (try dsimp only at hSw); go_simp; (try with_reducible rfl)
  (try simp only [Act.put, List.setIfInBounds_toArray, List.set_cons_zero, List.set_cons_succ])
  refine wpAnyH_take (i := 6) (v := ?_) (by simp only [List.getElem?_toArray, List.getElem?_cons_zero, List.getElem?_cons_succ]; rfl) (by kernel_rfl) (by kernel_rfl) (by kernel_rfl) (by intro _ _ _ h; exact h) (Or.inl ⟨by rfl, ?_⟩) (by assumption) ?_
  rotate_left
  · intro w hSw; (try dsimp only at hSw); go_simp; (try with_reducible rfl)
  (try simp only [Act.put, List.setIfInBounds_toArray, List.set_cons_zero, List.set_cons_succ])
  refine wpAnyH_take (i := 7) (v := ?_) (by simp only [List.getElem?_toArray, List.getElem?_cons_zero, List.getElem?_cons_succ]; rfl) (by kernel_rfl) (by kernel_rfl) (by kernel_rfl) (by intro _ _ _ h; exact h) (Or.inl ⟨by rfl, ?_⟩) (by assumption) ?_
  rotate_left
  · intro w hSw; (try dsimp only at hSw); go_simp; (try with_reducible rfl)
  (try simp only [Act.put, List.setIfInBounds_toArray, List.set_cons_zero, List.set_cons_succ])
  refine wpAnyH_take (i := 8) (v := ?_) (by simp only [List.getElem?_toArray, List.getElem?_cons_zero, List.getElem?_cons_succ]; rfl) (by kernel_rfl) (by kernel_rfl) (by kernel_rfl) (by intro _ _ _ h; exact h) (Or.inl ⟨by rfl, ?_⟩) (by assumption) ?_
  rotate_left
  · intro w hSw; (try dsimp only at hSw); go_simp; (try with_reducible rfl)
  (try simp only [Act.put, List.setIfInBounds_toArray, List.set_cons_zero, List.set_cons_succ])
  refine wpAnyH_take (i := 9) (v := ?_) (by simp only [List.getElem?_toArray, List.getElem?_cons_zero, List.getElem?_cons_succ]; rfl) (by kernel_rfl) (by kernel_rfl) (by kernel_rfl) (by intro _ _ _ h; exact h) (Or.inl ⟨by rfl, ?_⟩) (by assumption) ?_
  rotate_left
  · intro w hSw; (try dsimp only at hSw); go_simp; (try with_reducible rfl)
  (try simp only [Act.put, List.setIfInBounds_toArray, List.set_cons_zero, List.set_cons_succ])
  refine wpAnyH_ready (rs := [10]) (by kernel_rfl) (by simp) ?_
  refine AllReadyH.cons rfl (fun K hK => ?_) AllReadyH.nil
  refine step_call40 (by rfl) (by rfl) _ _ _ (by rfl) _ _ (by rfl) (by rfl) (HG.out _ HBw3.out) ?_
  rintro en w4 ⟨rfl, hb⟩
  refine ⟨_, rfl, ?_⟩
  have HBw4 : Hid (Below W1.heap.size W1 w4) := bstep HBw3.out hb
  clear hb
  refine hK.out _ _ (HA.out w4 HBw4.out) (fun hHeld => ?_)
  clear hK K
  (try simp only [Act.put, List.setIfInBounds_toArray, List.set_cons_zero, List.set_cons_succ])
  refine wpAnyH_take (i := 11) (v := ?_) (by simp only [List.getElem?_toArray, List.getElem?_cons_zero, List.getElem?_cons_succ]; rfl) (by kernel_rfl) (by kernel_rfl) (by kernel_rfl) (by intro _ _ _ h; exact h) (Or.inl ⟨by rfl, ?_⟩) (by assumption) ?_
  rotate_left
  · intro w hSw; (try dsimp only at hSw); go_simp; (try with_reducible rfl)
  (try simp only [Act.put, List.setIfInBounds_toArray, List.set_cons_zero, List.set_cons_succ])
  refine wpAnyH_take (i := 12) (v := ?_) (by simp only [List.getElem?_toArray, List.getElem?_cons_zero, List.getElem?_cons_succ]; rfl) (by kernel_rfl) (by kernel_rfl) (by kernel_rfl) (by intro _ _ _ h; exact h) (Or.inl ⟨by rfl, ?_⟩) (by assumption) ?_
  rotate_left
  · intro w hSw; (try dsimp only at hSw); go_simp; (try with_reducible rfl)
  (try simp only [Act.put, List.setIfInBounds_toArray, List.set_cons_zero, List.set_cons_succ])
  refine wpAnyH_take (i := 13) (v := undef) (by simp only [List.getElem?_toArray, List.getElem?_cons_zero, List.getElem?_cons_succ]; rfl) (by kernel_rfl) (by kernel_rfl) (by kernel_rfl) (by intro _ _ _ h; exact h) (Or.inr ⟨by rfl, rfl⟩) (by assumption) ?_
  (try simp only [Act.put, List.setIfInBounds_toArray, List.set_cons_zero, List.set_cons_succ])
  refine wpAnyH_take (i := 14) (v := undef) (by simp only [List.getElem?_toArray, List.getElem?_cons_zero, List.getElem?_cons_succ]; rfl) (by kernel_rfl) (by kernel_rfl) (by kernel_rfl) (by intro _ _ _ h; exact h) (Or.inr ⟨by rfl, rfl⟩) (by assumption) ?_
  (try simp only [Act.put, List.setIfInBounds_toArray, List.set_cons_zero, List.set_cons_succ])
  refine wpAnyH_take (i := 15) (v := undef) (by simp only [List.getElem?_toArray, List.getElem?_cons_zero, List.getElem?_cons_succ]; rfl) (by kernel_rfl) (by kernel_rfl) (by kernel_rfl) (by intro _ _ _ h; exact h) (Or.inr ⟨by rfl, rfl⟩) (by assumption) ?_
  (try simp only [Act.put, List.setIfInBounds_toArray, List.set_cons_zero, List.set_cons_succ])
  refine wpAnyH_take (i := 16) (v := undef) (by simp only [List.getElem?_toArray, List.getElem?_cons_zero, List.getElem?_cons_succ]; rfl) (by kernel_rfl) (by kernel_rfl) (by kernel_rfl) (by intro _ _ _ h; exact h) (Or.inr ⟨by rfl, rfl⟩) (by assumption) ?_
  (try simp only [Act.put, List.setIfInBounds_toArray, List.set_cons_zero, List.set_cons_succ])
  refine wpAnyH_take (i := 17) (v := undef) (by simp only [List.getElem?_toArray, List.getElem?_cons_zero, List.getElem?_cons_succ]; rfl) (by kernel_rfl) (by kernel_rfl) (by kernel_rfl) (by intro _ _ _ h; exact h) (Or.inr ⟨by rfl, rfl⟩) (by assumption) ?_
  (try simp only [Act.put, List.setIfInBounds_toArray, List.set_cons_zero, List.set_cons_succ])
  refine wpAnyH_take (i := 18) (v := ?_) (by simp only [List.getElem?_toArray, List.getElem?_cons_zero, List.getElem?_cons_succ]; rfl) (by kernel_rfl) (by kernel_rfl) (by kernel_rfl) (by intro _ _ _ h; exact h) (Or.inl ⟨by rfl, ?_⟩) (by assumption) ?_
  rotate_left
  · intro w hSw; (try dsimp only at hSw); go_simp; (try with_reducible rfl)
  (try simp only [Act.put, List.setIfInBounds_toArray, List.set_cons_zero, List.set_cons_succ])
  refine wpAnyH_take (i := 19) (v := ?_) (by simp only [List.getElem?_toArray, List.getElem?_cons_zero, List.getElem?_cons_succ]; rfl) (by kernel_rfl) (by kernel_rfl) (by kernel_rfl) (by intro _ _ _ h; exact h) (Or.inl ⟨by rfl, ?_⟩) (by assumption) ?_
  rotate_left
  · intro w hSw; (try dsimp only at hSw); go_simp; (try with_reducible rfl)
  (try simp only [Act.put, List.setIfInBounds_toArray, List.set_cons_zero, List.set_cons_succ])
  refine wpAnyH_done (by kernel_rfl) ?_ _
  clear hHeld
  go_wp2
  go_ret
  exact ⟨rfl, bstep HB1.out HBw4.out⟩
set_option maxRecDepth 100000 in
set_option maxHeartbeats 4000000 in
theorem same_yes {w : World} {P1 P2 : En} {a b : Ed} (h1 : RdEd w P1 a) (h2 : RdEd w P2 b) (hs : seq75 (plainE a) (plainE b) = true) (hg : lgq a.gone b.gone = true) : Calls Try.prog 12 #[.agg (edA P1 a), .agg (edA P2 b)] w fun en w' => en = .returned (.bool (laq a.added b.added)) ∧ Below w.heap.size w w' := by
  have HV : Hid (RdEd w P1 a ∧ RdEd w P2 b) := ⟨h1, h2⟩
  have HB1 : Hid (Below w.heap.size w ((w.alloc (edO P1 a)).alloc (edO P2 b))) := bstep (al1 _ _) (al1 _ _)
  have hbB := ed_box (w.alloc (edO P1 a)) P2 b
  rw [World.size_alloc] at hbB
  have HBx : Hid (∀ W, Below ((w.alloc (edO P1 a)).alloc (edO P2 b)).heap.size ((w.alloc (edO P1 a)).alloc (edO P2 b)) W → Blk W w.heap.size 27 (edA P1 a).toList ∧ Blk W (w.heap.size + 1) 27 (edA P2 b).toList) := fun W hb =>
    ⟨((ed_box w P1 a).alloc (edO P2 b)).upd (S := Non) (Upd.ofBelow hb) (fun h => h), hbB.upd (S := Non) (Upd.ofBelow hb) (fun h => h)⟩
  obtain ⟨A, hA⟩ : ∃ A : Array Value, saiA (plainE a) = A := ⟨_, rfl⟩
  obtain ⟨B, hB⟩ : ∃ B : Array Value, saiA (plainE b) = B := ⟨_, rfl⟩
  have HSa : Hid (∀ W, Calls Try.prog 39 #[.agg (edA P1 a)] W fun en w' => en = .returned (.agg A) ∧ Below W.heap.size W w') := fun W => by rw [← hA]; exact said_any P1 a W
  have HSb : Hid (∀ W, Calls Try.prog 39 #[.agg (edA P2 b)] W fun en w' => en = .returned (.agg B) ∧ Below W.heap.size W w') := fun W => by rw [← hB]; exact said_any P2 b W
  have hq : ∀ W, (binOp .eql 75 (.agg A) (.agg B)).run Try.prog W = .ok (.bool (seq75 (plainE a) (plainE b))) W := fun W => by rw [← hA, ← hB]; exact eqs_any _ _ W
  clear h1 h2 hA hB hbB
  rw [hs] at hq
  obtain ⟨R2, hR2⟩ : ∃ R2, lgq a.gone b.gone = R2 := ⟨_, rfl⟩
  obtain ⟨R3, hR3⟩ : ∃ R3, laq a.added b.added = R3 := ⟨_, rfl⟩
  rw [hR3]
  go_enter Try.func12, Try.ntmps12
  go_wp2
  generalize hW1 : (w.alloc (edO P1 a)).alloc (edO P2 b) = W1 at *
  clear hW1
  have HA : Hid (∀ w', Below W1.heap.size W1 w' → w'.cell? ⟨w.heap.size, 0, none⟩ = some (.int .u32 a.fam) ∧ w'.cell? ⟨w.heap.size, 1, none⟩ = some (.bool a.ma) ∧ w'.cell? ⟨w.heap.size, 2, none⟩ = some (.bool a.dr) ∧ w'.cell? ⟨w.heap.size, 3, none⟩ = some (.string a.name) ∧ w'.cell? ⟨w.heap.size, 4, none⟩ = some (.int .i64 a.how) ∧ w'.cell? ⟨w.heap.size, 5, none⟩ = some (.bool a.hl) ∧ w'.cell? ⟨w.heap.size, 6, none⟩ = some (.bool a.hn) ∧ w'.cell? ⟨w.heap.size, 7, none⟩ = some (.bool a.hs) ∧ w'.cell? ⟨w.heap.size, 8, none⟩ = some (.int .u64 a.log) ∧ w'.cell? ⟨w.heap.size, 9, none⟩ = some (.int .u64 a.next) ∧ w'.cell? ⟨w.heap.size, 10, none⟩ = some (.int .u64 a.seq) ∧ w'.cell? ⟨w.heap.size, 11, none⟩ = some (.slice P1.ga a.gone.length P1.gc) ∧ w'.cell? ⟨w.heap.size, 12, none⟩ = some (.slice P1.aa a.added.length P1.ac) ∧ w'.cell? ⟨(w.heap.size + 1), 0, none⟩ = some (.int .u32 b.fam) ∧ w'.cell? ⟨(w.heap.size + 1), 1, none⟩ = some (.bool b.ma) ∧ w'.cell? ⟨(w.heap.size + 1), 2, none⟩ = some (.bool b.dr) ∧ w'.cell? ⟨(w.heap.size + 1), 3, none⟩ = some (.string b.name) ∧ w'.cell? ⟨(w.heap.size + 1), 4, none⟩ = some (.int .i64 b.how) ∧ w'.cell? ⟨(w.heap.size + 1), 5, none⟩ = some (.bool b.hl) ∧ w'.cell? ⟨(w.heap.size + 1), 6, none⟩ = some (.bool b.hn) ∧ w'.cell? ⟨(w.heap.size + 1), 7, none⟩ = some (.bool b.hs) ∧ w'.cell? ⟨(w.heap.size + 1), 8, none⟩ = some (.int .u64 b.log) ∧ w'.cell? ⟨(w.heap.size + 1), 9, none⟩ = some (.int .u64 b.next) ∧ w'.cell? ⟨(w.heap.size + 1), 10, none⟩ = some (.int .u64 b.seq) ∧ w'.cell? ⟨(w.heap.size + 1), 11, none⟩ = some (.slice P2.ga b.gone.length P2.gc) ∧ w'.cell? ⟨(w.heap.size + 1), 12, none⟩ = some (.slice P2.aa b.added.length P2.ac)) := fun W hb => by
    obtain ⟨B0, B1⟩ := HBx.out W hb
    exact ⟨B0.cell1 0 _ rfl, B0.cell1 1 _ rfl, B0.cell1 2 _ rfl, B0.cell1 3 _ rfl, B0.cell1 4 _ rfl, B0.cell1 5 _ rfl, B0.cell1 6 _ rfl, B0.cell1 7 _ rfl, B0.cell1 8 _ rfl, B0.cell1 9 _ rfl, B0.cell1 10 _ rfl, B0.cell1 11 _ rfl, B0.cell1 12 _ rfl, B1.cell1 0 _ rfl, B1.cell1 1 _ rfl, B1.cell1 2 _ rfl, B1.cell1 3 _ rfl, B1.cell1 4 _ rfl, B1.cell1 5 _ rfl, B1.cell1 6 _ rfl, B1.cell1 7 _ rfl, B1.cell1 8 _ rfl, B1.cell1 9 _ rfl, B1.cell1 10 _ rfl, B1.cell1 11 _ rfl, B1.cell1 12 _ rfl⟩
  obtain ⟨c0, c1, c2, c3, c4, c5, c6, c7, c8, c9, c10, c11, c12, d0, d1, d2, d3, d4, d5, d6, d7, d8, d9, d10, d11, d12⟩ := HA.out W1 (Below.refl _ _)
  have HG : Hid (∀ W, Below W1.heap.size W1 W → Calls Try.prog 40 #[.slice P1.ga a.gone.length P1.gc, .slice P2.ga b.gone.length P2.gc] W fun en w' => en = .returned (.bool true) ∧ Below W.heap.size W w') := fun W hb => by
    have h := HV.out.1.below (bstep HB1.out hb)
    have k := HV.out.2.below (bstep HB1.out hb)
    have := seqg_any (ca := P1.gc) (cb := P2.gc) h.g k.g h.gl k.gl
    rw [hg] at this
    exact this
  have HH : Hid (∀ W, Below W1.heap.size W1 W → Calls Try.prog 41 #[.slice P1.aa a.added.length P1.ac, .slice P2.aa b.added.length P2.ac] W fun en w' => en = .returned (.bool R3) ∧ Below W.heap.size W w') := fun W hb => by
    have h := HV.out.1.below (bstep HB1.out hb)
    have k := HV.out.2.below (bstep HB1.out hb)
    have := seqa_any (ca := P1.ac) (cb := P2.ac) h.a k.a h.al k.al
    rw [hR3] at this
    exact this
  refine wp_region_held_drew (S := fun w' => w'.cell? ⟨w.heap.size, 0, none⟩ = some (.int .u32 a.fam) ∧ w'.cell? ⟨w.heap.size, 1, none⟩ = some (.bool a.ma) ∧ w'.cell? ⟨w.heap.size, 2, none⟩ = some (.bool a.dr) ∧ w'.cell? ⟨w.heap.size, 3, none⟩ = some (.string a.name) ∧ w'.cell? ⟨w.heap.size, 4, none⟩ = some (.int .i64 a.how) ∧ w'.cell? ⟨w.heap.size, 5, none⟩ = some (.bool a.hl) ∧ w'.cell? ⟨w.heap.size, 6, none⟩ = some (.bool a.hn) ∧ w'.cell? ⟨w.heap.size, 7, none⟩ = some (.bool a.hs) ∧ w'.cell? ⟨w.heap.size, 8, none⟩ = some (.int .u64 a.log) ∧ w'.cell? ⟨w.heap.size, 9, none⟩ = some (.int .u64 a.next) ∧ w'.cell? ⟨w.heap.size, 10, none⟩ = some (.int .u64 a.seq) ∧ w'.cell? ⟨w.heap.size, 11, none⟩ = some (.slice P1.ga a.gone.length P1.gc) ∧ w'.cell? ⟨w.heap.size, 12, none⟩ = some (.slice P1.aa a.added.length P1.ac) ∧ w'.cell? ⟨(w.heap.size + 1), 0, none⟩ = some (.int .u32 b.fam) ∧ w'.cell? ⟨(w.heap.size + 1), 1, none⟩ = some (.bool b.ma) ∧ w'.cell? ⟨(w.heap.size + 1), 2, none⟩ = some (.bool b.dr) ∧ w'.cell? ⟨(w.heap.size + 1), 3, none⟩ = some (.string b.name) ∧ w'.cell? ⟨(w.heap.size + 1), 4, none⟩ = some (.int .i64 b.how) ∧ w'.cell? ⟨(w.heap.size + 1), 5, none⟩ = some (.bool b.hl) ∧ w'.cell? ⟨(w.heap.size + 1), 6, none⟩ = some (.bool b.hn) ∧ w'.cell? ⟨(w.heap.size + 1), 7, none⟩ = some (.bool b.hs) ∧ w'.cell? ⟨(w.heap.size + 1), 8, none⟩ = some (.int .u64 b.log) ∧ w'.cell? ⟨(w.heap.size + 1), 9, none⟩ = some (.int .u64 b.next) ∧ w'.cell? ⟨(w.heap.size + 1), 10, none⟩ = some (.int .u64 b.seq) ∧ w'.cell? ⟨(w.heap.size + 1), 11, none⟩ = some (.slice P2.ga b.gone.length P2.gc) ∧ w'.cell? ⟨(w.heap.size + 1), 12, none⟩ = some (.slice P2.aa b.added.length P2.ac)) (by kernel_rfl) ?_ (fun hHeld => ?_)
  · (try dsimp only); exact HA.out W1.drew (Below.refl _ _).drew
  refine wpAnyH_take (i := 0) (v := ?_) (by simp only [List.getElem?_toArray, List.getElem?_cons_zero, List.getElem?_cons_succ]; rfl) (by kernel_rfl) (by kernel_rfl) (by kernel_rfl) (by intro _ _ _ h; exact h) (Or.inl ⟨by rfl, ?_⟩) (by assumption) ?_
  rotate_left
  · intro w hSw; (try dsimp only at hSw); go_simp; (try with_reducible rfl)
  (try simp only [Act.put, List.setIfInBounds_toArray, List.set_cons_zero, List.set_cons_succ])
  refine wpAnyH_take (i := 2) (v := ?_) (by simp only [List.getElem?_toArray, List.getElem?_cons_zero, List.getElem?_cons_succ]; rfl) (by kernel_rfl) (by kernel_rfl) (by kernel_rfl) (by intro _ _ _ h; exact h) (Or.inl ⟨by rfl, ?_⟩) (by assumption) ?_
  rotate_left
  · intro w hSw; (try dsimp only at hSw); go_simp; (try with_reducible rfl)
  (try simp only [Act.put, List.setIfInBounds_toArray, List.set_cons_zero, List.set_cons_succ])
  refine wpAnyH_ready (rs := [1]) (by kernel_rfl) (by simp) ?_
  refine AllReadyH.cons rfl (fun K hK => ?_) AllReadyH.nil
  refine step_call39 (by rfl) (by rfl) _ _ (by rfl) _ (by rfl) (HSa.out _) ?_
  rintro en w2 ⟨rfl, hb⟩
  refine ⟨_, rfl, ?_⟩
  have HBw2 : Hid (Below W1.heap.size W1 w2) := bstep (Below.refl _ _).drew hb
  clear hb
  refine hK.out _ _ (HA.out w2 HBw2.out) (fun hHeld => ?_)
  clear hK K
  (try simp only [Act.put, List.setIfInBounds_toArray, List.set_cons_zero, List.set_cons_succ])
  refine wpAnyH_ready (rs := [3]) (by kernel_rfl) (by simp) ?_
  refine AllReadyH.cons rfl (fun K hK => ?_) AllReadyH.nil
  refine step_call39 (by rfl) (by rfl) _ _ (by rfl) _ (by rfl) (HSb.out _) ?_
  rintro en w3 ⟨rfl, hb⟩
  refine ⟨_, rfl, ?_⟩
  have HBw3 : Hid (Below W1.heap.size W1 w3) := bstep HBw2.out hb
  clear hb
  refine hK.out _ _ (HA.out w3 HBw3.out) (fun hHeld => ?_)
  clear hK K
  (try simp only [Act.put, List.setIfInBounds_toArray, List.set_cons_zero, List.set_cons_succ])
  refine wpAnyH_take (i := 4) (v := ?_) (by simp only [List.getElem?_toArray, List.getElem?_cons_zero, List.getElem?_cons_succ]; rfl) (by kernel_rfl) (by kernel_rfl) (by kernel_rfl) (by intro _ _ _ h; exact h) (Or.inl ⟨by rfl, ?_⟩) (by assumption) ?_
  rotate_left
  · intro w hSw; (try dsimp only at hSw); go_simp; (try with_reducible rfl)
  (try simp only [Act.put, List.setIfInBounds_toArray, List.set_cons_zero, List.set_cons_succ])
  refine wpAnyH_take (i := 5) (v := ?_) (by simp only [List.getElem?_toArray, List.getElem?_cons_zero, List.getElem?_cons_succ]; rfl) (by kernel_rfl) (by kernel_rfl) (by kernel_rfl) (by intro _ _ _ h; exact h) (Or.inl ⟨by rfl, ?_⟩) (by assumption) ?_
  rotate_left
  · intro w hSw; (try dsimp only at hSw); go_simp; (try with_reducible rfl)
  (try simp only [Act.put, List.setIfInBounds_toArray, List.set_cons_zero, List.set_cons_succ])
  refine wpAnyH_take (i := 6) (v := ?_) (by simp only [List.getElem?_toArray, List.getElem?_cons_zero, List.getElem?_cons_succ]; rfl) (by kernel_rfl) (by kernel_rfl) (by kernel_rfl) (by intro _ _ _ h; exact h) (Or.inl ⟨by rfl, ?_⟩) (by assumption) ?_
  rotate_left
  · intro w hSw; (try dsimp only at hSw); go_simp; (try with_reducible rfl)
  (try simp only [Act.put, List.setIfInBounds_toArray, List.set_cons_zero, List.set_cons_succ])
  refine wpAnyH_take (i := 7) (v := ?_) (by simp only [List.getElem?_toArray, List.getElem?_cons_zero, List.getElem?_cons_succ]; rfl) (by kernel_rfl) (by kernel_rfl) (by kernel_rfl) (by intro _ _ _ h; exact h) (Or.inl ⟨by rfl, ?_⟩) (by assumption) ?_
  rotate_left
  · intro w hSw; (try dsimp only at hSw); go_simp; (try with_reducible rfl)
  (try simp only [Act.put, List.setIfInBounds_toArray, List.set_cons_zero, List.set_cons_succ])
  refine wpAnyH_take (i := 8) (v := ?_) (by simp only [List.getElem?_toArray, List.getElem?_cons_zero, List.getElem?_cons_succ]; rfl) (by kernel_rfl) (by kernel_rfl) (by kernel_rfl) (by intro _ _ _ h; exact h) (Or.inl ⟨by rfl, ?_⟩) (by assumption) ?_
  rotate_left
  · intro w hSw; (try dsimp only at hSw); go_simp; (try with_reducible rfl)
  (try simp only [Act.put, List.setIfInBounds_toArray, List.set_cons_zero, List.set_cons_succ])
  refine wpAnyH_take (i := 9) (v := ?_) (by simp only [List.getElem?_toArray, List.getElem?_cons_zero, List.getElem?_cons_succ]; rfl) (by kernel_rfl) (by kernel_rfl) (by kernel_rfl) (by intro _ _ _ h; exact h) (Or.inl ⟨by rfl, ?_⟩) (by assumption) ?_
  rotate_left
  · intro w hSw; (try dsimp only at hSw); go_simp; (try with_reducible rfl)
  (try simp only [Act.put, List.setIfInBounds_toArray, List.set_cons_zero, List.set_cons_succ])
  refine wpAnyH_ready (rs := [10]) (by kernel_rfl) (by simp) ?_
  refine AllReadyH.cons rfl (fun K hK => ?_) AllReadyH.nil
  refine step_call40 (by rfl) (by rfl) _ _ _ (by rfl) _ _ (by rfl) (by rfl) (HG.out _ HBw3.out) ?_
  rintro en w4 ⟨rfl, hb⟩
  refine ⟨_, rfl, ?_⟩
  have HBw4 : Hid (Below W1.heap.size W1 w4) := bstep HBw3.out hb
  clear hb
  refine hK.out _ _ (HA.out w4 HBw4.out) (fun hHeld => ?_)
  clear hK K
  (try simp only [Act.put, List.setIfInBounds_toArray, List.set_cons_zero, List.set_cons_succ])
  refine wpAnyH_take (i := 11) (v := ?_) (by simp only [List.getElem?_toArray, List.getElem?_cons_zero, List.getElem?_cons_succ]; rfl) (by kernel_rfl) (by kernel_rfl) (by kernel_rfl) (by intro _ _ _ h; exact h) (Or.inl ⟨by rfl, ?_⟩) (by assumption) ?_
  rotate_left
  · intro w hSw; (try dsimp only at hSw); go_simp; (try with_reducible rfl)
  (try simp only [Act.put, List.setIfInBounds_toArray, List.set_cons_zero, List.set_cons_succ])
  refine wpAnyH_take (i := 12) (v := ?_) (by simp only [List.getElem?_toArray, List.getElem?_cons_zero, List.getElem?_cons_succ]; rfl) (by kernel_rfl) (by kernel_rfl) (by kernel_rfl) (by intro _ _ _ h; exact h) (Or.inl ⟨by rfl, ?_⟩) (by assumption) ?_
  rotate_left
  · intro w hSw; (try dsimp only at hSw); go_simp; (try with_reducible rfl)
  (try simp only [Act.put, List.setIfInBounds_toArray, List.set_cons_zero, List.set_cons_succ])
  refine wpAnyH_take (i := 13) (v := ?_) (by simp only [List.getElem?_toArray, List.getElem?_cons_zero, List.getElem?_cons_succ]; rfl) (by kernel_rfl) (by kernel_rfl) (by kernel_rfl) (by intro _ _ _ h; exact h) (Or.inl ⟨by rfl, ?_⟩) (by assumption) ?_
  rotate_left
  · intro w hSw; (try dsimp only at hSw); go_simp; (try with_reducible rfl)
  (try simp only [Act.put, List.setIfInBounds_toArray, List.set_cons_zero, List.set_cons_succ])
  refine wpAnyH_take (i := 14) (v := ?_) (by simp only [List.getElem?_toArray, List.getElem?_cons_zero, List.getElem?_cons_succ]; rfl) (by kernel_rfl) (by kernel_rfl) (by kernel_rfl) (by intro _ _ _ h; exact h) (Or.inl ⟨by rfl, ?_⟩) (by assumption) ?_
  rotate_left
  · intro w hSw; (try dsimp only at hSw); go_simp; (try with_reducible rfl)
  (try simp only [Act.put, List.setIfInBounds_toArray, List.set_cons_zero, List.set_cons_succ])
  refine wpAnyH_take (i := 15) (v := ?_) (by simp only [List.getElem?_toArray, List.getElem?_cons_zero, List.getElem?_cons_succ]; rfl) (by kernel_rfl) (by kernel_rfl) (by kernel_rfl) (by intro _ _ _ h; exact h) (Or.inl ⟨by rfl, ?_⟩) (by assumption) ?_
  rotate_left
  · intro w hSw; (try dsimp only at hSw); go_simp; (try with_reducible rfl)
  (try simp only [Act.put, List.setIfInBounds_toArray, List.set_cons_zero, List.set_cons_succ])
  refine wpAnyH_take (i := 16) (v := ?_) (by simp only [List.getElem?_toArray, List.getElem?_cons_zero, List.getElem?_cons_succ]; rfl) (by kernel_rfl) (by kernel_rfl) (by kernel_rfl) (by intro _ _ _ h; exact h) (Or.inl ⟨by rfl, ?_⟩) (by assumption) ?_
  rotate_left
  · intro w hSw; (try dsimp only at hSw); go_simp; (try with_reducible rfl)
  (try simp only [Act.put, List.setIfInBounds_toArray, List.set_cons_zero, List.set_cons_succ])
  refine wpAnyH_ready (rs := [17]) (by kernel_rfl) (by simp) ?_
  refine AllReadyH.cons rfl (fun K hK => ?_) AllReadyH.nil
  refine step_call41 (by rfl) (by rfl) _ _ _ (by rfl) _ _ (by rfl) (by rfl) (HH.out _ HBw4.out) ?_
  rintro en w5 ⟨rfl, hb⟩
  refine ⟨_, rfl, ?_⟩
  have HBw5 : Hid (Below W1.heap.size W1 w5) := bstep HBw4.out hb
  clear hb
  refine hK.out _ _ (HA.out w5 HBw5.out) (fun hHeld => ?_)
  clear hK K
  (try simp only [Act.put, List.setIfInBounds_toArray, List.set_cons_zero, List.set_cons_succ])
  refine wpAnyH_take (i := 18) (v := ?_) (by simp only [List.getElem?_toArray, List.getElem?_cons_zero, List.getElem?_cons_succ]; rfl) (by kernel_rfl) (by kernel_rfl) (by kernel_rfl) (by intro _ _ _ h; exact h) (Or.inl ⟨by rfl, ?_⟩) (by assumption) ?_
  rotate_left
  · intro w hSw; (try dsimp only at hSw); go_simp; (try with_reducible rfl)
  (try simp only [Act.put, List.setIfInBounds_toArray, List.set_cons_zero, List.set_cons_succ])
  refine wpAnyH_take (i := 19) (v := ?_) (by simp only [List.getElem?_toArray, List.getElem?_cons_zero, List.getElem?_cons_succ]; rfl) (by kernel_rfl) (by kernel_rfl) (by kernel_rfl) (by intro _ _ _ h; exact h) (Or.inl ⟨by rfl, ?_⟩) (by assumption) ?_
  rotate_left
  · intro w hSw; (try dsimp only at hSw); go_simp; (try with_reducible rfl)
  (try simp only [Act.put, List.setIfInBounds_toArray, List.set_cons_zero, List.set_cons_succ])
  refine wpAnyH_done (by kernel_rfl) ?_ _
  clear hHeld
  go_wp2
  go_ret
  exact ⟨rfl, bstep HB1.out HBw5.out⟩
/-- What Same tells. -/
def sameB (a b : Ed) : Bool := seq75 (plainE a) (plainE b) && (lgq a.gone b.gone && laq a.added b.added)
theorem same_any {w : World} {P1 P2 : En} {a b : Ed} (h1 : RdEd w P1 a) (h2 : RdEd w P2 b) : Calls Try.prog 12 #[.agg (edA P1 a), .agg (edA P2 b)] w fun en w' => en = .returned (.bool (sameB a b)) ∧ Below w.heap.size w w' := by
  unfold sameB
  cases hs : seq75 (plainE a) (plainE b)
  · exact same_no1 h1 h2 hs
  · cases hg : lgq a.gone b.gone
    · exact same_no2 h1 h2 hs hg
    · exact same_yes h1 h2 hs hg
end Go.Proofs.Ytkmpcheamdadcaa
