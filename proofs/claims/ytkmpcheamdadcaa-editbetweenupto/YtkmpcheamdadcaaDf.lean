/-
  The reader with an edit under way; room f103.
-/
import Derived.Test.YtkmpcheamdadcaaDe
import Derived.Test.YtkmpcheamdadcaaYj
import Derived.Deep.RegionLaw
namespace Go.Proofs.Ytkmpcheamdadcaa
open Go.RowKit
set_option linter.unusedVariables false
set_option linter.unusedSimpArgs false
/-- The reader, and the edit as far as it was read: its bytes lie below B, its lists' rows at or above M. -/
structure Rs (B M : Nat) (w : World) (rb : Nat) (l : List Int) (P : En) (e : Ed) : Prop where
  rd : Rdl B w rb l (edA P e).toList
  o : OwnE w M P e
  n : e.gone.length + e.added.length ≤ 1024
  m : B ≤ M ∧ M ≤ w.heap.size
def Fr (M rb : Nat) : Nat → Prop := fun k => k = rb ∨ M ≤ k
theorem Rs.blk {B M : Nat} {w : World} {rb : Nat} {l : List Int} {P : En} {e : Ed} (h : Rs B M w rb l P e) : ∃ v, Blk w rb 80 (v :: (edA P e).toList) := by
  obtain ⟨a, cap, hB, _⟩ := h.rd
  exact ⟨_, hB⟩
theorem Rs.own {B M : Nat} {w w' : World} {rb : Nat} {l : List Int} {P : En} {e : Ed} (h : Rs B M w rb l P e) (hu : Upd (Is rb) w w') : OwnE w' M P e := by
  obtain ⟨v, hB⟩ := h.blk
  exact ⟨row_upd h.o.g hu (fun k hk e => row_ne h.o.g hB (by decide) k hk e), row_upd h.o.a hu (fun k hk e => row_ne h.o.a hB (by decide) k hk e)⟩
theorem Rs.call {B M : Nat} {w w' : World} {rb : Nat} {l l' : List Int} {P : En} {e : Ed} (h : Rs B M w rb l P e) (hr : Rdl B w' rb l' (edA P e).toList) (hu : Upd (Is rb) w w') : Rs B M w' rb l' P e := ⟨hr, h.own hu, h.n, h.m.1, Nat.le_trans h.m.2 hu.size⟩
theorem Rdl.set {B : Nat} {w : World} {rb : Nat} {l : List Int} {cs : List Value} (h : Rdl B w rb l cs) (i : Nat) (v : Value) : Rdl B (w.setCell ⟨rb, i + 1, none⟩ v) rb l (cs.set i v) ∧ Upd (Is rb) w (w.setCell ⟨rb, i + 1, none⟩ v) := by
  obtain ⟨a, cap, hB, hA, hcap, hrb, hlt⟩ := h
  have U : Upd (Is rb) w (w.setCell ⟨rb, i + 1, none⟩ v) := Upd.setCell (p := ⟨rb, i + 1, none⟩) (Upd.refl (Is rb) w) (fun _ => rfl) _
  refine ⟨⟨a, cap, ?_, hA.upd U (fun b off hk e => by have := hlt _ hk; unfold Is at e; dsimp only at this; omega), hcap, hrb, hlt⟩, U⟩
  exact hB.set (i + 1) v
theorem Rs.set {B M : Nat} {w : World} {rb : Nat} {l : List Int} {P : En} {e e' : Ed} (h : Rs B M w rb l P e) (i : Nat) (v : Value) (hc : (edA P e).toList.set i v = (edA P e').toList) (hg : e'.gone = e.gone) (ha : e'.added = e.added) : Rs B M (w.setCell ⟨rb, i + 1, none⟩ v) rb l P e' := by
  have h1 := h.rd.set i v
  rw [hc] at h1
  have h2 := h.own h1.2
  refine ⟨h1.1, ⟨?_, ?_⟩, by rw [hg, ha]; exact h.n, h.m.1, Nat.le_trans h.m.2 h1.2.size⟩
  · rw [hg]; exact h2.g
  · rw [ha]; exact h2.a
theorem upd_is {B M : Nat} {w w' : World} {rb : Nat} (h : B ≤ rb) (u : Upd (Is rb) w w') : Upd (Fr M rb) w w' := u.mono (fun k _ hk => .inl hk)
theorem Rs.cell {B M : Nat} {w : World} {rb : Nat} {l : List Int} {P : En} {e : Ed} (h : Rs B M w rb l P e) (i : Nat) (v : Value) (hv : (edA P e).toList[i]? = some v) : w.cell? ⟨rb, i + 1, none⟩ = some v ∧ w.frozen? ⟨rb, i + 1, none⟩ = false := by
  obtain ⟨u, hB⟩ := h.blk
  exact ⟨hB.cell1 (i + 1) v hv, hB.frozen (i + 1)⟩
/-- A call at a step of a region. -/
theorem step_call77 {ops : Array Oper} {o : Oper} {a : Act} {w : World} {K : Act → World → Prop} {Q : Exit → Act → World → Prop} {Ex : Prop} (hgd : o.guard = none) (x : Operand) (ts : Array TypeId)
    (ho : o.op = .call { callee := .value (.func 77), args := #[x], argTypes := ts }) (v : Value) (hx : a.eval x = v) {R : Ending → World → Prop} (hc : Calls Try.prog 77 #[v] w R)
    (h : ∀ e w', R e w' → ∃ r, e = .returned r ∧ K (a.put o.dst r) w') :
    if Region.wanted o (yielded ops a.tmps) = true then Oper.wp Try.prog o a w K Q else Ex := by
  have hw : Region.wanted o (yielded ops a.tmps) = true := by simp [Region.wanted, hgd]
  rw [if_pos hw]
  have he := enters_of (P := Try.prog) Try.func77 (by kernel_rfl) rfl #[v]
  unfold Oper.wp execOp
  simp only [ho, resolve, invoke, Sem.run_bind, Sem.run_pure, Result.andThen_ok, List.map_toArray, List.map_cons, List.map_nil, hx, go_sem]
  show Oper.upon Try.prog o a K Q (Sem.run Try.prog (callFunc 77 (#[] ++ #[a.eval x] ++ #[])) w)
  rw [show (#[] ++ #[a.eval x] ++ #[] : Array Value) = #[v] by simp [hx], he, Oper.upon_enter]
  refine hc.mono ?_
  intro e w' hR
  obtain ⟨r, rfl, hk⟩ := h e w' hR
  exact hk
/-- A call that panics, at such a step: nothing follows. -/
theorem step_panic77 {ops : Array Oper} {o : Oper} {a : Act} {w : World} {K : Act → World → Prop} {Q : Exit → Act → World → Prop} {Ex : Prop} (hgd : o.guard = none) (x : Operand) (ts : Array TypeId)
    (ho : o.op = .call { callee := .value (.func 77), args := #[x], argTypes := ts }) (v : Value) (hx : a.eval x = v) {R : Ending → World → Prop} (hc : Calls Try.prog 77 #[v] w R)
    (h : ∀ e w', R e w' → ∃ ch, e = .panicked ch ∧ Q (.panic ch) a w') (r0 : Value) (w0 : World) (hK : Hid False → K (a.put o.dst r0) w0) :
    if Region.wanted o (yielded ops a.tmps) = true then Oper.wp Try.prog o a w K Q else Ex := by
  have hw : Region.wanted o (yielded ops a.tmps) = true := by simp [Region.wanted, hgd]
  rw [if_pos hw]
  have he := enters_of (P := Try.prog) Try.func77 (by kernel_rfl) rfl #[v]
  unfold Oper.wp execOp
  simp only [ho, resolve, invoke, Sem.run_bind, Sem.run_pure, Result.andThen_ok, List.map_toArray, List.map_cons, List.map_nil, hx, go_sem]
  show Oper.upon Try.prog o a K Q (Sem.run Try.prog (callFunc 77 (#[] ++ #[a.eval x] ++ #[])) w)
  rw [show (#[] ++ #[a.eval x] ++ #[] : Array Value) = #[v] by simp [hx], he, Oper.upon_enter]
  refine hc.mono ?_
  intro e w' hR
  obtain ⟨ch, rfl, hk⟩ := h e w' hR
  exact hk
/-- A call at a step of a region. -/
theorem step_call102 {ops : Array Oper} {o : Oper} {a : Act} {w : World} {K : Act → World → Prop} {Q : Exit → Act → World → Prop} {Ex : Prop} (hgd : o.guard = none) (x : Operand) (ts : Array TypeId)
    (ho : o.op = .call { callee := .value (.func 102), args := #[x], argTypes := ts }) (v : Value) (hx : a.eval x = v) {R : Ending → World → Prop} (hc : Calls Try.prog 102 #[v] w R)
    (h : ∀ e w', R e w' → ∃ r, e = .returned r ∧ K (a.put o.dst r) w') :
    if Region.wanted o (yielded ops a.tmps) = true then Oper.wp Try.prog o a w K Q else Ex := by
  have hw : Region.wanted o (yielded ops a.tmps) = true := by simp [Region.wanted, hgd]
  rw [if_pos hw]
  have he := enters_of (P := Try.prog) Try.func102 (by kernel_rfl) rfl #[v]
  unfold Oper.wp execOp
  simp only [ho, resolve, invoke, Sem.run_bind, Sem.run_pure, Result.andThen_ok, List.map_toArray, List.map_cons, List.map_nil, hx, go_sem]
  show Oper.upon Try.prog o a K Q (Sem.run Try.prog (callFunc 102 (#[] ++ #[a.eval x] ++ #[])) w)
  rw [show (#[] ++ #[a.eval x] ++ #[] : Array Value) = #[v] by simp [hx], he, Oper.upon_enter]
  refine hc.mono ?_
  intro e w' hR
  obtain ⟨r, rfl, hk⟩ := h e w' hR
  exact hk
/-- A call that panics, at such a step: nothing follows. -/
theorem step_panic102 {ops : Array Oper} {o : Oper} {a : Act} {w : World} {K : Act → World → Prop} {Q : Exit → Act → World → Prop} {Ex : Prop} (hgd : o.guard = none) (x : Operand) (ts : Array TypeId)
    (ho : o.op = .call { callee := .value (.func 102), args := #[x], argTypes := ts }) (v : Value) (hx : a.eval x = v) {R : Ending → World → Prop} (hc : Calls Try.prog 102 #[v] w R)
    (h : ∀ e w', R e w' → ∃ ch, e = .panicked ch ∧ Q (.panic ch) a w') (r0 : Value) (w0 : World) (hK : Hid False → K (a.put o.dst r0) w0) :
    if Region.wanted o (yielded ops a.tmps) = true then Oper.wp Try.prog o a w K Q else Ex := by
  have hw : Region.wanted o (yielded ops a.tmps) = true := by simp [Region.wanted, hgd]
  rw [if_pos hw]
  have he := enters_of (P := Try.prog) Try.func102 (by kernel_rfl) rfl #[v]
  unfold Oper.wp execOp
  simp only [ho, resolve, invoke, Sem.run_bind, Sem.run_pure, Result.andThen_ok, List.map_toArray, List.map_cons, List.map_nil, hx, go_sem]
  show Oper.upon Try.prog o a K Q (Sem.run Try.prog (callFunc 102 (#[] ++ #[a.eval x] ++ #[])) w)
  rw [show (#[] ++ #[a.eval x] ++ #[] : Array Value) = #[v] by simp [hx], he, Oper.upon_enter]
  refine hc.mono ?_
  intro e w' hR
  obtain ⟨ch, rfl, hk⟩ := h e w' hR
  exact hk
/-- A call at a step of a region. -/
theorem step_call104 {ops : Array Oper} {o : Oper} {a : Act} {w : World} {K : Act → World → Prop} {Q : Exit → Act → World → Prop} {Ex : Prop} (hgd : o.guard = none) (x : Operand) (ts : Array TypeId)
    (ho : o.op = .call { callee := .value (.func 104), args := #[x], argTypes := ts }) (v : Value) (hx : a.eval x = v) {R : Ending → World → Prop} (hc : Calls Try.prog 104 #[v] w R)
    (h : ∀ e w', R e w' → ∃ r, e = .returned r ∧ K (a.put o.dst r) w') :
    if Region.wanted o (yielded ops a.tmps) = true then Oper.wp Try.prog o a w K Q else Ex := by
  have hw : Region.wanted o (yielded ops a.tmps) = true := by simp [Region.wanted, hgd]
  rw [if_pos hw]
  have he := enters_of (P := Try.prog) Try.func104 (by kernel_rfl) rfl #[v]
  unfold Oper.wp execOp
  simp only [ho, resolve, invoke, Sem.run_bind, Sem.run_pure, Result.andThen_ok, List.map_toArray, List.map_cons, List.map_nil, hx, go_sem]
  show Oper.upon Try.prog o a K Q (Sem.run Try.prog (callFunc 104 (#[] ++ #[a.eval x] ++ #[])) w)
  rw [show (#[] ++ #[a.eval x] ++ #[] : Array Value) = #[v] by simp [hx], he, Oper.upon_enter]
  refine hc.mono ?_
  intro e w' hR
  obtain ⟨r, rfl, hk⟩ := h e w' hR
  exact hk
/-- A call that panics, at such a step: nothing follows. -/
theorem step_panic104 {ops : Array Oper} {o : Oper} {a : Act} {w : World} {K : Act → World → Prop} {Q : Exit → Act → World → Prop} {Ex : Prop} (hgd : o.guard = none) (x : Operand) (ts : Array TypeId)
    (ho : o.op = .call { callee := .value (.func 104), args := #[x], argTypes := ts }) (v : Value) (hx : a.eval x = v) {R : Ending → World → Prop} (hc : Calls Try.prog 104 #[v] w R)
    (h : ∀ e w', R e w' → ∃ ch, e = .panicked ch ∧ Q (.panic ch) a w') (r0 : Value) (w0 : World) (hK : Hid False → K (a.put o.dst r0) w0) :
    if Region.wanted o (yielded ops a.tmps) = true then Oper.wp Try.prog o a w K Q else Ex := by
  have hw : Region.wanted o (yielded ops a.tmps) = true := by simp [Region.wanted, hgd]
  rw [if_pos hw]
  have he := enters_of (P := Try.prog) Try.func104 (by kernel_rfl) rfl #[v]
  unfold Oper.wp execOp
  simp only [ho, resolve, invoke, Sem.run_bind, Sem.run_pure, Result.andThen_ok, List.map_toArray, List.map_cons, List.map_nil, hx, go_sem]
  show Oper.upon Try.prog o a K Q (Sem.run Try.prog (callFunc 104 (#[] ++ #[a.eval x] ++ #[])) w)
  rw [show (#[] ++ #[a.eval x] ++ #[] : Array Value) = #[v] by simp [hx], he, Oper.upon_enter]
  refine hc.mono ?_
  intro e w' hR
  obtain ⟨ch, rfl, hk⟩ := h e w' hR
  exact hk
/-- A call at a step of a region. -/
theorem step_call105 {ops : Array Oper} {o : Oper} {a : Act} {w : World} {K : Act → World → Prop} {Q : Exit → Act → World → Prop} {Ex : Prop} (hgd : o.guard = none) (x : Operand) (ts : Array TypeId)
    (ho : o.op = .call { callee := .value (.func 105), args := #[x], argTypes := ts }) (v : Value) (hx : a.eval x = v) {R : Ending → World → Prop} (hc : Calls Try.prog 105 #[v] w R)
    (h : ∀ e w', R e w' → ∃ r, e = .returned r ∧ K (a.put o.dst r) w') :
    if Region.wanted o (yielded ops a.tmps) = true then Oper.wp Try.prog o a w K Q else Ex := by
  have hw : Region.wanted o (yielded ops a.tmps) = true := by simp [Region.wanted, hgd]
  rw [if_pos hw]
  have he := enters_of (P := Try.prog) Try.func105 (by kernel_rfl) rfl #[v]
  unfold Oper.wp execOp
  simp only [ho, resolve, invoke, Sem.run_bind, Sem.run_pure, Result.andThen_ok, List.map_toArray, List.map_cons, List.map_nil, hx, go_sem]
  show Oper.upon Try.prog o a K Q (Sem.run Try.prog (callFunc 105 (#[] ++ #[a.eval x] ++ #[])) w)
  rw [show (#[] ++ #[a.eval x] ++ #[] : Array Value) = #[v] by simp [hx], he, Oper.upon_enter]
  refine hc.mono ?_
  intro e w' hR
  obtain ⟨r, rfl, hk⟩ := h e w' hR
  exact hk
/-- A call that panics, at such a step: nothing follows. -/
theorem step_panic105 {ops : Array Oper} {o : Oper} {a : Act} {w : World} {K : Act → World → Prop} {Q : Exit → Act → World → Prop} {Ex : Prop} (hgd : o.guard = none) (x : Operand) (ts : Array TypeId)
    (ho : o.op = .call { callee := .value (.func 105), args := #[x], argTypes := ts }) (v : Value) (hx : a.eval x = v) {R : Ending → World → Prop} (hc : Calls Try.prog 105 #[v] w R)
    (h : ∀ e w', R e w' → ∃ ch, e = .panicked ch ∧ Q (.panic ch) a w') (r0 : Value) (w0 : World) (hK : Hid False → K (a.put o.dst r0) w0) :
    if Region.wanted o (yielded ops a.tmps) = true then Oper.wp Try.prog o a w K Q else Ex := by
  have hw : Region.wanted o (yielded ops a.tmps) = true := by simp [Region.wanted, hgd]
  rw [if_pos hw]
  have he := enters_of (P := Try.prog) Try.func105 (by kernel_rfl) rfl #[v]
  unfold Oper.wp execOp
  simp only [ho, resolve, invoke, Sem.run_bind, Sem.run_pure, Result.andThen_ok, List.map_toArray, List.map_cons, List.map_nil, hx, go_sem]
  show Oper.upon Try.prog o a K Q (Sem.run Try.prog (callFunc 105 (#[] ++ #[a.eval x] ++ #[])) w)
  rw [show (#[] ++ #[a.eval x] ++ #[] : Array Value) = #[v] by simp [hx], he, Oper.upon_enter]
  refine hc.mono ?_
  intro e w' hR
  obtain ⟨ch, rfl, hk⟩ := h e w' hR
  exact hk
set_option maxRecDepth 100000 in
set_option maxHeartbeats 1000000 in
theorem room_any {B M : Nat} {w : World} {rb : Nat} {l : List Int} {P : En} {e : Ed} (h : Rs B M w rb l P e) :
    (roomB e = true → Calls Try.prog 103 #[ptr rb] w fun en w' => en = .returned (.tuple #[]) ∧ Below w.heap.size w w') ∧ (roomB e = false → Calls Try.prog 103 #[ptr rb] w fun en w' => en = pnk 3 ∧ Below w.heap.size w w') := by
  have c1 := (h.cell 11 _ rfl).1
  have c2 := (h.cell 12 _ rfl).1
  have hn := h.n
  have hl := h.rd.lt.1
  have hr : roomB e = decide (e.gone.length + e.added.length < 1024) := rfl
  rw [hr]
  clear hr h
  generalize e.gone.length = G at *
  generalize e.added.length = A at *
  have hw : IntKind.i64.wrap ((G : Int) + (A : Int)) = (G : Int) + (A : Int) := by rw [IntKind.wrap_i64]; omega
  constructor
  · intro hd
    have hd' : ((G : Int) + (A : Int) < 1024) := by simp at hd; omega
    go_enter Try.func103, Try.ntmps103
    go_wp2_with fail
    go_region_with (go_at_call 77; refine (must_yes _).mono ?_; rintro e w3 ⟨rfl, rfl⟩)
    all_goals
      go_wp2
      go_end0
      exact ⟨rfl, (Below.refl _ _).drew⟩
  · intro hd
    have hd' : ¬ ((G : Int) + (A : Int) < 1024) := by simp at hd; omega
    have hd2 : decide ((G : Int) + (A : Int) < 1024) = false := decide_eq_false hd'
    go_enter Try.func103, Try.ntmps103
    go_wp2_with fail
    go_region_law (first
      | (refine step_panic77 (by rfl) _ _ (by rfl) _ (by rfl) (must_bn (by first | rfl | assumption | (simp; omega)) _) (fun e w' hh => ⟨_, hh.1, ⟨rfl, by rw [hh.2]; exact ⟨rfl, (Below.refl _ _).drew⟩⟩⟩) (.tuple #[]) w ?_; intro hF)
      | fail)
    all_goals exact hF.out.elim
end Go.Proofs.Ytkmpcheamdadcaa
