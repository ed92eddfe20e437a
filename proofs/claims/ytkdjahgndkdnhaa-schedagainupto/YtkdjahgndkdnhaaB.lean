import Derived.Test.YtkdjahgndkdnhaaA
import Derived.Deep.RegionWith
import Derived.Deep.RegionLaw
namespace Go.Proofs.Ytkdjahgndkdnhaa
open Go.RowKit Go.Maps
set_option linter.unusedVariables false
set_option linter.unusedSimpArgs false

/-- A task. -/
structure Tk where
  name : ByteArray
  step : Value
  kind : Int
  on : Int
  since : Int
  failed : Bool
def Tk.c (t : Tk) : List Value := [.string t.name, t.step, .int .i64 t.kind, .int .i64 t.on, .int .i64 t.since, .bool t.failed]
def scC (rv : Value) (m : Nat) (st : Int) (wi : Bool) : List Value := [rv, .map (some m), .int .i64 st, .bool wi]
/-- Tasks at their places. -/
def Tks (w : World) (ps : List Nat) (ts : List Tk) : Prop := ∀ (i p : Nat) (t : Tk), ps[i]? = some p → ts[i]? = some t → Blk w p 85 t.c
/-- Block b is a scheduler. -/
structure Sc (w : World) (b : Nat) (rv : Value) (m : Nat) (ps : List Nat) (ts : List Tk) (H : Int → Option Int) (st : Nat) (wi : Bool) (c : Nat) : Prop where
  blk : Blk w b 71 (scC rv m st wi)
  row : w.ownsRow 0 83 1 rv ps.length (ps.map ptr)
  tks : Tks w ps ts
  len : ts.length = ps.length
  nd : ps.Nodup
  map : ∃ D, IM w m H c D
/-- The scheduler's blocks. -/
def SB (b : Nat) (rv : Value) (m : Nat) (ps : List Nat) : Nat → Prop := fun k => k = b ∨ rv.ownBlock = some k ∨ k = m ∨ k ∈ ps
section
variable {w : World} {b : Nat} {rv : Value} {m : Nat} {ps : List Nat} {ts : List Tk} {H : Int → Option Int} {st : Nat} {wi : Bool} {c : Nat}
theorem Sc.upd {S : Nat → Prop} {w' : World} (h : Sc w b rv m ps ts H st wi c) (u : Upd S w w') (hS : ∀ k, SB b rv m ps k → ¬ S k) : Sc w' b rv m ps ts H st wi c := by
  obtain ⟨D, hD⟩ := h.map
  exact ⟨h.blk.upd u (hS _ (.inl rfl)), row_upd h.row u (fun k hk => hS _ (.inr (.inl hk))), fun i p t hp ht => (h.tks i p t hp ht).upd u (hS _ (.inr (.inr (.inr (List.mem_of_getElem? hp))))), h.len, h.nd, D, hD.upd u (hS _ (.inr (.inr (.inl rfl))))⟩
theorem Sc.below {w' : World} (h : Sc w b rv m ps ts H st wi c) (u : Below w.heap.size w w') : Sc w' b rv m ps ts H st wi c :=
  h.upd (S := Non) (Upd.ofBelow u) (fun _ _ hh => hh)
theorem Sc.sb_lt (h : Sc w b rv m ps ts H st wi c) : ∀ k, SB b rv m ps k → k < w.heap.size := by
  obtain ⟨D, hD⟩ := h.map
  rintro k (rfl | hk | rfl | hk)
  · exact h.blk.lt
  · exact (h.row.lt k hk).2
  · exact hD.lt
  · obtain ⟨i, hi⟩ := List.mem_iff_getElem?.1 hk
    have : i < ts.length := by rw [h.len]; exact (List.getElem?_eq_some_iff.1 hi).1
    exact (h.tks i k _ hi (List.getElem?_eq_getElem this)).lt
theorem Sc.mono (h : Sc w b rv m ps ts H st wi c) {c' : Nat} (hc : c ≤ c') : Sc w b rv m ps ts H st wi c' := by
  obtain ⟨D, hD⟩ := h.map
  exact ⟨h.blk, h.row, h.tks, h.len, h.nd, D, hD.own.mono hc, hD.at_, hD.has⟩
/-- The block of the task i. -/
theorem Sc.task (h : Sc w b rv m ps ts H st wi c) {i : Nat} {t : Tk} (ht : ts[i]? = some t) : ∃ p, ps[i]? = some p ∧ Blk w p 85 t.c := by
  have : i < ps.length := by rw [← h.len]; exact (List.getElem?_eq_some_iff.1 ht).1
  exact ⟨_, List.getElem?_eq_getElem this, h.tks i _ t (List.getElem?_eq_getElem this) ht⟩
/-- A cell of the row of tasks. -/
theorem Sc.at_ (h : Sc w b rv m ps ts H st wi c) {i p : Nat} (hp : ps[i]? = some p) : ∃ g cap, rv = .slice (some ⟨g, 0, none⟩) ps.length cap ∧ w.cell? ⟨g, i, none⟩ = some (ptr p) := by
  have hi : i < ps.length := (List.getElem?_eq_some_iff.1 hp).1
  have hr := h.row
  rcases hr.2 with ⟨_, h0⟩ | ⟨g, cap, cur, rfl, _⟩
  · omega
  · refine ⟨g, cap, rfl, ?_⟩
    have := hr.cells (g := g) rfl i (ptr p) (by simp [hp])
    rw [add_at] at this
    simpa using this
theorem Sc.rvlen (h : Sc w b rv m ps ts H st wi c) : ∃ a cap, rv = .slice a ps.length cap := by
  rcases h.row.2 with ⟨rfl, h0⟩ | ⟨g, cap, cur, rfl, _⟩
  · exact ⟨none, 0, by rw [h0]⟩
  · exact ⟨_, _, rfl⟩
end

set_option maxRecDepth 100000 in
theorem new_any (w : World) : Calls Try.prog 8 #[] w fun e w' => e = .returned (ptr (w.heap.size + 1)) ∧ Sc w' (w.heap.size + 1) (.slice none 0 0) w.heap.size [] [] (fun _ => none) 0 false 0 ∧ Below w.heap.size w w' := by
  have hmk : ∀ w : World, (Instr.makeMap 68 none).run Try.prog w = .ok (.map (some w.heap.size)) (w.alloc (.map #[] 0)) := fun w => @run_makeMap Try.prog _ _
  go_enter Try.func8, Try.ntmps8
  go_wp2
  go_ret
  refine ⟨rfl, ⟨?_, World.ownsRow_nil _ _ _ _, by intro i p t hp; simp at hp, rfl, List.nodup_nil, _, ((IM.made w).own.alloc _), (IM.made w).at_, (IM.made w).has⟩, ?_⟩
  · have := Blk.new (w.alloc (.map #[] 0)) 71 (scC (.slice none 0 0) w.heap.size 0 false)
    rw [World.size_alloc] at this
    exact this
  · exact ((Below.refl _ w).alloc (Nat.le_refl _) _).alloc (by simp) _
theorem info_parts {t : TypeId} {z : Value} {n k : Nat} (h : (Try.prog.info? t).map (fun i => (i.zero, i.size, i.bytes)) = some (some z, n, k)) : ∃ i, Try.prog.info? t = some i ∧ i.zero = some z ∧ i.size = n ∧ i.bytes = k := by
  cases hi : Try.prog.info? t with
  | none => rw [hi] at h; cases h
  | some i => rw [hi] at h; simp at h; exact ⟨i, rfl, h.1, h.2.1, h.2.2⟩
theorem info83 : (Try.prog.info? 83).map (fun i => (i.zero, i.size, i.bytes)) = some (some (.pointer none), 1, 8) := by kernel_rfl
theorem info3 : (Try.prog.info? 3).map (fun i => (i.zero, i.size, i.bytes)) = some (some (.int .i64 0), 1, 8) := by kernel_rfl
theorem row_form {w : World} {base : Nat} {e : TypeId} {size : Nat} {v : Value} {n : Nat} {xs : List Value} (h : w.ownsRow base e size v n xs) : ∃ a c, v = .slice a n c := by
  rcases h.2 with ⟨rfl, rfl⟩ | ⟨g, cap, cur, rfl, _⟩
  · exact ⟨_, _, rfl⟩
  · exact ⟨_, _, rfl⟩
/-- append of one pointer, or one int. -/
theorem push1 {w : World} {ops : Array Oper} {rest : List Oper} {o : Oper} {a : Act} {Q : Exit → Act → World → Prop} (hgd : o.guard = none) (s x : Operand) (t e : TypeId) (z : Value) (ht : Try.prog.underlying t = some (.slice e)) (hinfo : (Try.prog.info? e).map (fun i => (i.zero, i.size, i.bytes)) = some (some z, 1, 8)) (hz : z.cells.size = 1)
    (ho : o.op = .call { callee := .builtin .append, args := #[s, x], argTypes := #[t, t] }) {base : Nat} {v : Value} {n : Nat} {xs : List Value} (hs : a.eval s = v) {B : Nat} (hx : a.eval x = .slice (some ⟨B, 0, none⟩) 1 1) (u : Value) (hu : u.oneCell' = true) (hown : w.ownsRow base e 1 v n xs) (hcell : w.cell? ⟨B, 0, none⟩ = some u) (hn : n ≤ 1000000000000) (hbase : base ≤ w.heap.size)
    (h : ∀ av cv w', w'.ownsRow base e 1 (.slice av (n + 1) cv) (n + 1) (xs ++ [u]) → w.grownBy w' v.ownBlock → (Value.ownBlock (.slice av (n + 1) cv) = v.ownBlock ∨ Value.ownBlock (.slice av (n + 1) cv) = some w.heap.size) → wpList Try.prog ops Q rest (a.put o.dst (.slice av (n + 1) cv)) w') :
    wpList Try.prog ops Q (o :: rest) a w := by
  obtain ⟨i0, hi, hz0, hz1, hz2⟩ := info_parts hinfo
  refine wpList_append_own_at _ hgd _ _ t ho base e i0 z 1 8 ht hi hz0 hz1 hz2 hz (by decide) v n xs hs hown ⟨B, 0, none⟩ 1 1 [u] hx rfl ?_ (by simp [hu]) (by unfold maxLen; omega) (by omega) hbase ?_
  · intro j v hj
    match j, hj with
    | 0, hj =>
      simp at hj
      subst hj
      simpa [Addr.add] using hcell
  · intro v' w' h1 h2 _ h4
    obtain ⟨av, cv, rfl⟩ := row_form h1
    exact h av cv w' h1 h2 h4
section
variable {w : World} {b : Nat} {rv : Value} {m : Nat} {ps : List Nat} {ts : List Tk} {H : Int → Option Int} {st : Nat} {wi : Bool} {c : Nat}
set_option maxRecDepth 100000 in
theorem steps_any (h : Sc w b rv m ps ts H st wi c) : Calls Try.prog 20 #[ptr b] w fun e w' => e = .returned (.int .i64 st) ∧ w' = w := by
  have c2 := h.blk.cell1 2 _ rfl
  go_enter Try.func20, Try.ntmps20
  go_wp2
  go_ret
  exact ⟨rfl, rfl⟩
set_option maxRecDepth 100000 in
set_option maxHeartbeats 1000000 in
/-- Spawn of a step that is one. -/
theorem spawn_any (h : Sc w b rv m ps ts H st wi c) (hl : ps.length < 64) (name : ByteArray) (g : Fn) (bd cp : Array Value) :
    Calls Try.prog 13 #[ptr b, .string name, .func g bd cp] w fun e w' => e = .returned (.tuple #[.int .i64 ps.length, .int .i64 0]) ∧ ∃ rv', Sc w' b rv' m (ps ++ [w.heap.size]) (ts ++ [⟨name, .func g bd cp, 0, 0, 0, false⟩]) H st wi c ∧ Upd (fun k => k = b ∨ rv.ownBlock = some k) w w' ∧ (rv'.ownBlock = rv.ownBlock ∨ ∀ j, rv'.ownBlock = some j → w.heap.size ≤ j) := by
  obtain ⟨ra, rc, hrv⟩ := h.rvlen
  have c0 := h.blk.cell1 0 _ rfl
  have hb := h.blk.lt
  have hrd := row_ne h.row h.blk (by decide)
  have hnf : ∀ w : World, (binOp .eql 66 (.func g bd cp) .nilFunc).run Try.prog w = .ok (.bool false) w := fun w => by kernel_rfl
  have hne : ((ps.length : Int) == 64) = false := by simp; omega
  have hrow := h.row
  rw [hrv] at c0 hrow hrd
  obtain ⟨OB, hOB⟩ : ∃ OB, OB = Value.ownBlock (.slice ra ps.length rc) := ⟨_, rfl⟩
  go_enter Try.func13, Try.ntmps13
  go_wp2_with
    (at_builtin
     refine push1 rfl _ _ 69 83 (.pointer none) Try.underlying69 info83 rfl rfl rfl rfl (ptr w.heap.size) rfl ((hrow.alloc _).alloc _) (by simp) (by omega) (Nat.zero_le _) ?_
     intro oa oc w1 ho' hg hloc
     have D1 := (((h.blk.alloc _).alloc _).upd (S := fun k => Value.ownBlock (.slice ra ps.length rc) = some k) (Upd.grown (Upd.refl _ _) hg (fun k hk _ => hk)) (fun hk => hrd b hk rfl))
     have c1' := D1.cell1 0 _ rfl
     have c2' := D1.frozen 0)
  have G1 : Upd (fun k => rv.ownBlock = some k) ((w.alloc (.cells #[.string name, .func g bd cp, .int .i64 0, .int .i64 0, .int .i64 0, .bool false] 85)).alloc (.cells #[ptr w.heap.size] 83)) w1 := Upd.grown (Upd.refl _ _) hg (fun k hk _ => by rw [hrv]; exact hk)
  have U1 : Upd (fun k => k = b ∨ rv.ownBlock = some k) w w1 := (((Upd.refl _ w).alloc _).alloc _).then G1 (fun i _ hi => .inr hi)
  go_ret2
  have hW : Upd (fun k => k = b) w1 (w1.setCell ⟨b, 0, none⟩ (.slice oa (ps.length + 1) oc)) := Upd.setCell (p := ⟨b, 0, none⟩) (Upd.refl (fun k => k = b) w1) (fun _ => rfl) _
  have NT : Blk w1 w.heap.size 85 [.string name, .func g bd cp, .int .i64 0, .int .i64 0, .int .i64 0, .bool false] :=
    ((Blk.new w 85 [.string name, .func g bd cp, .int .i64 0, .int .i64 0, .int .i64 0, .bool false]).alloc _).upd G1 (fun hk => by have := (h.row.lt _ hk).2; omega)
  have hbk : ∀ k, Value.ownBlock (.slice oa (ps.length + 1) oc) = some k → k ≠ b := fun k hk => row_ne ho' D1 (by decide) k hk
  refine ⟨by simp, .slice oa (ps.length + 1) oc, ⟨D1.set 0 _, ?_, ?_, by simp [h.len], ?_, ?_⟩, U1.setCell (p := ⟨b, 0, none⟩) (fun _ => .inl rfl) _, ?_⟩
  · have := row_upd ho' hW (fun k hk => hbk k hk)
    simpa using this
  · intro i p t hp ht
    by_cases hi : i < ps.length
    · rw [List.getElem?_append_left hi] at hp
      rw [List.getElem?_append_left (by rw [h.len]; exact hi)] at ht
      have B0 := h.tks i p t hp ht
      exact (B0.upd U1 (by
        rintro (e | e)
        · exact B0.ne h.blk (by decide) e
        · exact row_ne h.row B0 (by decide) p e rfl)).upd hW (fun e => B0.ne h.blk (by decide) e)
    · have hi2 : i = ps.length := by
        have := (List.getElem?_eq_some_iff.1 hp).1
        simp at this; omega
      subst hi2
      rw [List.getElem?_append_right (by omega)] at hp
      rw [List.getElem?_append_right (by rw [h.len]; omega)] at ht
      simp [h.len] at hp ht
      subst hp ht
      exact NT.upd hW (fun e => by omega)
  · rw [List.nodup_append]
    refine ⟨h.nd, by simp, ?_⟩
    intro a ha b' hb'
    simp at hb'
    subst hb'
    have := h.sb_lt a (.inr (.inr (.inr ha)))
    omega
  · obtain ⟨D, hD⟩ := h.map
    have hmb := hD.ne h.blk
    exact ⟨D, (hD.upd U1 (by
        rintro (e | e)
        · exact hmb e
        · exact hD.ner h.row m e rfl)).upd hW (fun e => hmb e)⟩
  · rcases hloc with e | e
    · exact .inl (by rw [hrv]; exact e)
    · refine .inr (fun j hj => ?_)
      rw [e] at hj
      simp at hj
      omega
end
end Go.Proofs.Ytkdjahgndkdnhaa
