import Derived.Test.YtocanjefonlnaaaDoorHi
namespace Go.Proofs.YtocanjefonlnaaaDoor
open Go.RowKit Go.Shelf
set_option linter.unusedVariables false
set_option linter.unusedSimpArgs false
theorem info5h : (Tryd.prog.info? 5).map (fun i => (i.zero, i.size, i.bytes)) = some (some (.int .u8 0), 1, 1) := by kernel_rfl
/-- A slice of bytes as an argument. -/
def RdA (w : World) (a : Option Addr) (l : List Int) : Prop := l = [] ∨ ∃ b off, a = some ⟨b, off, none⟩ ∧ b < w.heap.size ∧ ∀ j u, (bc l)[j]? = some u → w.cell? ((⟨b, off, none⟩ : Addr).add j) = some u
/-- A copy of bytes: append([]byte{}, l...). -/
theorem bytes_copy {w : World} {a : Option Addr} {cap : Nat} {l : List Int} (ty : TypeId) (h : RdA w a l) (hl : l.length ≤ 140737488355328) :
    ∃ av cv w', (Builtin.append_ #[22, 22] ty #[.slice (some ⟨w.heap.size, 0, none⟩) 0 0, .slice a l.length cap]).run Tryd.prog (w.alloc (.cells #[] 5)) = .ok (.slice av l.length cv) w' ∧ RdB w' (.slice av l.length cv) l ∧ l.length ≤ cv ∧ Below w.heap.size w w' := by
  obtain ⟨i0, hi, hz0, hz1, hz2⟩ := info_parts info5h
  have hB0 : Below w.heap.size w (w.alloc (.cells #[] 5)) := (Below.refl _ w).alloc (Nat.le_refl _) _
  rcases h with rfl | ⟨b, off, rfl, hlt, hc⟩
  · have hsrc : Src Tryd.prog i0.size 22 (.slice a 0 cap) 0 [] (w.alloc (.cells #[] 5)) := by
      cases a with
      | none => exact Src.ofNil _ Tryd.underlying22 cap
      | some x => exact Src.ofSlice _ Tryd.underlying22 x 0 cap [] (by simp) (by simp) (by simp)
    have := run_append_room_src (P := Tryd.prog) (w.alloc (.cells #[] 5)) 22 22 ty 5 i0 Tryd.underlying22 hi w.heap.size 0 0 0 _ 0 [] hsrc (Nat.le_refl _) (by simp) (by simp)
    refine ⟨_, _, _, this, .inr ⟨w.heap.size, 0, _, rfl, by simp [World.setCells], by simp [bc]⟩, Nat.le_refl _, by simpa [World.setCells] using hB0⟩
  · have hown : (w.alloc (.cells #[] 5)).ownsRow 0 5 1 (.slice (some ⟨w.heap.size, 0, none⟩) 0 0) 0 [] := ⟨rfl, .inr ⟨w.heap.size, 0, #[], rfl, Nat.zero_le _, heap_alloc_new w _, Nat.le_refl _, by unfold maxLen; omega, rfl, rfl⟩⟩
    obtain ⟨v', w', hr, h2, h3, h4, h5⟩ := run_append_own_at (P := Tryd.prog) (w.alloc (.cells #[] 5)) 0 22 ty 5 i0 (.int .u8 0) 1 1 Tryd.underlying22 hi hz0 hz1 hz2 rfl (by decide) _ 0 [] hown ⟨b, off, none⟩ l.length cap (bc l) (by simp [bc]) (by
      intro j u hu
      rw [← hc j u hu]
      exact World.cell?_of_block (by
        have e : ((⟨b, off, none⟩ : Addr).add j).block = b := by unfold Addr.add; split <;> rfl
        rw [e]; exact Below.heap_alloc _ _ _ hlt)) (bc_one l) (by unfold maxLen; omega) (by omega) (Nat.zero_le _)
    rw [Nat.zero_add, List.nil_append] at h2
    have h2' : RowB w' v' l := h2
    have hb : Below w.heap.size w w' := hB0.grown h3 (by simp) (by intro k hk; cases hk; exact Nat.le_refl _)
    have hrd := h2'.rd
    rcases h2'.2 with ⟨rfl, h0⟩ | ⟨g, cv, cur, rfl, h6, h7, h8, _⟩
    · rw [h0] at hr ⊢; exact ⟨none, 0, w', hr, hrd, Nat.le_refl _, hb⟩
    · exact ⟨_, cv, w', hr, hrd, h8, hb⟩
/-- .. at a step of a walk. -/
theorem wpl_bytes {ops : Array Oper} {rest : List Oper} {o : Oper} {a : Act} {Q : Exit → Act → World → Prop} {w : World} (hgd : o.guard = none) {d : Nat} (hd : o.dst = some d) (s x : Operand)
    (ho : o.op = .call { callee := .builtin .append, args := #[s, x], argTypes := #[22, 22] }) {aa : Option Addr} {cap : Nat} {l : List Int} (hs : a.eval s = .slice (some ⟨w.heap.size, 0, none⟩) 0 0) (hx : a.eval x = .slice aa l.length cap) (hS : RdA w aa l) (hl : l.length ≤ 140737488355328)
    (h : ∀ av cv w', RdB w' (.slice av l.length cv) l → l.length ≤ cv → Below w.heap.size w w' → wpList Tryd.prog ops Q rest (a.put (some d) (.slice av l.length cv)) w') : wpList Tryd.prog ops Q (o :: rest) a (w.alloc (.cells #[] 5)) := by
  refine wpList_plain hgd fun K hK => ?_
  obtain ⟨av, cv, w', hr, h2, h3, h4⟩ := bytes_copy o.type hS hl (cap := cap)
  unfold Oper.wp execOp
  simp only [ho, resolve, invoke, builtin, Sem.run_bind, Sem.run_pure, Result.andThen_ok, List.map_toArray, List.map_cons, List.map_nil, hs, hx, hr]
  refine hK _ _ ?_
  rw [hd]
  exact h av cv w' h2 h3 h4
end Go.Proofs.YtocanjefonlnaaaDoor
