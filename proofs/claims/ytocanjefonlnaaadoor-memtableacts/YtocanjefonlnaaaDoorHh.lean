import Derived.Test.YtocanjefonlnaaaDoorHg
import Derived.Test.YtocanjefonlnaaaDoorHf
import Derived.Test.YtocanjefonlnaaaDoorMr
namespace Go.Proofs.YtocanjefonlnaaaDoor
open Go.RowKit
set_option linter.unusedVariables false
set_option linter.unusedSimpArgs false
/-- An entry's cells. -/
def Ent.c (e : Ent) : List Value := [.string e.u, .int .u64 e.s, .int .i64 e.k, .string e.v]
/-- The cells of entries. -/
def ecs : List Ent → List Value
  | [] => []
  | r :: l => r.c ++ ecs l
theorem ecs_len (l : List Ent) : (ecs l).length = l.length * 4 := by
  induction l with
  | nil => rfl
  | cons r l ih => simp [ecs, Ent.c, ih]; omega
theorem ecs_app (l m : List Ent) : ecs (l ++ m) = ecs l ++ ecs m := by
  induction l with
  | nil => rfl
  | cons r l ih => simp [ecs, ih]
theorem ecs_get (l : List Ent) (j : Nat) (r : Ent) (h : l[j]? = some r) (i : Nat) (hi : i < 4) : (ecs l)[j * 4 + i]? = (r.c)[i]? := by
  induction l generalizing j with
  | nil => simp at h
  | cons x l ih =>
    cases j with
    | zero =>
      simp at h; subst h
      simp only [ecs, Nat.zero_mul, Nat.zero_add]
      rw [List.getElem?_append_left (by simp [Ent.c]; omega)]
    | succ j =>
      simp only [ecs]
      rw [List.getElem?_append_right (by simp [Ent.c]; omega)]
      have := ih j (by simpa using h)
      rw [← this]
      congr 1
      simp [Ent.c]; omega
theorem row_eat {w : World} {g cap n : Nat} {l : List Ent} (h : w.ownsRow 0 56 4 (.slice (some ⟨g, 0, none⟩) n cap) l.length (ecs l)) (j : Nat) (r : Ent) (hj : l[j]? = some r) : EAt w g (j * 4) r := by
  have hc := h.cells (g := g) rfl
  have hg := fun i hi => ecs_get l j r hj i hi
  refine ⟨?_, ?_, ?_, ?_⟩
  · have := hc (j * 4 + 0) _ ((hg 0 (by decide)).trans rfl); rw [add_at] at this; simpa using this
  · have := hc (j * 4 + 1) _ ((hg 1 (by decide)).trans rfl); rw [add_at] at this; simpa using this
  · have := hc (j * 4 + 2) _ ((hg 2 (by decide)).trans rfl); rw [add_at] at this; simpa using this
  · have := hc (j * 4 + 3) _ ((hg 3 (by decide)).trans rfl); rw [add_at] at this; simpa using this
theorem info56 : (Tryd.prog.info? 56).map (fun i => (i.zero, i.size, i.bytes)) = some (some (.agg #[.string ⟨#[]⟩, .int .u64 0, .int .i64 0, .string ⟨#[]⟩]), 4, 48) := by kernel_rfl
/-- One entry more onto a row. -/
theorem push_ent {w : World} {v : Value} {l : List Ent} (h : w.ownsRow 0 56 4 v l.length (ecs l)) {vb : Nat} {r : Ent} (hv : Blk w vb 56 r.c) (ty : TypeId) (hl : (l.length + 1) * 48 ≤ 140737488355328) :
    ∃ v' w', (Builtin.append_ #[51, 51] ty #[v, .slice (some ⟨vb, 0, none⟩) 1 1]).run Tryd.prog w = .ok v' w' ∧ w'.ownsRow 0 56 4 v' (l ++ [r]).length (ecs (l ++ [r])) ∧ Upd (fun k => v.ownBlock = some k) w w' ∧ (v'.ownBlock = v.ownBlock ∨ v'.ownBlock = some w.heap.size) := by
  obtain ⟨i0, hi, hz0, hz1, hz2⟩ := info_parts info56
  obtain ⟨v', w', hr, h2, h3, _, h5⟩ := run_append_own_at (P := Tryd.prog) w 0 51 ty 56 i0 _ 4 48 Tryd.underlying51 hi hz0 hz1 hz2 rfl (by decide) v l.length (ecs l) h ⟨vb, 0, none⟩ 1 1 r.c (by simp [Ent.c]) (fun j u hj => by rw [add_at, Nat.zero_add]; exact hv.cell1 j u hj) (fun u hu => by simp [Ent.c] at hu; rcases hu with rfl | rfl | rfl | rfl <;> rfl) (by unfold maxLen; omega) (by omega) (Nat.zero_le _)
  refine ⟨v', w', hr, ?_, (Upd.refl _ _).grown h3 (fun k hk _ => hk), h5⟩
  rw [ecs_app]
  simpa [ecs] using h2
/-- A row of entries reads as its entries. -/
theorem row_rde {w : World} {v : Value} {l : List Ent} (h : w.ownsRow 0 56 4 v l.length (ecs l)) : ∃ a cap, v = .slice a l.length cap ∧ RdE w a l := by
  have h0 := h
  rcases h.2 with ⟨e, h1⟩ | ⟨g, cap, cur, e, hg⟩
  · cases l with
    | nil => exact ⟨none, 0, e, .inl rfl⟩
    | cons x l => simp at h1
  · subst e
    exact ⟨some ⟨g, 0, none⟩, cap, rfl, .inr ⟨g, 0, rfl, fun j r hj => by rw [Nat.zero_add]; exact row_eat h0 j r hj⟩⟩
end Go.Proofs.YtocanjefonlnaaaDoor
