import Derived.Test.YtbnllobofndckaaRb
import Derived.Laws.MakeOwn
import Derived.Deep.AppendSrc
namespace Go.Proofs.Ytbnllobofndckaa
open Go.RowKit
set_option linter.unusedVariables false
set_option linter.unusedSimpArgs false
/-- An entry's cells. -/
def Ent.c (e : Ent) : List Value := [.string e.u, .int .u64 e.s, .int .i64 e.k, .string e.v]
/-- The cells of entries. -/
def ecs : List Ent → List Value
  | [] => []
  | r :: l => r.c ++ ecs l
theorem ecs_len (l : List Ent) : (ecs l).length = l.length * 4 := by
  induction l with
  | nil => rfl
  | cons r l ih => simp [ecs, Ent.c, ih]; omega
theorem ecs_app (l m : List Ent) : ecs (l ++ m) = ecs l ++ ecs m := by
  induction l with
  | nil => rfl
  | cons r l ih => simp [ecs, ih]
theorem ecs_get (l : List Ent) (j : Nat) (r : Ent) (h : l[j]? = some r) (i : Nat) (hi : i < 4) : (ecs l)[j * 4 + i]? = (r.c)[i]? := by
  induction l generalizing j with
  | nil => simp at h
  | cons x l ih =>
    cases j with
    | zero =>
      simp at h; subst h
      simp only [ecs, Nat.zero_mul, Nat.zero_add]
      rw [List.getElem?_append_left (by simp [Ent.c]; omega)]
    | succ j =>
      simp only [ecs]
      rw [List.getElem?_append_right (by simp [Ent.c]; omega)]
      have := ih j (by simpa using h)
      rw [← this]
      congr 1
      simp [Ent.c]; omega
theorem row_eat {w : World} {g cap n : Nat} {l : List Ent} (h : w.ownsRow 0 48 4 (.slice (some ⟨g, 0, none⟩) n cap) l.length (ecs l)) (j : Nat) (r : Ent) (hj : l[j]? = some r) : EAt w g (j * 4) r := by
  have hc := h.cells (g := g) rfl
  have hg := fun i hi => ecs_get l j r hj i hi
  refine ⟨?_, ?_, ?_, ?_⟩
  · have := hc (j * 4 + 0) _ ((hg 0 (by decide)).trans rfl); rw [add_at] at this; simpa using this
  · have := hc (j * 4 + 1) _ ((hg 1 (by decide)).trans rfl); rw [add_at] at this; simpa using this
  · have := hc (j * 4 + 2) _ ((hg 2 (by decide)).trans rfl); rw [add_at] at this; simpa using this
  · have := hc (j * 4 + 3) _ ((hg 3 (by decide)).trans rfl); rw [add_at] at this; simpa using this
theorem ecs_one (l : List Ent) : ∀ u ∈ ecs l, u.oneCell' = true := by
  induction l with
  | nil => intro u hu; simp [ecs] at hu
  | cons x l ih =>
    intro u hu
    rcases List.mem_append.1 hu with h | h
    · simp [Ent.c] at h
      rcases h with rfl | rfl | rfl | rfl <;> rfl
    · exact ih u h
theorem info48 : (Try.prog.info? 48).map (fun i => (i.zero, i.size, i.bytes)) = some (some (.agg #[.string ⟨#[]⟩, .int .u64 0, .int .i64 0, .string ⟨#[]⟩]), 4, 48) := by kernel_rfl
theorem ecs_at {w : World} {b off : Nat} {l : List Ent} (h : ∀ (j : Nat) (e : Ent), l[j]? = some e → EAt w b (off + j * 4) e) : ∀ j u, (ecs l)[j]? = some u → w.cell? ((⟨b, off, none⟩ : Addr).add j) = some u := by
  intro j u hu
  have hj : j < l.length * 4 := by rw [← ecs_len]; exact (List.getElem?_eq_some_iff.1 hu).1
  have e1 : j = j / 4 * 4 + j % 4 := by omega
  have hq : j / 4 < l.length := by omega
  have hx : l[j / 4]? = some l[j / 4] := List.getElem?_eq_getElem hq
  have hg := ecs_get l (j / 4) _ hx (j % 4) (by omega)
  rw [← e1, hu] at hg
  obtain ⟨c0, c1, c2, c3⟩ := h _ _ hx
  rw [add_at]
  have e2 : off + j = off + j / 4 * 4 + j % 4 := by omega
  rw [e2]
  have h4 : j % 4 < 4 := by omega
  generalize j % 4 = t at *
  rcases t with _ | _ | _ | _ | t
  · simp [Ent.c] at hg; rw [hg]; exact c0
  · simp [Ent.c] at hg; rw [hg]; exact c1
  · simp [Ent.c] at hg; rw [hg]; exact c2
  · simp [Ent.c] at hg; rw [hg]; exact c3
  · omega
/-- A copy of entries, in room of its own. -/
theorem ents_copy {w : World} {a : Option Addr} {l : List Ent} (h : RdE w a l) (cap : Nat) (hl : l.length * 48 ≤ 140737488355328) :
    ∃ w1 av cv w2, (Instr.makeSlice 22 (.int .i64 0) (.int .i64 ((l.length : Int) + 1))).run Try.prog w = .ok (.slice (some ⟨w.heap.size, 0, none⟩) 0 (l.length + 1)) w1 ∧
      (Builtin.append_ #[22, 22] 22 #[.slice (some ⟨w.heap.size, 0, none⟩) 0 (l.length + 1), .slice a l.length cap]).run Try.prog w1 = .ok (.slice av l.length cv) w2 ∧ RdE w2 av l ∧ Below w.heap.size w w2 := by
  obtain ⟨i0, hi, hz0, hz1, hz2⟩ := info_parts info48
  obtain ⟨w1, hm, ho, hg⟩ := run_make_own (P := Try.prog) w w.heap.size 22 48 i0 _ 4 Try.underlying22 hi hz0 hz1 .i64 .i64 (l.length + 1) (by rw [hz2]; omega) (by unfold maxLen; omega) (Nat.le_refl _)
  have hB : Below w.heap.size w w1 := (Below.refl w.heap.size w).grown hg (Nat.le_refl _) (fun k hk => by cases hk)
  have e1 : ((l.length : Int) + 1) = ((l.length + 1 : Nat) : Int) := by omega
  rw [e1]
  by_cases h0 : l = []
  · subst h0
    have hsrc : Src Try.prog i0.size 22 (.slice a 0 cap) 0 [] w1 := by
      cases a with
      | none => exact Src.ofNil _ Try.underlying22 cap
      | some x => exact Src.ofSlice _ Try.underlying22 x 0 cap [] (by simp) (by simp) (by simp)
    have := run_append_room_src (P := Try.prog) w1 22 22 22 48 i0 Try.underlying22 hi w.heap.size 0 0 1 _ 0 [] hsrc (by omega) (by simp) (by simp)
    exact ⟨w1, _, _, _, hm, this, .inl rfl, by simpa [World.setCells] using hB⟩
  · obtain ⟨b, off, rfl, hlt, hat⟩ : ∃ b off, a = some ⟨b, off, none⟩ ∧ b < w.heap.size ∧ ∀ (j : Nat) (e : Ent), l[j]? = some e → EAt w1 b (off + j * 4) e := by
      rcases h.below hB with hh | ⟨b, off, e, hlt, hh⟩
      · exact absurd hh h0
      · rcases h with h' | ⟨b', off', e', hlt', _⟩
        · exact absurd h' h0
        · rw [e] at e'; cases e'; exact ⟨b, off, e, hlt', hh⟩
    obtain ⟨v', w2, hr, h2, h3, _, h5⟩ := run_append_own_at (P := Try.prog) w1 w.heap.size 22 22 48 i0 _ 4 48 Try.underlying22 hi hz0 hz1 hz2 rfl (by decide) _ 0 [] ho ⟨b, off, none⟩ l.length cap (ecs l) (ecs_len l) (ecs_at hat) (ecs_one l) (by unfold maxLen; omega) (by omega) hB.size
    rw [Nat.zero_add, List.nil_append] at h2
    have hb2 : Below w.heap.size w w2 := hB.grown h3 hB.size (fun k hk => by cases hk; exact Nat.le_refl _)
    rcases h2.2 with ⟨e, hz⟩ | ⟨g, cp, cur, e, hgb, hgg, hrest⟩
    · exact absurd (List.length_eq_zero_iff.1 hz) h0
    · subst e
      refine ⟨w1, _, _, w2, hm, hr, .inr ⟨g, 0, rfl, (Array.getElem?_eq_some_iff.1 hgg).1, fun j x hj => ?_⟩, hb2⟩
      have hc := h2.cells (g := g) rfl
      have hg4 := fun i hi => ecs_get l j x hj i hi
      rw [Nat.zero_add]
      refine ⟨?_, ?_, ?_, ?_⟩
      · have := hc (j * 4 + 0) _ ((hg4 0 (by decide)).trans rfl); rw [add_at] at this; simpa using this
      · have := hc (j * 4 + 1) _ ((hg4 1 (by decide)).trans rfl); rw [add_at] at this; simpa using this
      · have := hc (j * 4 + 2) _ ((hg4 2 (by decide)).trans rfl); rw [add_at] at this; simpa using this
      · have := hc (j * 4 + 3) _ ((hg4 3 (by decide)).trans rfl); rw [add_at] at this; simpa using this
end Go.Proofs.Ytbnllobofndckaa
