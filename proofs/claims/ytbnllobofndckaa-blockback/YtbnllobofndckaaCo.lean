/-
  Copies of bytes: own, slices.Clone.
-/
import Derived.Test.YtbnllobofndckaaCp
import Derived.Lib.SliceRun
namespace Go.Proofs.Ytbnllobofndckaa
open Go.RowKit Go.Maps
set_option linter.unusedVariables false
set_option linter.unusedSimpArgs false
theorem own_le {w : World} {base : Nat} {a : Option Addr} {n c : Nat} {l : List Int} (h : OwnB w base (.slice a n c) l) : n ≤ c := by
  rcases h with ⟨e, rfl⟩ | ⟨b, off, cap, e, h1, h2, h3, h4, h5, h6⟩
  · cases e; exact Nat.le_refl _
  · cases e; exact h3
set_option maxRecDepth 100000 in
set_option maxHeartbeats 1000000 in
/-- own: bytes in memory of their own. -/
theorem own_any {a : Option Addr} {len cap : Nat} {l : List Int} {w : World} (h : Arg w a len cap l) (hl : len ≤ 4194304) :
    Calls Try.prog 12 #[.slice a len cap] w fun e w' => ∃ av cv, e = .returned (.slice av len cv) ∧ len ≤ cv ∧ Arg w' av len cv l ∧ Below w.heap.size w w' := by
  obtain ⟨i0, hi, hz0, hz1, hz2⟩ := info_parts info5
  have hmk : ∀ W, (Instr.makeSlice 23 (.int .i64 0) (.int .i64 ((len : Int) + 2))).run Try.prog W = .ok (.slice (some ⟨W.heap.size, 0, none⟩) 0 (len + 2)) (W.alloc (.cells (mkZ (len + 2)) 5)) := fun W => by
    have := mkcap (len + 2) (by omega) W
    rw [show ((len + 2 : Nat) : Int) = (len : Int) + 2 by omega] at this
    exact this
  have hown := mkcap_own (len + 2) (by omega) w
  have hB0 : Below w.heap.size w (w.alloc (.cells (mkZ (len + 2)) 5)) := (Below.refl _ w).alloc (Nat.le_refl _) _
  have hsrc := (h.below hB0).src
  have HL : Hid (([] : List Int).length + l.length ≤ 140737488355328) := by show _ ≤ _; rw [h.1]; simp; omega
  have HLL : Hid (l.length = len) := h.1
  have HBT : Hid (∀ n ∈ l, 0 ≤ n ∧ n < 256) := h.2.1
  clear h
  go_enter Try.func12, Try.ntmps12
  go_wp2_with (refine OwnB.wpList_append (by rfl) _ _ 23 23 (by rfl) (by rfl) hown i0 Try.underlying23 hi hz0 hz1 hz2 _ (by rfl) l hsrc (by simp) HL.out ?_; intro v' w' h1 h2 h3)
  have h1' : OwnB w' w.heap.size v' l := h1
  obtain ⟨av, cv, rfl, hA⟩ := h1'.arg HBT.out (by rw [HLL.out]; omega)
  rw [HLL.out] at h1' hA ⊢
  go_ret
  first | exact ⟨av, cv, rfl, own_le h1', hA, hB0.grown h2 (by simp) (by intro k hk; cases hk; exact Nat.le_refl _)⟩ | exact ⟨av, ⟨cv, rfl⟩, own_le h1', hA, hB0.grown h2 (by simp) (by intro k hk; cases hk; exact Nat.le_refl _)⟩
set_option maxRecDepth 100000 in
set_option maxHeartbeats 1000000 in
/-- slices.Clone of bytes. -/
theorem clone_any {a : Option Addr} {len cap : Nat} {l : List Int} {w : World} (h : Arg w a len cap l) (hl : len ≤ 4194304) :
    Calls Try.prog 39 #[.slice a len cap] w fun e w' => ∃ av cv, e = .returned (.slice av len cv) ∧ len ≤ cv ∧ Arg w' av len cv l ∧ (∀ b o, av = some ⟨b, o, none⟩ → w.heap.size ≤ b) ∧ Below w.heap.size w w' := by
  obtain ⟨i0, hi, hz0, hz1, hz2⟩ := info_parts info5
  have hown := own_empty w
  have hB0 : Below w.heap.size w (w.alloc (.cells #[] 5)) := (Below.refl _ w).alloc (Nat.le_refl _) _
  have hsrc := (h.below hB0).src
  have HL : Hid (([] : List Int).length + l.length ≤ 140737488355328) := by show _ ≤ _; rw [h.1]; simp; omega
  have HLL : Hid (l.length = len) := h.1
  have HBT : Hid (∀ n ∈ l, 0 ≤ n ∧ n < 256) := h.2.1
  have hq := Lib.run_eql_slice_nil (P := Try.prog) w 23 5 a len cap 0 0 Try.underlying23
  cases a with
  | none =>
    have h0 : l = [] := by
      rcases h.2.2.2 with h | ⟨b, o, e, _⟩
      · exact h
      · cases e
    have hle : len = 0 := by rw [← h.1, h0]; rfl
    subst hle
    subst h0
    clear h
    go_enter Try.func39, Try.ntmps39
    go_wp2
    go_ret
    first | exact ⟨none, 0, rfl, Nat.le_refl _, ⟨rfl, by simp, by omega, .inl rfl⟩, (fun _ _ e => by cases e), Below.refl _ _⟩ | exact ⟨none, ⟨0, rfl⟩, Nat.le_refl _, ⟨rfl, by simp, by omega, .inl rfl⟩, (fun _ _ e => by cases e), Below.refl _ _⟩
  | some ad =>
  clear h
  go_enter Try.func39, Try.ntmps39
  go_wp2_with (refine OwnB.wpList_append (by rfl) _ _ 23 23 (by rfl) (by rfl) hown i0 Try.underlying23 hi hz0 hz1 hz2 _ (by rfl) l hsrc (by simp) HL.out ?_; intro v' w' h1 h2 h3)
  have h1' : OwnB w' w.heap.size v' l := h1
  obtain ⟨av, cv, rfl, hA⟩ := h1'.arg HBT.out (by rw [HLL.out]; omega)
  rw [HLL.out] at h1' hA ⊢
  go_ret
  first | exact ⟨av, cv, rfl, own_le h1', hA, (fun b o e => by subst e; exact (h1'.lt b rfl).1), hB0.grown h2 (by simp) (by intro k hk; cases hk; exact Nat.le_refl _)⟩ | exact ⟨av, ⟨cv, rfl⟩, own_le h1', hA, (fun b o e => by subst e; exact (h1'.lt b rfl).1), hB0.grown h2 (by simp) (by intro k hk; cases hk; exact Nat.le_refl _)⟩
end Go.Proofs.Ytbnllobofndckaa
