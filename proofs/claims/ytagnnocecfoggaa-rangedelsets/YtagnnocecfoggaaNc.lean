/-
  Clones of rows.
-/
import Derived.Test.YtagnnocecfoggaaNo
import Derived.Test.YtagnnocecfoggaaRw
import Derived.Lib.SmallJoins
namespace Go.Proofs.Ytagnnocecfoggaa
open Go.RowKit
set_option linter.unusedVariables false
set_option linter.unusedSimpArgs false
set_option maxRecDepth 100000 in
set_option maxHeartbeats 1000000 in
theorem cloneU_any {w : World} {a : Option Addr} {cap : Nat} {q : List Int} (h : Rd uc 1 w a q) (hl : q.length ≤ 10000) :
    Calls Try.prog 45 #[.slice a q.length cap] w fun e w' => ∃ a' c', e = .returned (.slice a' q.length c') ∧ Rd uc 1 w' a' q ∧ Below w.heap.size w w' := by
  cases a with
  | none =>
    have hq : q = [] := by rcases h with h | ⟨_, _, h, _⟩; exact h; cases h
    subst hq
    have hq := Lib.run_eql_slice_nil (P := Try.prog) w 61 38 none 0 cap 0 0 Try.underlying61
    go_enter Try.func45, Try.ntmps45
    go_wp2_with fail
    go_ret
    exact ⟨none, 0, rfl, .inl rfl, Below.refl _ _⟩
  | some ad =>
    have hb0 : Below w.heap.size w (w.alloc (.cells #[] 38)) := (Below.refl _ _).alloc (Nat.le_refl _) _
    have ho : RowU (w.alloc (.cells #[] 38)) w.heap.size (.slice (some ⟨w.heap.size, 0, none⟩) 0 0) [] := by
      have := World.ownsRow_made (base := w.heap.size) (e := 38) (size := 1) w #[] 0 (Nat.le_refl _) (by unfold maxLen; omega) rfl
      exact this
    obtain ⟨v', w', hr, h2, h3⟩ := app_run (k := 1) uc_k uc_1 Try.underlying61 info38 rfl (by decide) ho (by simp) (cap := cap) (h.below hb0) (fun e => by cases e) (by simp; omega) (by unfold maxLen; simp; omega)
    simp only [List.nil_append] at h2
    obtain ⟨va, vc, hv, _, hrd, _⟩ := row_rd uc_k h2
    have HP : Hid (Rd uc 1 w' va q ∧ Below w.heap.size w w') := ⟨hrd, hb0.trans (h3.below (fun k hk => Nat.lt_of_lt_of_le hk hb0.size) (fun j hj => by cases hj; exact Nat.le_refl _))⟩
    obtain ⟨N, hN⟩ : ∃ N, q.length = N := ⟨_, rfl⟩
    rw [hN] at hv hr ⊢
    subst hv
    clear ho hb0 h2 h3 h hrd hl
    have hq := Lib.run_eql_slice_nil (P := Try.prog) w 61 38 (some ad) N cap 0 0 Try.underlying61
    go_enter Try.func45, Try.ntmps45
    go_wp2_with (at_builtin; refine Lib.wpList_append_run _ rfl _ _ _ _ rfl _ _ rfl rfl _ _ hr ?_)
    go_ret
    exact ⟨_, _, rfl, HP.out⟩
set_option maxRecDepth 100000 in
set_option maxHeartbeats 1000000 in
theorem cloneP_any {w : World} {a : Option Addr} {cap : Nat} {ps : List Pc} (h : Rd Pc.c 3 w a ps) (hl : ps.length ≤ 10000) :
    Calls Try.prog 44 #[.slice a ps.length cap] w fun e w' => (ps = [] ∧ e = .returned (.slice none 0 0) ∧ w' = w) ∨ ∃ v, e = .returned v ∧ RowP w' w.heap.size v ps ∧ Below w.heap.size w w' := by
  cases a with
  | none =>
    have hq : ps = [] := by rcases h with h | ⟨_, _, h, _⟩; exact h; cases h
    subst hq
    have hq := Lib.run_eql_slice_nil (P := Try.prog) w 23 63 none 0 cap 0 0 Try.underlying23
    go_enter Try.func44, Try.ntmps44
    go_wp2_with fail
    go_ret
    exact .inl ⟨by first | rfl | trivial, rfl, rfl⟩
  | some ad =>
    have hb0 : Below w.heap.size w (w.alloc (.cells #[] 63)) := (Below.refl _ _).alloc (Nat.le_refl _) _
    have ho : RowP (w.alloc (.cells #[] 63)) w.heap.size (.slice (some ⟨w.heap.size, 0, none⟩) 0 0) [] := by
      have := World.ownsRow_made (base := w.heap.size) (e := 63) (size := 3) w #[] 0 (Nat.le_refl _) (by unfold maxLen; omega) rfl
      exact this
    obtain ⟨v', w', hr, h2, h3⟩ := app_run (k := 3) pc_k pc_1 Try.underlying23 info63 rfl (by decide) ho (by simp) (cap := cap) (h.below hb0) (fun e => by cases e) (by simp; omega) (by unfold maxLen; simp; omega)
    simp only [List.nil_append] at h2
    obtain ⟨va, vc, hv⟩ := row_slice h2
    have HP : Hid (RowP w' w.heap.size v' ps ∧ Below w.heap.size w w') := ⟨h2, hb0.trans (h3.below (fun k hk => Nat.lt_of_lt_of_le hk hb0.size) (fun j hj => by cases hj; exact Nat.le_refl _))⟩
    obtain ⟨N, hN⟩ : ∃ N, ps.length = N := ⟨_, rfl⟩
    rw [hN] at hv hr ⊢
    subst hv
    clear ho hb0 h2 h3 h hl
    have hq := Lib.run_eql_slice_nil (P := Try.prog) w 23 63 (some ad) N cap 0 0 Try.underlying23
    go_enter Try.func44, Try.ntmps44
    go_wp2_with (at_builtin; refine Lib.wpList_append_run _ rfl _ _ _ _ rfl _ _ rfl rfl _ _ hr ?_)
    go_ret
    exact .inr ⟨_, rfl, HP.out⟩
end Go.Proofs.Ytagnnocecfoggaa
