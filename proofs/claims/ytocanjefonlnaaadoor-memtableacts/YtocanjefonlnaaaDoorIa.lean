/-
  The reference's leaves: New, Least, Over, Plain, Check.
-/
import Derived.Test.YtocanjefonlnaaaDoorK
namespace Go.Proofs.YtocanjefonlnaaaDoor
open Go.RowKit
set_option linter.unusedVariables false
set_option linter.unusedSimpArgs false
/-- The reference's table: its cells. -/
abbrev rtC (how : Int) (lv tv : Value) (sz : Int) : List Value := [.int .i64 how, lv, tv, .int .i64 sz]
theorem rnew_yes {how : Int} (h : how = 0 ∨ how = 1) (w : World) : Calls Tryd.prog 8 #[.int .i64 how] w fun e w' => e = .returned (.tuple #[.pointer (some ⟨w.heap.size, 0, none⟩), .int .i64 0]) ∧ w' = w.alloc (.cells #[.int .i64 how, .slice none 0 0, .slice none 0 0, .int .i64 0] 74) := by
  rcases h with rfl | rfl
  all_goals
    go_enter Tryd.func8, Tryd.ntmps8
    go_wp2
    go_ret2
    exact ⟨rfl, rfl⟩
theorem rnew_no {how : Int} (h0 : ¬ how = 0) (h1 : ¬ how = 1) (w : World) : Calls Tryd.prog 8 #[.int .i64 how] w fun e w' => e = .returned (.tuple #[.pointer none, .int .i64 1]) ∧ w' = w := by
  have b0 : (how != 0) = true := by simpa using h0
  have b1 : (how != 1) = true := by simpa using h1
  clear h0 h1
  go_enter Tryd.func8, Tryd.ntmps8
  go_wp2
  go_ret2
  exact ⟨rfl, rfl⟩
theorem tord_r3 {how : Int} {a b : Tm} (h : (cmpH how a.b b.b != 0) = false) (h2 : (cmpH how a.e b.e != 0) = false) (h3 : b.s < a.s) : -1 = tord how a b := by
  rw [← tord_w3 h h2]; exact ((cmpI_neg1 b.s a.s).2 h3).symm
theorem tord_r4 {how : Int} {a b : Tm} (h : (cmpH how a.b b.b != 0) = false) (h2 : (cmpH how a.e b.e != 0) = false) (h3 : a.s < b.s) : 1 = tord how a b := by
  rw [← tord_w3 h h2]; exact ((cmpI_one b.s a.s).2 h3).symm
theorem tord_r5 {how : Int} {a b : Tm} (h : (cmpH how a.b b.b != 0) = false) (h2 : (cmpH how a.e b.e != 0) = false) (h3 : a.s ≤ b.s) (h4 : b.s ≤ a.s) : 0 = tord how a b := by
  rw [← tord_w3 h h2]; exact ((cmpI_zero b.s a.s).2 (by omega)).symm
set_option maxRecDepth 100000 in
set_option maxHeartbeats 800000 in
theorem rleast_any (how : Int) (a b : Tm) (w : World) : Calls Tryd.prog 41 #[.int .i64 how, a.v, b.v] w fun e w' => e = .returned (.int .i64 (tord how a b)) ∧ Below w.heap.size w w' := by
  have hb : Below w.heap.size w ((w.alloc (.cells #[.string a.b, .string a.e, .int .u64 a.s] 81)).alloc (.cells #[.string b.b, .string b.e, .int .u64 b.s] 81)) := ((Below.refl _ _).alloc (Nat.le_refl _) _).alloc (by simp) _
  have HB : Hid _ := hb
  clear hb
  go_enter Tryd.func41, Tryd.ntmps41
  go_wp2_with (go_at_call 14; refine (rcmp_any _ _ _ _).mono ?_; rintro e w' ⟨rfl, hw⟩; have hw1 := hw.symm; subst hw1; clear hw)
  · go_ret; exact ⟨ret_int' (tord_w1 ‹_›), HB.out⟩
  · go_ret; exact ⟨ret_int' (tord_w2 ‹_› ‹_›), HB.out⟩
  · go_ret; exact ⟨ret_int' (tord_r3 ‹_› ‹_› ‹_›), HB.out⟩
  · go_ret; exact ⟨ret_int' (tord_r4 ‹_› ‹_› ‹_›), HB.out⟩
  · go_ret; exact ⟨ret_int' (tord_r5 ‹_› ‹_› ‹_› ‹_›), HB.out⟩
def ovB (how : Int) (t : Tm) (key : ByteArray) : Bool := decide (cmpH how t.b key ≤ 0 ∧ cmpH how key t.e < 0)
set_option maxRecDepth 100000 in
set_option maxHeartbeats 800000 in
theorem rover_any (how : Int) (t : Tm) (key : ByteArray) (w : World) : Calls Tryd.prog 42 #[.int .i64 how, t.v, .string key] w fun e w' => e = .returned (.bool (ovB how t key)) ∧ Below w.heap.size w w' := by
  have hb : Below w.heap.size w (w.alloc (.cells #[.string t.b, .string t.e, .int .u64 t.s] 81)) := (Below.refl _ _).alloc (Nat.le_refl _) _
  have HB : Hid _ := hb
  obtain ⟨x, hx⟩ : ∃ x, cmpH how t.b key = x := ⟨_, rfl⟩
  obtain ⟨y, hy⟩ : ∃ y, cmpH how key t.e = y := ⟨_, rfl⟩
  have H1 : Hid (∀ W, Calls Tryd.prog 14 #[.int .i64 how, .string t.b, .string key] W fun e w' => e = .returned (.int .i64 x) ∧ w' = W) := fun W => by rw [← hx]; exact rcmp_any how t.b key W
  have H2 : Hid (∀ W, Calls Tryd.prog 14 #[.int .i64 how, .string key, .string t.e] W fun e w' => e = .returned (.int .i64 y) ∧ w' = W) := fun W => by rw [← hy]; exact rcmp_any how key t.e W
  have hv : ovB how t key = decide (x ≤ 0 ∧ y < 0) := by unfold ovB; rw [hx, hy]
  rw [hv]
  clear hb hx hy hv
  by_cases h1 : x ≤ 0
  · have hd : decide (x ≤ 0 ∧ y < 0) = decide (y < 0) := by simp [h1]
    rw [hd]
    clear hd
    go_enter Tryd.func42, Tryd.ntmps42
    go_wp2_with (first
      | (go_at_call 14; have hq := tok; clear hq; refine (H2.out _).mono ?_; rintro e w' ⟨rfl, hw⟩; have hw1 := hw.symm; subst hw1; clear hw)
      | (go_at_call 14; refine (H1.out _).mono ?_; rintro e w' ⟨rfl, hw⟩; have hw1 := hw.symm; subst hw1; clear hw; have tok : Hid True := trivial))
    go_ret
    exact ⟨rfl, HB.out⟩
  · have hd : decide (x ≤ 0 ∧ y < 0) = false := by simp [h1]
    rw [hd]
    clear hd
    go_enter Tryd.func42, Tryd.ntmps42
    go_wp2_with (go_at_call 14; refine (H1.out _).mono ?_; rintro e w' ⟨rfl, hw⟩; have hw1 := hw.symm; subst hw1; clear hw)
    go_ret
    exact ⟨rfl, HB.out⟩
end Go.Proofs.YtocanjefonlnaaaDoor
