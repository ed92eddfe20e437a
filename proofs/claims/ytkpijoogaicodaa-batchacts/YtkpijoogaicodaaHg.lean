/-
  The sort at uint32: median, medianAdjacent, choosePivot.
-/
import Derived.Test.YtkpijoogaicodaaHf
namespace Go.Proofs.Ytkpijoogaicodaa
open Go.RowKit Go.Sort
set_option linter.unusedVariables false
set_option linter.unusedSimpArgs false

theorem order_rel (blk off cap a b s n : Nat) (d : Array Int) (w : World) (h : Holds (Value.int .u32) w blk off d) (hne : blk ≠ s) (ha : a < d.size) (hb : b < d.size) (hsz : d.size < 2305843009213693952) (hs : w.cell? ⟨s, 0, none⟩ = some (.int .i64 n)) (hfz : w.frozen? ⟨s, 0, none⟩ = false) (hn : n < 100) :
    Calls Try.prog 101 #[.slice (some ⟨blk, off, none⟩) d.size cap, .int .i64 a, .int .i64 b, .pointer (some ⟨s, 0, none⟩)] w fun e w' =>
      e = .returned (.tuple #[.int .i64 (Sort.order2 ltInt d a b n).1, .int .i64 (Sort.order2 ltInt d a b n).2.1]) ∧ w'.cell? ⟨s, 0, none⟩ = some (.int .i64 (Sort.order2 ltInt d a b n).2.2) ∧ w'.frozen? ⟨s, 0, none⟩ = false ∧ Holds (Value.int .u32) w' blk off d ∧ w.grownBy w' (some s) := by
  refine (order_any blk off cap a b s n d w h ha hb hsz hs hfz hn).mono fun e w' ⟨he, q, hw⟩ => ⟨he, ?_⟩
  have hg0 : w.grownBy (w.drewN q) (some s) := ⟨rfl, rfl, rfl, Nat.le_refl _, fun _ _ _ => rfl⟩
  unfold Sort.order2
  by_cases hl : ltInt d[b]! d[a]! = true
  · rw [if_pos hl] at hw
    subst hw
    rw [if_pos hl]
    refine ⟨?_, ?_, fun t ht => ?_, ?_⟩
    · rw [World.cell?_setCell_same' _ _ _ (by simp [hs])]; rfl
    · rw [World.frozen?_setCell]; simpa using hfz
    · rw [World.cell?_setCell_other _ _ _ _ (by simp <;> omega), World.frozen?_setCell]
      simpa using h t ht
    · exact ⟨rfl, rfl, rfl, by simp [World.setCell], fun k hk hk2 => (Below.heap_setCell _ _ _ _ (fun e => hk2 (by rw [e]))).trans rfl⟩
  · rw [if_neg hl] at hw
    subst hw
    rw [if_neg hl]
    exact ⟨by simpa using hs, by simpa using hfz, fun t ht => by simpa using h t ht, hg0⟩
theorem order_lt {d : Array Int} {a b n N : Nat} (ha : a < N) (hb : b < N) : (Sort.order2 ltInt d a b n).1 < N ∧ (Sort.order2 ltInt d a b n).2.1 < N ∧ (Sort.order2 ltInt d a b n).2.2 ≤ n + 1 := by
  unfold Sort.order2; split <;> simp <;> omega
set_option maxRecDepth 100000 in
set_option maxHeartbeats 2000000 in
theorem median_rel (blk off cap a b c s n : Nat) (d : Array Int) (w : World) (h : Holds (Value.int .u32) w blk off d) (hne : blk ≠ s) (ha : a < d.size) (hb : b < d.size) (hc : c < d.size) (hsz : d.size < 2305843009213693952) (hs : w.cell? ⟨s, 0, none⟩ = some (.int .i64 n)) (hfz : w.frozen? ⟨s, 0, none⟩ = false) (hn : n < 50) :
    Calls Try.prog 98 #[.slice (some ⟨blk, off, none⟩) d.size cap, .int .i64 a, .int .i64 b, .int .i64 c, .pointer (some ⟨s, 0, none⟩)] w fun e w' =>
      e = .returned (.int .i64 (Sort.median ltInt d a b c n).1) ∧ w'.cell? ⟨s, 0, none⟩ = some (.int .i64 (Sort.median ltInt d a b c n).2) ∧ w'.frozen? ⟨s, 0, none⟩ = false ∧ Holds (Value.int .u32) w' blk off d ∧ w.grownBy w' (some s) := by
  obtain ⟨r1, hr1⟩ : ∃ r, Sort.order2 ltInt d a b n = r := ⟨_, rfl⟩
  have l1 := order_lt (d := d) (n := n) ha hb
  rw [hr1] at l1
  obtain ⟨r2, hr2⟩ : ∃ r, Sort.order2 ltInt d r1.2.1 c r1.2.2 = r := ⟨_, rfl⟩
  have l2 := order_lt (d := d) (n := r1.2.2) l1.2.1 hc
  rw [hr2] at l2
  obtain ⟨r3, hr3⟩ : ∃ r, Sort.order2 ltInt d r1.1 r2.1 r2.2.2 = r := ⟨_, rfl⟩
  have HM : Hid (Sort.median ltInt d a b c n = (r3.2.1, r3.2.2)) := by
    show _ = _
    simp only [Sort.median, hr1, hr2, hr3]
  have HO1 : Hid (∀ W, Holds (Value.int .u32) W blk off d → W.cell? ⟨s, 0, none⟩ = some (.int .i64 n) → W.frozen? ⟨s, 0, none⟩ = false → Calls Try.prog 101 #[.slice (some ⟨blk, off, none⟩) d.size cap, .int .i64 a, .int .i64 b, .pointer (some ⟨s, 0, none⟩)] W fun e w' => e = .returned (.tuple #[.int .i64 r1.1, .int .i64 r1.2.1]) ∧ w'.cell? ⟨s, 0, none⟩ = some (.int .i64 r1.2.2) ∧ w'.frozen? ⟨s, 0, none⟩ = false ∧ Holds (Value.int .u32) w' blk off d ∧ W.grownBy w' (some s)) := fun W h1 h2 h3 => by
    have := order_rel blk off cap a b s n d W h1 hne ha hb hsz h2 h3 (by omega); rw [hr1] at this; exact this
  have HO2 : Hid (∀ W, Holds (Value.int .u32) W blk off d → W.cell? ⟨s, 0, none⟩ = some (.int .i64 r1.2.2) → W.frozen? ⟨s, 0, none⟩ = false → Calls Try.prog 101 #[.slice (some ⟨blk, off, none⟩) d.size cap, .int .i64 r1.2.1, .int .i64 c, .pointer (some ⟨s, 0, none⟩)] W fun e w' => e = .returned (.tuple #[.int .i64 r2.1, .int .i64 r2.2.1]) ∧ w'.cell? ⟨s, 0, none⟩ = some (.int .i64 r2.2.2) ∧ w'.frozen? ⟨s, 0, none⟩ = false ∧ Holds (Value.int .u32) w' blk off d ∧ W.grownBy w' (some s)) := fun W h1 h2 h3 => by
    have := order_rel blk off cap r1.2.1 c s r1.2.2 d W h1 hne l1.2.1 hc hsz h2 h3 (by omega); rw [hr2] at this; exact this
  have HO3 : Hid (∀ W, Holds (Value.int .u32) W blk off d → W.cell? ⟨s, 0, none⟩ = some (.int .i64 r2.2.2) → W.frozen? ⟨s, 0, none⟩ = false → Calls Try.prog 101 #[.slice (some ⟨blk, off, none⟩) d.size cap, .int .i64 r1.1, .int .i64 r2.1, .pointer (some ⟨s, 0, none⟩)] W fun e w' => e = .returned (.tuple #[.int .i64 r3.1, .int .i64 r3.2.1]) ∧ w'.cell? ⟨s, 0, none⟩ = some (.int .i64 r3.2.2) ∧ w'.frozen? ⟨s, 0, none⟩ = false ∧ Holds (Value.int .u32) w' blk off d ∧ W.grownBy w' (some s)) := fun W h1 h2 h3 => by
    have := order_rel blk off cap r1.1 r2.1 s r2.2.2 d W h1 hne l1.1 l2.1 hsz h2 h3 (by omega); rw [hr3] at this; exact this
  rw [HM.out]
  have H0 : Hid (Holds (Value.int .u32) w blk off d) := h
  have HS : Hid (w.cell? ⟨s, 0, none⟩ = some (.int .i64 n)) := hs
  clear hr1 hr2 hr3 l1 l2 h hs
  obtain ⟨x1, y1, n1⟩ := r1
  obtain ⟨x2, y2, n2⟩ := r2
  obtain ⟨x3, y3, n3⟩ := r3
  dsimp only at *
  generalize d.size = N at *
  go_enter Try.func98, Try.ntmps98
  go_wp2_with (first
    | (go_at_call 101; refine (HO3.out _ h2 c2 f2).mono ?_; rintro e w3 ⟨rfl, c3, f3, h3, g3⟩)
    | (go_at_call 101; refine (HO2.out _ h1 c1 f1).mono ?_; rintro e w2 ⟨rfl, c2, f2, h2, g2⟩)
    | (go_at_call 101; refine (HO1.out _ H0.out HS.out hfz).mono ?_; rintro e w1 ⟨rfl, c1, f1, h1, g1⟩))
  go_ret
  exact ⟨rfl, c3, f3, h3, (g1.trans g2).trans g3⟩
end Go.Proofs.Ytkpijoogaicodaa
