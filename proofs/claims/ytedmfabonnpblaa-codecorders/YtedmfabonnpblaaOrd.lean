import Derived.Test.YtedmfabonnpblaaBtw
import Derived.WalkKit
import Derived.WalkSpells
import Derived.WalkLawsBesides
import Derived.Deep.RegionHeldLaw
import Derived.Deep.DeepCutAuto
import Derived.BigRegion
import Derived.Laws.StructEq
namespace Go.Proofs.Ytedmfabonnpblaa
open Go.RowKit
set_option linter.unusedVariables false
set_option linter.unusedSimpArgs false

/-- Two boxes of keys, and the world as it was below. -/
structure By (w : World) (b5 b6 : Nat) (u1 : ByteArray) (s1 k1 : Int) (u2 : ByteArray) (s2 k2 : Int) (W : World) : Prop where
  l5 : b5 < W.heap.size
  l6 : b6 < W.heap.size
  c : W.cell? ⟨b5, 0, none⟩ = some (.string u1) ∧ W.cell? ⟨b5, 1, none⟩ = some (.int .u64 s1) ∧ W.cell? ⟨b5, 2, none⟩ = some (.int .i64 k1) ∧ W.cell? ⟨b6, 0, none⟩ = some (.string u2) ∧ W.cell? ⟨b6, 1, none⟩ = some (.int .u64 s2) ∧ W.cell? ⟨b6, 2, none⟩ = some (.int .i64 k2)
  bel : Below w.heap.size w W
theorem By.drew {w : World} {b5 b6 : Nat} {u1 : ByteArray} {s1 k1 : Int} {u2 : ByteArray} {s2 k2 : Int} {W : World} (h : By w b5 b6 u1 s1 k1 u2 s2 k2 W) : By w b5 b6 u1 s1 k1 u2 s2 k2 W.drew :=
  ⟨h.l5, h.l6, h.c, h.bel.drew⟩
theorem By.below {w : World} {b5 b6 : Nat} {u1 : ByteArray} {s1 k1 : Int} {u2 : ByteArray} {s2 k2 : Int} {W W' : World} (h : By w b5 b6 u1 s1 k1 u2 s2 k2 W) (hb : Below W.heap.size W W') : By w b5 b6 u1 s1 k1 u2 s2 k2 W' := by
  have c5 := fun o => hb.cell (p := ⟨b5, o, none⟩) h.l5
  have c6 := fun o => hb.cell (p := ⟨b6, o, none⟩) h.l6
  have hs := hb.size
  refine ⟨Nat.lt_of_lt_of_le h.l5 hs, Nat.lt_of_lt_of_le h.l6 hs, ?_, h.bel.trans (hb.mono h.bel.size)⟩
  obtain ⟨a1, a2, a3, a4, a5, a6⟩ := h.c
  exact ⟨(c5 0).trans a1, (c5 1).trans a2, (c5 2).trans a3, (c6 0).trans a4, (c6 1).trans a5, (c6 2).trans a6⟩
theorem By.next {w : World} {b5 b6 : Nat} {u1 : ByteArray} {s1 k1 : Int} {u2 : ByteArray} {s2 k2 : Int} {W W0 W' : World} (h : By w b5 b6 u1 s1 k1 u2 s2 k2 W) (hb : Below W0.heap.size W0 W') (e : W0 = W ∨ W0 = W.drew) : By w b5 b6 u1 s1 k1 u2 s2 k2 W' := by
  rcases e with rfl | rfl
  · exact h.below hb
  · exact h.drew.below hb
theorem ord_bel (how : Int) (u : ByteArray) (s k : Int) (u' : ByteArray) (s' k' : Int) (w : World) :
    Calls Try.prog 32 #[.int .i64 how, .agg #[.string u, .int .u64 s, .int .i64 k], .agg #[.string u', .int .u64 s', .int .i64 k']] w fun e w' => e = .returned (.int .i64 (ordK how u s k u' s' k')) ∧ Below w.heap.size w w' := by
  refine (cord_any how u s k u' s' k' w).mono ?_
  rintro e w' ⟨rfl, rfl⟩
  exact ⟨rfl, ((Below.refl _ _).alloc (Nat.le_refl _) _).alloc (by simp) _⟩
theorem rord_bel (how : Int) (u : ByteArray) (s k : Int) (u' : ByteArray) (s' k' : Int) (w : World) :
    Calls Try.prog 33 #[.int .i64 how, .agg #[.string u, .int .u64 s, .int .i64 k], .agg #[.string u', .int .u64 s', .int .i64 k']] w fun e w' => e = .returned (.int .i64 (ordK how u s k u' s' k')) ∧ Below w.heap.size w w' := by
  refine (rord_any how u s k u' s' k' w).mono ?_
  rintro e w' ⟨rfl, rfl⟩
  exact ⟨rfl, ((Below.refl _ _).alloc (Nat.le_refl _) _).alloc (by simp) _⟩
theorem ccmp_bel (how : Int) (a b : ByteArray) (w : World) :
    Calls Try.prog 34 #[.int .i64 how, .string a, .string b] w fun e w' => e = .returned (.int .i64 (cmpH how a b)) ∧ Below w.heap.size w w' := by
  refine (ccmp_any how a b w).mono ?_
  rintro e w' ⟨rfl, rfl⟩
  exact ⟨rfl, Below.refl _ _⟩
theorem rcmp_bel (how : Int) (a b : ByteArray) (w : World) :
    Calls Try.prog 35 #[.int .i64 how, .string a, .string b] w fun e w' => e = .returned (.int .i64 (cmpH how a b)) ∧ Below w.heap.size w w' := by
  refine (rcmp_any how a b w).mono ?_
  rintro e w' ⟨rfl, rfl⟩
  exact ⟨rfl, Below.refl _ _⟩

set_option maxRecDepth 100000 in
set_option maxHeartbeats 3200000 in
theorem orders_walk (how : Int) (u1 : ByteArray) (s1 k1 : Int) (u2 : ByteArray) (s2 k2 : Int) (w : World) (hu1 : u1.size ≤ maxLen) (hu2 : u2.size ≤ maxLen) :
    Calls Try.prog 6 #[.int .i64 how, .agg #[.string u1, .int .u64 s1, .int .i64 k1], .agg #[.string u2, .int .u64 s2, .int .i64 k2]] w fun e w' => e = .returned (.bool true) ∧ Below w.heap.size w w' := by
  have hB : By w w.heap.size (w.heap.size + 1) u1 s1 k1 u2 s2 k2 ((w.alloc (.cells #[.string u1, .int .u64 s1, .int .i64 k1] 42)).alloc (.cells #[.string u2, .int .u64 s2, .int .i64 k2] 42)) := by
    refine ⟨by simp only [World.size_alloc]; omega, by simp only [World.size_alloc]; omega, ⟨?_, ?_, ?_, ?_, ?_, ?_⟩, ((Below.refl _ _).alloc (Nat.le_refl _) _).alloc (by simp) _⟩
    iterate 6 go_simp
  go_enter Try.func6, Try.ntmps6
  go_wp2
  go_cut [32] (fun t wc => t = .bool false ∧ By w w.heap.size (w.heap.size + 1) u1 s1 k1 u2 s2 k2 wc)
  case first =>
    have hC := hB.c
    go_region_held_law (fun w' => w'.cell? ⟨w.heap.size, 0, none⟩ = some (.string u1) ∧ w'.cell? ⟨w.heap.size, 1, none⟩ = some (.int .u64 s1) ∧ w'.cell? ⟨w.heap.size, 2, none⟩ = some (.int .i64 k1) ∧ w'.cell? ⟨w.heap.size + 1, 0, none⟩ = some (.string u2) ∧ w'.cell? ⟨w.heap.size + 1, 1, none⟩ = some (.int .u64 s2) ∧ w'.cell? ⟨w.heap.size + 1, 2, none⟩ = some (.int .i64 k2)) (exact hB.c)
     (first
      | (go_at_call 32; refine (ord_bel _ _ _ _ _ _ _ _).mono ?_; rintro e w2 ⟨rfl, hbl⟩; replace hB := hB.next hbl (by first | exact .inl rfl | exact .inr rfl); clear hbl)
      | (go_at_call 33; refine (rord_bel _ _ _ _ _ _ _ _).mono ?_; rintro e w2 ⟨rfl, hbl⟩; replace hB := hB.next hbl (by first | exact .inl rfl | exact .inr rfl); clear hbl)
      | (go_at_call 34; refine (ccmp_bel _ _ _ _).mono ?_; rintro e w2 ⟨rfl, hbl⟩; replace hB := hB.next hbl (by first | exact .inl rfl | exact .inr rfl); clear hbl)
      | (go_at_call 35; refine (rcmp_bel _ _ _ _).mono ?_; rintro e w2 ⟨rfl, hbl⟩; replace hB := hB.next hbl (by first | exact .inl rfl | exact .inr rfl); clear hbl))
    go_wp2
    go_meet
    case rel => exact ⟨rfl, hB⟩
  case rest =>
    clear hB
    obtain ⟨rfl, hB⟩ := hcut
    go_wp2
    go_cut [7, 8] (fun x y wd => x = .string (btwV how u1 u2) ∧ y = .string (aftV how u1) ∧ By w w.heap.size (w.heap.size + 1) u1 s1 k1 u2 s2 k2 wd)
    case first =>
      have hC := hB.c
      go_region_held_law (fun w' => w'.cell? ⟨w.heap.size, 0, none⟩ = some (.string u1) ∧ w'.cell? ⟨w.heap.size, 1, none⟩ = some (.int .u64 s1) ∧ w'.cell? ⟨w.heap.size, 2, none⟩ = some (.int .i64 k1) ∧ w'.cell? ⟨w.heap.size + 1, 0, none⟩ = some (.string u2) ∧ w'.cell? ⟨w.heap.size + 1, 1, none⟩ = some (.int .u64 s2) ∧ w'.cell? ⟨w.heap.size + 1, 2, none⟩ = some (.int .i64 k2)) (exact hB.c)
       (first
        | (go_at_call 36; refine (cbetween_any how u1 u2 _ hu1 hu2).mono ?_; rintro e w2 ⟨rfl, hbl⟩; replace hB := hB.next hbl (by first | exact .inl rfl | exact .inr rfl); clear hbl)
        | (go_at_call 37; refine (cafter_any how u1 _ hu1).mono ?_; rintro e w2 ⟨rfl, hbl⟩; replace hB := hB.next hbl (by first | exact .inl rfl | exact .inr rfl); clear hbl))
      go_wp2
      go_meet
      case rel => exact ⟨rfl, rfl, hB⟩
    case rest =>
      clear hB
      obtain ⟨rfl, rfl, hB⟩ := hcut
      have q1 : ((btwV how u1 u2).size : Int) ≤ (u1.size : Int) := by have := btwV_size how u1 u2; omega
      have q2 : ((aftV how u1).size : Int) ≤ (u1.size : Int) := by have := aftV_size how u1; omega
      have q3 := aftV_cmp how u1
      have q4 := btwV_cmp how u1 u2
      obtain ⟨a1, a2, a3, a4, a5, a6⟩ := hB.c
      by_cases g : cmpH how u1 u2 < 0
      · obtain ⟨g1, g2⟩ := q4 g
        clear q4
        go_wp2_with (first
          | (go_at_call 38; refine (rbetween_any how u1 u2 _ hu1 hu2).mono ?_; rintro e w2 ⟨rfl, hbl⟩; replace hB := hB.next hbl (by first | exact .inl rfl | exact .inr rfl); clear hbl; clear a1 a2 a3 a4 a5 a6; obtain ⟨a1, a2, a3, a4, a5, a6⟩ := hB.c)
          | (go_at_call 39; refine (rafter_any how u1 _ hu1).mono ?_; rintro e w2 ⟨rfl, hbl⟩; replace hB := hB.next hbl (by first | exact .inl rfl | exact .inr rfl); clear hbl; clear a1 a2 a3 a4 a5 a6; obtain ⟨a1, a2, a3, a4, a5, a6⟩ := hB.c)
          | (go_at_call 34; refine (ccmp_bel _ _ _ _).mono ?_; rintro e w2 ⟨rfl, hbl⟩; replace hB := hB.next hbl (by first | exact .inl rfl | exact .inr rfl); clear hbl; clear a1 a2 a3 a4 a5 a6; obtain ⟨a1, a2, a3, a4, a5, a6⟩ := hB.c)
          | (go_at_call 19; refine (lives_any _).mono ?_; rintro e w2 ⟨rfl, hbl⟩; replace hB := hB.next hbl (by first | exact .inl rfl | exact .inr rfl); clear hbl))
        go_ret
        exact ⟨rfl, hB.bel⟩
      · clear q4
        go_wp2_with (first
          | (go_at_call 38; refine (rbetween_any how u1 u2 _ hu1 hu2).mono ?_; rintro e w2 ⟨rfl, hbl⟩; replace hB := hB.next hbl (by first | exact .inl rfl | exact .inr rfl); clear hbl; clear a1 a2 a3 a4 a5 a6; obtain ⟨a1, a2, a3, a4, a5, a6⟩ := hB.c)
          | (go_at_call 39; refine (rafter_any how u1 _ hu1).mono ?_; rintro e w2 ⟨rfl, hbl⟩; replace hB := hB.next hbl (by first | exact .inl rfl | exact .inr rfl); clear hbl; clear a1 a2 a3 a4 a5 a6; obtain ⟨a1, a2, a3, a4, a5, a6⟩ := hB.c)
          | (go_at_call 34; refine (ccmp_bel _ _ _ _).mono ?_; rintro e w2 ⟨rfl, hbl⟩; replace hB := hB.next hbl (by first | exact .inl rfl | exact .inr rfl); clear hbl; clear a1 a2 a3 a4 a5 a6; obtain ⟨a1, a2, a3, a4, a5, a6⟩ := hB.c)
          | (go_at_call 19; refine (lives_any _).mono ?_; rintro e w2 ⟨rfl, hbl⟩; replace hB := hB.next hbl (by first | exact .inl rfl | exact .inr rfl); clear hbl))
        go_ret
        exact ⟨rfl, hB.bel⟩
end Go.Proofs.Ytedmfabonnpblaa
