import Derived.Test.YtedmfabonnpblaaLive
import Derived.WalkKit
import Derived.WalkSpells
import Derived.WalkLawsBesides
import Derived.Deep.RegionHeldLaw
import Derived.Deep.DeepCutAuto
import Derived.BigRegion
import Derived.Laws.StructEq
namespace Go.Proofs.Ytedmfabonnpblaa
open Go.RowKit
set_option linter.unusedVariables false
set_option linter.unusedSimpArgs false

/-- Three boxes of keys, and the world as it was below. -/
structure Bx (w : World) (b5 b6 b7 : Nat) (u1 : ByteArray) (s1 k1 : Int) (u2 : ByteArray) (s2 k2 : Int) (u3 : ByteArray) (s3 k3 : Int) (W : World) : Prop where
  l5 : b5 < W.heap.size
  l6 : b6 < W.heap.size
  l7 : b7 < W.heap.size
  c : W.cell? ⟨b5, 0, none⟩ = some (.string u1) ∧ W.cell? ⟨b5, 1, none⟩ = some (.int .u64 s1) ∧ W.cell? ⟨b5, 2, none⟩ = some (.int .i64 k1) ∧ W.cell? ⟨b6, 0, none⟩ = some (.string u2) ∧ W.cell? ⟨b6, 1, none⟩ = some (.int .u64 s2) ∧ W.cell? ⟨b6, 2, none⟩ = some (.int .i64 k2) ∧ W.cell? ⟨b7, 0, none⟩ = some (.string u3) ∧ W.cell? ⟨b7, 1, none⟩ = some (.int .u64 s3) ∧ W.cell? ⟨b7, 2, none⟩ = some (.int .i64 k3)
  bel : Below w.heap.size w W
theorem Bx.drew {w : World} {b5 b6 b7 : Nat} {u1 : ByteArray} {s1 k1 : Int} {u2 : ByteArray} {s2 k2 : Int} {u3 : ByteArray} {s3 k3 : Int} {W : World} (h : Bx w b5 b6 b7 u1 s1 k1 u2 s2 k2 u3 s3 k3 W) : Bx w b5 b6 b7 u1 s1 k1 u2 s2 k2 u3 s3 k3 W.drew :=
  ⟨h.l5, h.l6, h.l7, h.c, h.bel.drew⟩
theorem Bx.below {w : World} {b5 b6 b7 : Nat} {u1 : ByteArray} {s1 k1 : Int} {u2 : ByteArray} {s2 k2 : Int} {u3 : ByteArray} {s3 k3 : Int} {W W' : World} (h : Bx w b5 b6 b7 u1 s1 k1 u2 s2 k2 u3 s3 k3 W) (hb : Below W.heap.size W W') : Bx w b5 b6 b7 u1 s1 k1 u2 s2 k2 u3 s3 k3 W' := by
  have c5 := fun o => hb.cell (p := ⟨b5, o, none⟩) h.l5
  have c6 := fun o => hb.cell (p := ⟨b6, o, none⟩) h.l6
  have c7 := fun o => hb.cell (p := ⟨b7, o, none⟩) h.l7
  have hs := hb.size
  refine ⟨Nat.lt_of_lt_of_le h.l5 hs, Nat.lt_of_lt_of_le h.l6 hs, Nat.lt_of_lt_of_le h.l7 hs, ?_, h.bel.trans (hb.mono h.bel.size)⟩
  obtain ⟨a1, a2, a3, a4, a5, a6, a7, a8, a9⟩ := h.c
  exact ⟨(c5 0).trans a1, (c5 1).trans a2, (c5 2).trans a3, (c6 0).trans a4, (c6 1).trans a5, (c6 2).trans a6, (c7 0).trans a7, (c7 1).trans a8, (c7 2).trans a9⟩
theorem Bx.next {w : World} {b5 b6 b7 : Nat} {u1 : ByteArray} {s1 k1 : Int} {u2 : ByteArray} {s2 k2 : Int} {u3 : ByteArray} {s3 k3 : Int} {W W0 W' : World} (h : Bx w b5 b6 b7 u1 s1 k1 u2 s2 k2 u3 s3 k3 W) (hb : Below W0.heap.size W0 W') (e : W0 = W ∨ W0 = W.drew) : Bx w b5 b6 b7 u1 s1 k1 u2 s2 k2 u3 s3 k3 W' := by
  rcases e with rfl | rfl
  · exact h.below hb
  · exact h.drew.below hb
theorem cord_bel (how : Int) (u : ByteArray) (s k : Int) (u' : ByteArray) (s' k' : Int) (w : World) :
    Calls Try.prog 32 #[.int .i64 how, .agg #[.string u, .int .u64 s, .int .i64 k], .agg #[.string u', .int .u64 s', .int .i64 k']] w fun e w' => e = .returned (.int .i64 (ordK how u s k u' s' k')) ∧ Below w.heap.size w w' := by
  refine (cord_any how u s k u' s' k' w).mono ?_
  rintro e w' ⟨rfl, rfl⟩
  exact ⟨rfl, ((Below.refl _ _).alloc (Nat.le_refl _) _).alloc (by simp) _⟩

set_option maxRecDepth 100000 in
set_option maxHeartbeats 3200000 in
theorem laws_walk (how : Int) (u1 : ByteArray) (s1 k1 : Int) (u2 : ByteArray) (s2 k2 : Int) (u3 : ByteArray) (s3 k3 : Int) (w : World) :
    Calls Try.prog 7 #[.int .i64 how, .agg #[.string u1, .int .u64 s1, .int .i64 k1, .string u2, .int .u64 s2, .int .i64 k2, .string u3, .int .u64 s3, .int .i64 k3]] w fun e w' => e = .returned (.bool true) ∧ Below w.heap.size w w' := by
  go_enter Try.func7, Try.ntmps7
  go_wp2
  go_cut [5, 6, 7] (fun p q r wc => ∃ b5 b6 b7, p = .pointer (some ⟨b5, 0, none⟩) ∧ q = .pointer (some ⟨b6, 0, none⟩) ∧ r = .pointer (some ⟨b7, 0, none⟩) ∧ Bx w b5 b6 b7 u1 s1 k1 u2 s2 k2 u3 s3 k3 wc)
  case first =>
    go_region
    all_goals
      go_wp2
      go_meet
      case rel =>
        refine ⟨_, _, _, rfl, rfl, rfl, ⟨?_, ?_, ?_, ⟨?_, ?_, ?_, ?_, ?_, ?_, ?_, ?_, ?_⟩, ?_⟩⟩
        iterate 3 (simp only [World.size_drew, World.size_alloc]; omega)
        iterate 9 go_simp
        repeat' (first | exact Below.refl _ _ | apply Below.drew | apply Below.alloc | exact Nat.le_refl _ | (simp only [World.size_drew, World.size_alloc]; omega))
  case rest =>
    obtain ⟨b5, b6, b7, rfl, rfl, rfl, hB⟩ := hcut
    go_wp2
    go_cut [8, 9, 10] (fun x y z wd => x = .int .i64 (ordK how u1 s1 k1 u2 s2 k2) ∧ y = .int .i64 (ordK how u2 s2 k2 u3 s3 k3) ∧ z = .int .i64 (ordK how u1 s1 k1 u3 s3 k3) ∧ Bx w b5 b6 b7 u1 s1 k1 u2 s2 k2 u3 s3 k3 wd)
    case first =>
      have hC := hB.c
      go_region_held_law (fun w' => w'.cell? ⟨b5, 0, none⟩ = some (.string u1) ∧ w'.cell? ⟨b5, 1, none⟩ = some (.int .u64 s1) ∧ w'.cell? ⟨b5, 2, none⟩ = some (.int .i64 k1) ∧ w'.cell? ⟨b6, 0, none⟩ = some (.string u2) ∧ w'.cell? ⟨b6, 1, none⟩ = some (.int .u64 s2) ∧ w'.cell? ⟨b6, 2, none⟩ = some (.int .i64 k2) ∧ w'.cell? ⟨b7, 0, none⟩ = some (.string u3) ∧ w'.cell? ⟨b7, 1, none⟩ = some (.int .u64 s3) ∧ w'.cell? ⟨b7, 2, none⟩ = some (.int .i64 k3)) (exact hB.c)
       (first
        | (go_at_call 32; refine (cord_bel _ _ _ _ _ _ _ _).mono ?_; rintro e w2 ⟨rfl, hbl⟩; replace hB := hB.next hbl (by first | exact .inl rfl | exact .inr rfl); clear hbl))
      go_wp2
      go_meet
      case rel => exact ⟨rfl, rfl, rfl, hB⟩
    case rest =>
      clear hB
      obtain ⟨rfl, rfl, rfl, hB⟩ := hcut
      go_upto_region 3 with fail
      go_cut [50] (fun t wd => t = .bool false ∧ Bx w b5 b6 b7 u1 s1 k1 u2 s2 k2 u3 s3 k3 wd)
      case first =>
        obtain ⟨a1, a2, a3, a4, a5, a6, a7, a8, a9⟩ := hB.c
        have hneg := ordK_neg how u1 s1 k1 u2 s2 k2
        have haa : ordK how u1 s1 k1 u1 s1 k1 = 0 := (ordK_zero _ _ _ _ _ _ _).2 ⟨rfl, rfl, rfl⟩
        by_cases e : u1 = u2 ∧ s1 = s2 ∧ k1 = k2
        · obtain ⟨rfl, rfl, rfl⟩ := e
          clear hneg
          have f1 : (ordK how u1 s1 k1 u1 s1 k1 != -ordK how u1 s1 k1 u1 s1 k1) = false := by rw [haa]; rfl
          have f2 : (ordK how u1 s1 k1 u1 s1 k1 != 0) = false := by rw [haa]; rfl
          have f3 : (ordK how u1 s1 k1 u1 s1 k1 == 0) = true := by rw [haa]; rfl
          have f4 : -1 ≤ ordK how u1 s1 k1 u1 s1 k1 := by omega
          have f5 : ordK how u1 s1 k1 u1 s1 k1 ≤ 1 := by omega
          clear haa
          go_wp2_with (go_at_call 32; refine (cord_bel _ _ _ _ _ _ _ _).mono ?_; rintro e w2 ⟨rfl, hbl⟩; replace hB := hB.next hbl (by first | exact .inl rfl | exact .inr rfl); clear hbl a1 a2 a3 a4 a5 a6 a7 a8 a9; obtain ⟨a1, a2, a3, a4, a5, a6, a7, a8, a9⟩ := hB.c)
          go_meet
          case rel => exact ⟨rfl, hB⟩
        · have hX := ordK_cases how u1 s1 k1 u2 s2 k2
          have hXn : ¬ ordK how u1 s1 k1 u2 s2 k2 = 0 := fun h => e ((ordK_zero _ _ _ _ _ _ _).1 h)
          have hXb : (ordK how u1 s1 k1 u2 s2 k2 == 0) = false := by simpa using hXn
          have hX0 : -1 ≤ ordK how u1 s1 k1 u2 s2 k2 := by omega
          have hX1 : ordK how u1 s1 k1 u2 s2 k2 ≤ 1 := by omega
          clear hX hXn
          by_cases e1 : u1 = u2
          · subst e1
            by_cases e2 : s1 = s2
            · subst e2
              have e3 : (k1 == k2) = false := by simpa using e
              clear e
              go_wp2_with (go_at_call 32; refine (cord_bel _ _ _ _ _ _ _ _).mono ?_; rintro e w2 ⟨rfl, hbl⟩; replace hB := hB.next hbl (by first | exact .inl rfl | exact .inr rfl); clear hbl a1 a2 a3 a4 a5 a6 a7 a8 a9; obtain ⟨a1, a2, a3, a4, a5, a6, a7, a8, a9⟩ := hB.c)
              go_meet
              case rel => exact ⟨rfl, hB⟩
            · have e3 : (s1 == s2) = false := by simpa using e2
              clear e e2
              go_wp2_with (go_at_call 32; refine (cord_bel _ _ _ _ _ _ _ _).mono ?_; rintro e w2 ⟨rfl, hbl⟩; replace hB := hB.next hbl (by first | exact .inl rfl | exact .inr rfl); clear hbl a1 a2 a3 a4 a5 a6 a7 a8 a9; obtain ⟨a1, a2, a3, a4, a5, a6, a7, a8, a9⟩ := hB.c)
              go_meet
              case rel => exact ⟨rfl, hB⟩
          · have e3 : (u1.toList == u2.toList) = false := by
              rw [ByteArray.toList_eq, ByteArray.toList_eq]
              simpa using fun h => e1 (ba_eq.1 h)
            clear e e1
            go_wp2_with (go_at_call 32; refine (cord_bel _ _ _ _ _ _ _ _).mono ?_; rintro e w2 ⟨rfl, hbl⟩; replace hB := hB.next hbl (by first | exact .inl rfl | exact .inr rfl); clear hbl a1 a2 a3 a4 a5 a6 a7 a8 a9; obtain ⟨a1, a2, a3, a4, a5, a6, a7, a8, a9⟩ := hB.c)
            go_meet
            case rel => exact ⟨rfl, hB⟩
      case rest =>
        clear hB
        obtain ⟨rfl, hB⟩ := hcut
        have hT := ordK_trans how u1 s1 k1 u2 s2 k2 u3 s3 k3
        have hS := ordK_strict how u1 s1 k1 u2 s2 k2 u3 s3 k3
        generalize ordK how u1 s1 k1 u2 s2 k2 = X at *
        generalize ordK how u2 s2 k2 u3 s3 k3 = Y at *
        generalize ordK how u1 s1 k1 u3 s3 k3 = Z at *
        by_cases g1 : 0 < X
        · clear hT hS
          have g2 : 0 ≤ X := by omega
          go_wp2_with (go_at_call 19; refine (lives_any _).mono ?_; rintro e w2 ⟨rfl, hbl⟩; replace hB := hB.next hbl (by first | exact .inl rfl | exact .inr rfl); clear hbl)
          go_ret
          exact ⟨rfl, hB.bel⟩
        · by_cases g2 : 0 < Y
          · clear hT hS
            by_cases g3 : 0 ≤ X
            · go_wp2_with (go_at_call 19; refine (lives_any _).mono ?_; rintro e w2 ⟨rfl, hbl⟩; replace hB := hB.next hbl (by first | exact .inl rfl | exact .inr rfl); clear hbl)
              go_ret
              exact ⟨rfl, hB.bel⟩
            · go_wp2_with (go_at_call 19; refine (lives_any _).mono ?_; rintro e w2 ⟨rfl, hbl⟩; replace hB := hB.next hbl (by first | exact .inl rfl | exact .inr rfl); clear hbl)
              go_ret
              exact ⟨rfl, hB.bel⟩
          · have g3 := hT (by omega) (by omega)
            by_cases g4 : 0 ≤ X
            · clear hT hS
              go_wp2_with (go_at_call 19; refine (lives_any _).mono ?_; rintro e w2 ⟨rfl, hbl⟩; replace hB := hB.next hbl (by first | exact .inl rfl | exact .inr rfl); clear hbl)
              go_ret
              exact ⟨rfl, hB.bel⟩
            · have g5 := hS (by omega) (by omega)
              clear hT hS
              go_wp2_with (go_at_call 19; refine (lives_any _).mono ?_; rintro e w2 ⟨rfl, hbl⟩; replace hB := hB.next hbl (by first | exact .inl rfl | exact .inr rfl); clear hbl)
              go_ret
              exact ⟨rfl, hB.bel⟩
end Go.Proofs.Ytedmfabonnpblaa
