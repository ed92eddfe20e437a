/-
  Equal, both sides'.
-/
import Derived.Test.YtkmpcheamdadcaaYc
namespace Go.Proofs.Ytkmpcheamdadcaa
open Go.RowKit
set_option linter.unusedVariables false
set_option linter.unusedSimpArgs false
def eqR (L M : Nat → List Fi) : Nat → Nat → Bool
  | 0, _ => true
  | n + 1, k => leq (L k) (M k) && eqR L M n (k + 1)
/-- What Equal tells. -/
def eqV (L M : Nat → List Fi) : Bool := eqR L M 7 0
theorem eqV_iff {L M : Nat → List Fi} : eqV L M = true ↔ ∀ i, i < 7 → L i = M i := by
  unfold eqV
  simp only [eqR, Bool.and_eq_true, leq_iff]
  constructor
  · rintro ⟨h0, h1, h2, h3, h4, h5, h6, _⟩ i hi
    have : i = 0 ∨ i = 1 ∨ i = 2 ∨ i = 3 ∨ i = 4 ∨ i = 5 ∨ i = 6 := by omega
    rcases this with rfl | rfl | rfl | rfl | rfl | rfl | rfl <;> assumption
  · intro h
    exact ⟨h 0 (by decide), h 1 (by decide), h 2 (by decide), h 3 (by decide), h 4 (by decide), h 5 (by decide), h 6 (by decide), trivial⟩
theorem eqV_self (L : Nat → List Fi) : eqV L L = true := eqV_iff.2 fun _ _ => rfl
set_option maxRecDepth 100000 in
set_option maxHeartbeats 1000000 in
theorem equal_any {w : World} {V U : Vn} {L M : Nat → List Fi} (h : RdV w V L) (k : RdV w U M) :
    Calls Try.prog 25 #[.agg (verA V L), .agg (verA U M)] w fun e w' => e = .returned (.bool (eqV L M)) ∧ Below w.heap.size w w' := by
  have HV : Hid (RdV w V L ∧ RdV w U M) := ⟨h, k⟩
  obtain ⟨R, hR⟩ : ∃ R, Hid (eqV L M = R) := ⟨_, rfl⟩
  rw [hR.out]
  have HX : Hid (∀ k : Nat, k < 7 → ∀ w, (Instr.index 39 (.agg (verA V L)) (.int .i64 k)).run Try.prog w = .ok (vsl V L k) w) := fun k hk w => ver_index V L k hk w
  have HBx : Hid (∀ W, Below ((w.alloc (.cells (verA V L) 41)).alloc (.cells (verA U M) 41)).heap.size ((w.alloc (.cells (verA V L) 41)).alloc (.cells (verA U M) 41)) W → ∀ k, k < 7 → W.cell? ⟨w.heap.size + 1, k, none⟩ = some (vsl U M k)) := fun W hb k hk => by
    have := verK (w := w.alloc (.cells (verA V L) 41)) hb k hk
    rwa [World.size_alloc] at this
  have HB1 : Hid (Below w.heap.size w ((w.alloc (.cells (verA V L) 41)).alloc (.cells (verA U M) 41))) := bstep (al1 _ _) (al1 _ _)
  clear h k
  go_enter Try.func25, Try.ntmps25
  go_wp2
  generalize HW : (w.alloc (.cells _ 41)).alloc (.cells _ 41) = W1 at *
  clear HW
  go_loopw [9] (fun i wr => ∃ k : Nat, k ≤ 7 ∧ i = .int .i64 k ∧ Hid (eqR L M (7 - k) k = R) ∧ Hid (Below W1.heap.size W1 wr)) (fun i _ => (7 - intOf i).toNat)
  case atStart => exact ⟨0, by decide, rfl, hR.out, Below.refl _ _⟩
  case round =>
    clear hR
    obtain ⟨k, hk, rfl, HC, HB⟩ := hrel
    have HBw : Hid (Below w.heap.size w wr) := bstep HB1.out HB.out
    rcases Nat.lt_or_ge k 7 with hk7 | hk7
    · have hkz : (k : Int) < 7 := by omega
      have hx : ∀ w, (Instr.index 39 (.agg #[.slice (V.a 0) (L 0).length (V.c 0), .slice (V.a 1) (L 1).length (V.c 1), .slice (V.a 2) (L 2).length (V.c 2), .slice (V.a 3) (L 3).length (V.c 3), .slice (V.a 4) (L 4).length (V.c 4), .slice (V.a 5) (L 5).length (V.c 5), .slice (V.a 6) (L 6).length (V.c 6)]) (.int .i64 k)).run Try.prog w = .ok (.slice (V.a k) (L k).length (V.c k)) w := HX.out k hk7
      have cx : wr.cell? ⟨w.heap.size + 1, k, none⟩ = some (.slice (U.a k) (M k).length (U.c k)) := HBx.out wr HB.out k hk7
      have lx := cell_lt cx
      have hS : Calls Try.prog 63 #[.slice (V.a k) (L k).length (V.c k), .slice (U.a k) (M k).length (U.c k)] wr fun e w' => e = .returned (.bool (leq (L k) (M k))) ∧ Below wr.heap.size wr w' :=
        seq_any ((HV.out.1.rd k hk7).below HBw.out) ((HV.out.2.rd k hk7).below HBw.out) (HV.out.1.len k hk7) (HV.out.2.len k hk7)
      have HC' : Hid ((leq (L k) (M k) && eqR L M (7 - (k + 1)) (k + 1)) = R) := by
        have := HC.out
        rw [show 7 - k = (7 - (k + 1)) + 1 by omega] at this
        exact this
      clear HC
      generalize leq (L k) (M k) = q at *
      cases q
      · have hres : Hid (R = false) := by have := HC'.out; simp only [Bool.false_and] at this; exact this.symm
        clear HC'
        go_wp2_with (go_at_call 63; refine hS.mono ?_; rintro e w2 ⟨rfl, hb⟩)
        go_ret
        exact ⟨by rw [hres.out]; rfl, bstep HBw.out hb⟩
      · have HN : Hid (eqR L M (7 - (k + 1)) (k + 1) = R) := by have := HC'.out; simp only [Bool.true_and] at this; exact this
        clear HC'
        go_wp2_with (go_at_call 63; refine hS.mono ?_; rintro e w2 ⟨rfl, hb⟩)
        go_roundw
        case rel => exact ⟨k + 1, by omega, by go_num, HN.out, bstep HB.out hb⟩
        case measure => simp [intOf]; omega
    · obtain rfl : k = 7 := by omega
      have hres : Hid (R = true) := HC.out.symm
      go_wp2
      go_ret
      exact ⟨by rw [hres.out]; rfl, HBw.out⟩
set_option maxRecDepth 100000 in
set_option maxHeartbeats 1000000 in
theorem requal_any {w : World} {V U : Vn} {L M : Nat → List Fi} (h : RdV w V L) (k : RdV w U M) :
    Calls Try.prog 20 #[.agg (verA V L), .agg (verA U M)] w fun e w' => e = .returned (.bool (eqV L M)) ∧ Below w.heap.size w w' := by
  have HV : Hid (RdV w V L ∧ RdV w U M) := ⟨h, k⟩
  obtain ⟨R, hR⟩ : ∃ R, Hid (eqV L M = R) := ⟨_, rfl⟩
  rw [hR.out]
  have HBx : Hid (∀ W, Below ((w.alloc (.cells (verA V L) 41)).alloc (.cells (verA U M) 41)).heap.size ((w.alloc (.cells (verA V L) 41)).alloc (.cells (verA U M) 41)) W → ∀ k, k < 7 → W.cell? ⟨w.heap.size, k, none⟩ = some (vsl V L k) ∧ W.cell? ⟨w.heap.size + 1, k, none⟩ = some (vsl U M k)) := fun W hb k hk => by
    have := verK (w := w.alloc (.cells (verA V L) 41)) hb k hk
    rw [World.size_alloc] at this
    exact ⟨verK (bstep (al1 _ _) hb) k hk, this⟩
  have HB1 : Hid (Below w.heap.size w ((w.alloc (.cells (verA V L) 41)).alloc (.cells (verA U M) 41))) := bstep (al1 _ _) (al1 _ _)
  clear h k
  go_enter Try.func20, Try.ntmps20
  go_wp2
  generalize HW : (w.alloc (.cells _ 41)).alloc (.cells _ 41) = W1 at *
  clear HW
  go_loopw [5] (fun i wr => ∃ k : Nat, k ≤ 7 ∧ i = .int .i64 k ∧ Hid (eqR L M (7 - k) k = R) ∧ Hid (Below W1.heap.size W1 wr)) (fun i _ => (7 - intOf i).toNat)
  case atStart => exact ⟨0, by decide, rfl, hR.out, Below.refl _ _⟩
  case round =>
    clear hR
    obtain ⟨k, hk, rfl, HC, HB⟩ := hrel
    have HBw : Hid (Below w.heap.size w wr) := bstep HB1.out HB.out
    rcases Nat.lt_or_ge k 7 with hk7 | hk7
    · have hkz : (k : Int) < 7 := by omega
      obtain ⟨cx, cy⟩ := HBx.out wr HB.out k hk7
      unfold vsl at cx cy
      have lx := cell_lt cx
      have ly := cell_lt cy
      have HRk : Hid (RdF w (V.a k) (L k) ∧ RdF w (U.a k) (M k)) := ⟨HV.out.1.rd k hk7, HV.out.2.rd k hk7⟩
      have hl1 := HV.out.1.len k hk7
      have hl2 := HV.out.2.len k hk7
      have HC' : Hid ((leq (L k) (M k) && eqR L M (7 - (k + 1)) (k + 1)) = R) := by
        have := HC.out
        rw [show 7 - k = (7 - (k + 1)) + 1 by omega] at this
        exact this
      have HBk : Hid (∀ W, Below W1.heap.size W1 W → W.cell? ⟨w.heap.size, k, none⟩ = some (.slice (V.a k) (L k).length (V.c k)) ∧ W.cell? ⟨w.heap.size + 1, k, none⟩ = some (.slice (U.a k) (M k).length (U.c k))) := fun W hb => HBx.out W hb k hk7
      clear HC
      generalize L k = l at *
      generalize M k = m at *
      generalize V.a k = a at *
      generalize V.c k = ca at *
      generalize U.a k = b at *
      generalize U.c k = cb at *
      obtain ⟨Q, hQ⟩ : ∃ Q, Hid (eqR L M (7 - (k + 1)) (k + 1) = Q) := ⟨_, rfl⟩
      rw [hQ.out] at HC'
      obtain ⟨N, hN⟩ : ∃ N, Hid (l.length = N) := ⟨_, rfl⟩
      obtain ⟨T, hT⟩ : ∃ T, Hid (m.length = T) := ⟨_, rfl⟩
      rw [hN.out] at hl1 cx HBk
      rw [hT.out] at hl2 cy HBk
      by_cases hnm : N = T
      · subst hnm
        have hz : ((N : Int) != (N : Int)) = false := by simp
        obtain ⟨W0, rfl⟩ : ∃ W0, W0 = wr := ⟨_, rfl⟩
        go_wp2_with (go_quiet (fail))
        have HBq : Hid (∀ n, Below W1.heap.size W1 (W0.drewN n)) := fun n => belN HB.out _
        clear cx cy lx ly HB HBw
        go_loopw [6] (fun j wr => ∃ i : Nat, i ≤ N ∧ j = .int .i64 i ∧ Hid ((leq (l.drop i) (m.drop i) && Q) = R) ∧ Hid (Below W1.heap.size W1 wr)) (fun j _ => ((N : Int) - intOf j).toNat)
        case atStart => exact ⟨0, Nat.zero_le _, rfl, HC'.out, HBq.out _⟩
        case round =>
          clear HC' HBq
          obtain ⟨i, hi, rfl, HD, HB⟩ := hrel
          have HBw : Hid (Below w.heap.size w wr) := bstep HB1.out HB.out
          obtain ⟨cx, cy⟩ := HBk.out wr HB.out
          have lx := cell_lt cx
          have ly := cell_lt cy
          rcases Nat.lt_or_ge i N with hiN | hiN
          · have hiz : (i : Int) < (N : Int) := by omega
            obtain ⟨f, hf⟩ : ∃ f, l[i]? = some f := ⟨_, List.getElem?_eq_getElem (by rw [hN.out]; exact hiN)⟩
            obtain ⟨g, hg⟩ : ∃ g, m[i]? = some g := ⟨_, List.getElem?_eq_getElem (by rw [hT.out]; exact hiN)⟩
            obtain ⟨ga, oa, e1, hat1⟩ := (HRk.out.1.below HBw.out).at_ hf
            obtain ⟨gb, ob, e2, hat2⟩ := (HRk.out.2.below HBw.out).at_ hg
            obtain ⟨y0, y1, y2, y3, y4, y5, y6, y7, y8, y9⟩ := hat1.f
            obtain ⟨z0, z1, z2, z3, z4, z5, z6, z7, z8, z9⟩ := hat2.f
            have HD' : Hid ((leq (f :: l.drop (i + 1)) (g :: m.drop (i + 1)) && Q) = R) := by
              show _ = _
              rw [← drop_get hf, ← drop_get hg]; exact HD.out
            have hq : ∀ W, (binOp .neq 50 f.v g.v).run Try.prog W = .ok (.bool (!feq f g)) W := fun W => neqf_any f g W
            rw [e1] at cx
            rw [e2] at cy
            clear hf hg hat1 hat2 HD
            cases hfg : feq f g
            · have hres : Hid (R = false) := by
                have := HD'.out
                simp only [leq, hfg, Bool.false_and] at this
                exact this.symm
              rw [hfg] at hq
              have hq' : ∀ W, (binOp .neq 50 (.agg #[.int .u64 f.num, .int .u64 f.size, .string f.sm.u, .int .u64 f.sm.s, .int .i64 f.sm.k, .string f.la.u, .int .u64 f.la.s, .int .i64 f.la.k, .int .u64 f.ents, .int .u64 f.rngs]) (.agg #[.int .u64 g.num, .int .u64 g.size, .string g.sm.u, .int .u64 g.sm.s, .int .i64 g.sm.k, .string g.la.u, .int .u64 g.la.s, .int .i64 g.la.k, .int .u64 g.ents, .int .u64 g.rngs])).run Try.prog W = .ok (.bool true) W := hq
              clear hq HD' hfg
              go_wp2_with (go_quiet (fail))
              go_ret
              exact ⟨by rw [hres.out]; rfl, belN HBw.out _⟩
            · have HN : Hid ((leq (l.drop (i + 1)) (m.drop (i + 1)) && Q) = R) := by
                have := HD'.out
                simp only [leq, hfg, Bool.true_and] at this
                exact this
              rw [hfg] at hq
              have hq' : ∀ W, (binOp .neq 50 (.agg #[.int .u64 f.num, .int .u64 f.size, .string f.sm.u, .int .u64 f.sm.s, .int .i64 f.sm.k, .string f.la.u, .int .u64 f.la.s, .int .i64 f.la.k, .int .u64 f.ents, .int .u64 f.rngs]) (.agg #[.int .u64 g.num, .int .u64 g.size, .string g.sm.u, .int .u64 g.sm.s, .int .i64 g.sm.k, .string g.la.u, .int .u64 g.la.s, .int .i64 g.la.k, .int .u64 g.ents, .int .u64 g.rngs])).run Try.prog W = .ok (.bool false) W := hq
              clear hq HD' hfg
              go_wp2_with (go_quiet (fail))
              go_roundw
              case rel => exact ⟨i + 1, by omega, by go_num, HN.out, belN HB.out _⟩
              case measure => simp [intOf]; omega
          · obtain rfl : i = N := by omega
            have hz : ¬ ((i : Int) < i) := by omega
            have HN : Hid (Q = R) := by
              have := HD.out
              rw [List.drop_of_length_le (by rw [hN.out]; exact Nat.le_refl _), List.drop_of_length_le (by rw [hT.out]; exact Nat.le_refl _)] at this
              exact this
            go_wp2
            go_roundw
            case rel => exact ⟨k + 1, by omega, by go_num, (show _ = _ by rw [hQ.out]; exact HN.out), HB.out⟩
            case measure => simp [intOf]; omega
      · have hz : ((N : Int) != (T : Int)) = true := by simp; omega
        have hres : Hid (R = false) := by
          have := HC'.out
          rw [leq_len (by rw [hN.out, hT.out]; exact hnm), Bool.false_and] at this
          exact this.symm
        go_wp2_with (go_quiet (fail))
        go_ret
        exact ⟨by rw [hres.out]; rfl, belN HBw.out _⟩
    · obtain rfl : k = 7 := by omega
      have hres : Hid (R = true) := HC.out.symm
      go_wp2
      go_ret
      exact ⟨by rw [hres.out]; rfl, HBw.out⟩
end Go.Proofs.Ytkmpcheamdadcaa
