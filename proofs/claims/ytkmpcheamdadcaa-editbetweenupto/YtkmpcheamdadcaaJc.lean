/-
  The sort at uint64: breakPatterns (at most 16777215 elements).
  The sort at uint64: partialInsertionSort.
  The sort at uint64: what one round of pdqsort reckons with, over variables.
-/
import Derived.Test.YtkmpcheamdadcaaJl
import Derived.Test.YtkmpcheamdadcaaJk
import Derived.Sort.OwnSortedInts
import Derived.Sort.Walk7
import Derived.Test.YtkmpcheamdadcaaJi
import Derived.Sort.WalkA6
import Derived.Sort.LotA
import Derived.Sort.Walk13a
import Derived.Sort.AssemblyPlain
namespace Go.Proofs.Ytkmpcheamdadcaa.Srt
open Go.RowKit Go.Sort
set_option linter.unusedVariables false
set_option linter.unusedSimpArgs false
theorem box_set (w : World) (s : Nat) (u v : Value) (hs : w.cell? ⟨s, 0, none⟩ = some u) (hf : w.frozen? ⟨s, 0, none⟩ = false) :
    ((w.setCell ⟨s, 0, none⟩ v).drew).cell? ⟨s, 0, none⟩ = some v ∧ ((w.setCell ⟨s, 0, none⟩ v).drew).frozen? ⟨s, 0, none⟩ = false ∧ w.grownBy (w.setCell ⟨s, 0, none⟩ v).drew (some s) := by
  refine ⟨?_, ?_, ?_⟩
  · simp only [World.cell?_drew]; rw [World.cell?_setCell_same' _ _ _ (by simp [hs])]
  · simp only [World.frozen?_drew]; rw [World.frozen?_setCell]; exact hf
  · exact ⟨rfl, rfl, rfl, by simp [World.setCell, World.drew], fun k hk hk2 => (Below.heap_setCell _ _ _ _ (fun e => hk2 (by rw [e]))).trans rfl⟩
set_option maxRecDepth 100000 in
set_option maxHeartbeats 2000000 in
theorem next_any (s : Nat) (X : Int) (w : World) (hs : w.cell? ⟨s, 0, none⟩ = some (.int .u64 X)) (hf : w.frozen? ⟨s, 0, none⟩ = false) :
    Calls Try.prog 130 #[.pointer (some ⟨s, 0, none⟩)] w fun e w' => e = .returned (.int .u64 (xo X)) ∧ w'.cell? ⟨s, 0, none⟩ = some (.int .u64 (xo X)) ∧ w'.frozen? ⟨s, 0, none⟩ = false ∧ w.grownBy w' (some s) := by
  obtain ⟨A, hA⟩ : ∃ A, bits .xor .u64 X (IntKind.u64.wrap (X * 8192)) = A := ⟨_, rfl⟩
  obtain ⟨B, hB⟩ : ∃ B, bits .xor .u64 A (A / 128) = B := ⟨_, rfl⟩
  have HX : Hid (xo X = bits .xor .u64 B (IntKind.u64.wrap (B * 131072))) := by show _ = _; unfold xo; simp only [hA, hB]
  obtain ⟨C, hC⟩ : ∃ C, bits .xor .u64 B (IntKind.u64.wrap (B * 131072)) = C := ⟨_, rfl⟩
  rw [HX.out, hC]
  have HA : Hid (bits .xor .u64 X (IntKind.u64.wrap (X * 8192)) = A) := hA
  have HB : Hid (bits .xor .u64 A (A / 128) = B) := hB
  have HC : Hid (bits .xor .u64 B (IntKind.u64.wrap (B * 131072)) = C) := hC
  clear hA hB hC HX
  go_enter Try.func130, Try.ntmps130
  go_wp2
  go_region
  rw [HA.out]
  obtain ⟨c1, f1, g1⟩ := box_set w s _ (.int .u64 A) hs hf
  generalize (w.setCell ⟨s, 0, none⟩ (.int .u64 A)).drew = w1 at *
  go_wp2
  go_region
  rw [HB.out]
  obtain ⟨c2, f2, g2⟩ := box_set w1 s _ (.int .u64 B) c1 f1
  generalize (w1.setCell ⟨s, 0, none⟩ (.int .u64 B)).drew = w2 at *
  go_wp2
  go_region
  rw [HC.out]
  obtain ⟨c3, f3, g3⟩ := box_set w2 s _ (.int .u64 C) c2 f2
  generalize (w2.setCell ⟨s, 0, none⟩ (.int .u64 C)).drew = w3 at *
  go_wp2
  go_ret
  exact ⟨rfl, c3, f3, (g1.trans g2).trans g3⟩
/-- The block is of the same type and as long. -/
def Shaped (w wr : World) (blk : Nat) : Prop := ∀ cur t fr, w.heap[blk]? = some (.cells cur t fr) → ∃ cur' : Array Value, wr.heap[blk]? = some (.cells cur' t fr) ∧ cur'.size = cur.size
theorem Shaped.same {w wr : World} {blk : Nat} (h : wr.heap[blk]? = w.heap[blk]?) : Shaped w wr blk := fun cur t fr hb => ⟨cur, h.trans hb, rfl⟩
theorem Shaped.trans {w wr w' : World} {blk : Nat} (h : Shaped w wr blk) (k : Shaped wr w' blk) : Shaped w w' blk := fun cur t fr hb => by
  obtain ⟨c1, h1, h2⟩ := h cur t fr hb
  obtain ⟨c2, h3, h4⟩ := k c1 t fr h1
  exact ⟨c2, h3, h4.trans h2⟩
/-- The row of N families reads d; but for its block and new ones the world is w. -/
structure Gw (w : World) (blk off N : Nat) (d : Array Int) (wr : World) : Prop where
  size : d.size = N
  holds : Holds (Value.int .u64) wr blk off d
  grown : w.grownBy wr (some blk)
  shape : Shaped w wr blk
section
variable {w wr w' : World} {blk off N : Nat} {d d' : Array Int}
theorem Gw.start (h : Holds (Value.int .u64) w blk off d) : Gw w blk off d.size d w := ⟨rfl, h, ⟨rfl, rfl, rfl, Nat.le_refl _, fun _ _ _ => rfl⟩, .same rfl⟩
theorem Rw.grown (r : Rw w blk off N d wr) : w.grownBy wr (some blk) := by
  obtain ⟨hs, n, rfl⟩ := r
  refine ⟨rfl, rfl, rfl, by simp, fun k hk hne => ?_⟩
  have : blk ≠ k := fun e => hne (by rw [e])
  simp [putRow, mapBlock, Sort.ahead, Array.getElem?_modify, this]
theorem Rw.shape (r : Rw w blk off N d wr) : Shaped w wr blk := by
  obtain ⟨hs, n, rfl⟩ := r
  intro cur t fr hb
  refine ⟨putCells (Value.int .u64) off d cur, ?_, by simp [putCells]⟩
  simp [putRow, mapBlock, Sort.ahead, Array.getElem?_modify, hb, onCells]
theorem Gw.rw (g : Gw w blk off N d wr) (r : Rw wr blk off N d' w') : Gw w blk off N d' w' :=
  ⟨r.size, r.holds g.holds g.size, g.grown.trans r.grown, g.shape.trans r.shape⟩
theorem Gw.gw (g : Gw w blk off N d wr) (r : Gw wr blk off N d' w') : Gw w blk off N d' w' :=
  ⟨r.size, r.holds, g.grown.trans r.grown, g.shape.trans r.shape⟩
theorem Gw.below (g : Gw w blk off N d wr) (hb : blk < w.heap.size) (r : Go.RowKit.Below wr.heap.size wr w') : Gw w blk off N d w' := by
  have hb2 : blk < wr.heap.size := Nat.lt_of_lt_of_le hb g.grown.size
  refine ⟨g.size, fun t ht => ?_, g.grown.trans ⟨r.os, r.tape, r.output, r.size, fun k hk _ => r.block k hk⟩, g.shape.trans (.same (r.block blk hb2))⟩
  rw [r.cell (p := ⟨blk, off + t, none⟩) hb2, r.frozen (p := ⟨blk, off + t, none⟩) hb2]
  exact g.holds t ht
/-- A box behind the heap is turned. -/
theorem Gw.box (g : Gw w blk off N d wr) (hb : blk < w.heap.size) {s : Nat} (hs : w.heap.size ≤ s) (r : wr.grownBy w' (some s)) : Gw w blk off N d w' := by
  have hb2 : blk < wr.heap.size := Nat.lt_of_lt_of_le hb g.grown.size
  have hB : wr.heap[blk]? = w'.heap[blk]? := (r.block blk hb2 (by simp; omega)).symm
  refine ⟨g.size, fun t ht => ?_, ?_, g.shape.trans (.same hB.symm)⟩
  · rw [World.cell?_of_block (w := wr) hB.symm, World.frozen?_of_block (w := wr) hB.symm]
    exact g.holds t ht
  · exact g.grown.andThen r (fun j e => .inl (by cases e; exact hs))
theorem Gw.drawn (g : Gw w blk off N d wr) (q : Nat) : Gw w blk off N d (wr.drewN q) :=
  ⟨g.size, fun t ht => by simpa using g.holds t ht, g.grown.trans ⟨rfl, rfl, rfl, Nat.le_refl _, fun _ _ _ => rfl⟩, g.shape.trans (.same rfl)⟩
end
end Go.Proofs.Ytkmpcheamdadcaa.Srt
namespace Go.Proofs.Ytkmpcheamdadcaa.Srt
open Go.RowKit Go.Sort
set_option linter.unusedVariables false
set_option linter.unusedSimpArgs false
theorem box_new {blk off : Nat} {d : Array Int} (w : World) (v : Value) (t : TypeId) (h : Holds (Value.int .u64) w blk off d) (hb : blk < w.heap.size) : Gw w blk off d.size d (w.alloc (.cells #[v] t)) :=
  (Gw.start h).below hb ⟨rfl, rfl, rfl, by simp, fun k hk => Below.heap_alloc _ _ _ hk⟩
/-- The swap of a round, with the box beside it. -/
theorem swap_box {w wr : World} {blk off N s : Nat} {z : Array Int} {v : Value} (g : Gw w blk off N z wr) (hs : blk ≠ s) (hc : wr.cell? ⟨s, 0, none⟩ = some v) (hf : wr.frozen? ⟨s, 0, none⟩ = false) {G : Nat → Int} (hG : ∀ t, G t = z[t]!) {x y : Nat} (hx : x < N) (hy : y < N) :
    Gw w blk off N (swp z x y) ((wr.setCell ⟨blk, off + x, none⟩ (.int .u64 (G y))).setCell ⟨blk, off + y, none⟩ (.int .u64 (G x))).drew ∧
    (((wr.setCell ⟨blk, off + x, none⟩ (.int .u64 (G y))).setCell ⟨blk, off + y, none⟩ (.int .u64 (G x))).drew).cell? ⟨s, 0, none⟩ = some v ∧
    (((wr.setCell ⟨blk, off + x, none⟩ (.int .u64 (G y))).setCell ⟨blk, off + y, none⟩ (.int .u64 (G x))).drew).frozen? ⟨s, 0, none⟩ = false := by
  refine ⟨g.rw ((g.size ▸ Rw.start g.holds : Rw wr blk off N z wr).swapG hG hx hy), ?_, ?_⟩
  · simp only [World.cell?_drew]
    rw [World.cell?_setCell_other _ _ _ _ (by simp <;> omega), World.cell?_setCell_other _ _ _ _ (by simp <;> omega)]; exact hc
  · simp only [World.frozen?_drew]
    rw [World.frozen?_setCell, World.frozen?_setCell]; exact hf
set_option maxRecDepth 100000 in
set_option maxHeartbeats 8000000 in
theorem break_go (blk off cap a L : Nat) (d : Array Int) (w : World) (h : Holds (Value.int .u64) w blk off d) (hblk : blk < w.heap.size) (hb : a + L ≤ d.size) (hsz : d.size < 16777216) (h8 : 8 ≤ L) :
    Calls Try.prog 114 #[.slice (some ⟨blk, off, none⟩) d.size cap, .int .i64 a, .int .i64 ((a + L : Nat) : Int)] w fun e w' => e = .returned (.tuple #[]) ∧ Gw w blk off d.size (Sort.breakPatterns d a (a + L)) w' := by
  obtain ⟨M, hM⟩ : ∃ M : Nat, M = 2 ^ Sort.bitsLen L := ⟨_, rfl⟩
  have hM1 : 1 ≤ M := by rw [hM]; exact Nat.two_pow_pos _
  have hM2 : M ≤ 2 * L := by rw [hM]; exact two_pow_bitsLen_le (by omega)
  have HP : Hid (∀ W, Calls Try.prog 129 #[.int .i64 (L : Int)] W fun e w' => e = .returned (.int .u64 (M : Int)) ∧ w' = W) := fun W => by
    have := pow2_any L W (by omega); rw [← hM] at this; exact this
  rw [breakPatterns_eq d a L h8, Nat.one_shiftLeft, ← hM]
  obtain ⟨i0, hi0⟩ : ∃ i, a + L / 4 * 2 - 1 = i := ⟨_, rfl⟩
  rw [hi0]
  obtain ⟨N, hN⟩ : ∃ N, Hid (N = d.size) := ⟨_, rfl⟩
  have hbx := Boxed.new w 161 (.int .u64 (L : Int))
  have HS0 : Hid (Gw w blk off N d (w.alloc (.cells #[.int .u64 (L : Int)] 161)) ∧ (w.alloc (.cells #[.int .u64 (L : Int)] 161)).cell? ⟨w.heap.size, 0, none⟩ = some (.int .u64 ((UInt64.ofNat L).toNat : Int)) ∧ (w.alloc (.cells #[.int .u64 (L : Int)] 161)).frozen? ⟨w.heap.size, 0, none⟩ = false) := by
    refine ⟨hN.out ▸ box_new w _ _ h hblk, ?_, hbx.frozen⟩
    rw [show (UInt64.ofNat L).toNat = L from by simp; omega]
    exact hbx.cell
  rw [← hN.out] at hb hsz ⊢
  have e1 : (((a + L : Nat) : Int)) - (a : Int) = (L : Int) := by omega
  obtain ⟨B, hB⟩ : ∃ B : Int, ((a + L : Nat) : Int) = B := ⟨_, rfl⟩
  rw [hB] at e1 ⊢
  obtain ⟨q, hq⟩ : ∃ q, L / 4 = q := ⟨_, rfl⟩
  have e4 : (L : Int) / 4 = (q : Int) := by omega
  have hq2 : 2 ≤ q := by omega
  have hqL : q * 4 ≤ L := by omega
  have hiz : (a : Int) + (q : Int) * 2 - 1 = (i0 : Int) := by omega
  have hiz2 : (a : Int) + (q : Int) * 2 + 1 = (i0 : Int) + 2 := by omega
  have hi1 : a + 1 ≤ i0 := by omega
  have hi2 : i0 + 2 < a + L := by omega
  clear h hM hbx hq hi0 hB
  go_enter Try.func114, Try.ntmps114
  go_wp2_with (first | (go_at_call 129; refine (HP.out _).mono ?_; rintro e w' ⟨rfl, rfl⟩))
  go_loopw [9] (fun vi wr => ∃ (t : Nat) (r : UInt64) (y : Array Int), vi = .int .i64 ((i0 + t : Nat) : Int) ∧ t ≤ 3 ∧ Hid (Gw w blk off N y wr ∧ wr.cell? ⟨w.heap.size, 0, none⟩ = some (.int .u64 (r.toNat : Int)) ∧ wr.frozen? ⟨w.heap.size, 0, none⟩ = false ∧ bpRest a L M i0 (3 - t) t (r, y) = bpRest a L M i0 3 0 (UInt64.ofNat L, d))) (fun vi _ => i0 + 4 - (intOf vi).toNat)
  case atStart => exact ⟨0, UInt64.ofNat L, d, by congr 1, by omega, HS0.out.1, HS0.out.2.1, HS0.out.2.2, rfl⟩
  case round =>
    obtain ⟨t, r, y, rfl, ht, hy⟩ := hrel
    by_cases h3 : t < 3
    · obtain ⟨R, hR⟩ : ∃ R : Nat, R = (xorNext r).toNat := ⟨_, rfl⟩
      have lR : R < 18446744073709551616 := by rw [hR]; exact (xorNext r).toNat_lt
      obtain ⟨O, hO⟩ : ∃ O : Nat, O = R &&& (M - 1) := ⟨_, rfl⟩
      have lO : O ≤ M - 1 := by rw [hO]; exact Nat.and_le_right
      have eAnd : bits .and .u64 (R : Int) ((M : Int) - 1) = (O : Int) := by
        rw [show ((M : Int) - 1) = ((M - 1 : Nat) : Int) by omega, bits_and_u64_nat _ _ lR (by omega), hO]
      have HNX : Hid (Calls Try.prog 130 #[.pointer (some ⟨w.heap.size, 0, none⟩)] wr fun e w' => e = .returned (.int .u64 (R : Int)) ∧ w'.cell? ⟨w.heap.size, 0, none⟩ = some (.int .u64 (R : Int)) ∧ w'.frozen? ⟨w.heap.size, 0, none⟩ = false ∧ wr.grownBy w' (some w.heap.size)) := by
        have := next_any w.heap.size (r.toNat : Int) wr hy.out.2.1 hy.out.2.2.1
        rw [xo_eq, ← hR] at this
        exact this
      have HO : Hid (O = (xorNext r).toNat &&& (M - 1)) := by show _ = _; rw [hO, hR]
      have HRR : Hid (R = (xorNext r).toNat) := hR
      clear hO hR
      obtain ⟨x, hx⟩ : ∃ x, i0 + t = x := ⟨_, rfl⟩
      have hxz : ((i0 + t : Nat) : Int) = (x : Int) := by omega
      rw [hxz]
      have hxle : (x : Int) ≤ (i0 : Int) + 2 := by omega
      have hxN : x < N := by omega
      go_wp2_with (first | (go_at_call 130; refine HNX.out.mono ?_; rintro e w1 ⟨rfl, c1, f1, g1'⟩))
      · have hLO : L ≤ O := by omega
        obtain ⟨o, ho⟩ : ∃ o, O - L = o := ⟨_, rfl⟩
        have hoz : (O : Int) - (L : Int) = (o : Int) := by omega
        rw [hoz]
        have HIF : Hid ((if (xorNext r).toNat &&& (M - 1) ≥ L then ((xorNext r).toNat &&& (M - 1)) - L else (xorNext r).toNat &&& (M - 1)) = o) := by show _ = _; rw [← HO.out, if_pos hLO, ho]
        have g1 : Hid (Gw w blk off N y w1) := hy.out.1.box hblk (Nat.le_refl _) g1'
        clear g1'
        obtain ⟨G, HG⟩ : ∃ G : Nat → Int, Hid (∀ t, G t = y[t]!) := ⟨fun t => y[t]!, fun _ => rfl⟩
        have hc1 : ∀ t, t < N → w1.cell? ⟨blk, off + t, none⟩ = some (.int .u64 (G t)) := fun t ht => by rw [HG.out]; exact (g1.out.holds t (by rw [g1.out.size]; exact ht)).1
        have hf1 : ∀ t, t < N → w1.frozen? ⟨blk, off + t, none⟩ = false := fun t ht => (g1.out.holds t (by rw [g1.out.size]; exact ht)).2
        have hoL : o < L := by omega
        obtain ⟨p, hp⟩ : ∃ p, a + o = p := ⟨_, rfl⟩
        have hpz : (a : Int) + (o : Int) = (p : Int) := by omega
        have hpN : p < N := by omega
        obtain ⟨v2, hv2⟩ := swap_cell hc1 hxN hpN (.int .u64 (G p))
        have HSW : Hid _ := swap_box g1.out (by omega) c1 f1 HG.out hxN hpN
        have HST : Hid _ := bp_step a L M i0 t r y o h3 HIF.out
        clear HIF HO HNX c1 f1
        go_region
        all_goals go_wp2
        go_roundw
        case rel =>
          refine ⟨t + 1, xorNext r, swp y x p, by go_num, by omega, HSW.out.1, ?_, HSW.out.2.2, ?_⟩
          · rw [← HRR.out]; exact HSW.out.2.1
          · rw [← hy.out.2.2.2, HST.out, hp, hx]
        case measure => simp [intOf]; omega
      · have hLO : ¬ L ≤ O := by omega
        obtain ⟨o, ho⟩ : ∃ o, O = o := ⟨_, rfl⟩
        have HIF : Hid ((if (xorNext r).toNat &&& (M - 1) ≥ L then ((xorNext r).toNat &&& (M - 1)) - L else (xorNext r).toNat &&& (M - 1)) = o) := by show _ = _; rw [← HO.out, if_neg hLO, ho]
        rw [ho]
        have g1 : Hid (Gw w blk off N y w1) := hy.out.1.box hblk (Nat.le_refl _) g1'
        clear g1'
        obtain ⟨G, HG⟩ : ∃ G : Nat → Int, Hid (∀ t, G t = y[t]!) := ⟨fun t => y[t]!, fun _ => rfl⟩
        have hc1 : ∀ t, t < N → w1.cell? ⟨blk, off + t, none⟩ = some (.int .u64 (G t)) := fun t ht => by rw [HG.out]; exact (g1.out.holds t (by rw [g1.out.size]; exact ht)).1
        have hf1 : ∀ t, t < N → w1.frozen? ⟨blk, off + t, none⟩ = false := fun t ht => (g1.out.holds t (by rw [g1.out.size]; exact ht)).2
        have hoL : o < L := by omega
        obtain ⟨p, hp⟩ : ∃ p, a + o = p := ⟨_, rfl⟩
        have hpz : (a : Int) + (o : Int) = (p : Int) := by omega
        have hpN : p < N := by omega
        obtain ⟨v2, hv2⟩ := swap_cell hc1 hxN hpN (.int .u64 (G p))
        have HSW : Hid _ := swap_box g1.out (by omega) c1 f1 HG.out hxN hpN
        have HST : Hid _ := bp_step a L M i0 t r y o h3 HIF.out
        clear HIF HO HNX c1 f1
        go_region
        all_goals go_wp2
        go_roundw
        case rel =>
          refine ⟨t + 1, xorNext r, swp y x p, by go_num, by omega, HSW.out.1, ?_, HSW.out.2.2, ?_⟩
          · rw [← HRR.out]; exact HSW.out.2.1
          · rw [← hy.out.2.2.2, HST.out, hp, hx]
        case measure => simp [intOf]; omega
    · obtain rfl : t = 3 := by omega
      have hxle : ¬ ((i0 + 3 : Nat) : Int) ≤ (i0 : Int) + 2 := by omega
      go_wp2
      go_end0
      exact ⟨rfl, by rw [← hy.out.2.2.2]; exact hy.out.1⟩
theorem break_any (blk off cap a b : Nat) (d : Array Int) (w : World) (h : Holds (Value.int .u64) w blk off d) (hblk : blk < w.heap.size) (hab : a + 8 ≤ b) (hb : b ≤ d.size) (hsz : d.size < 16777216) :
    Calls Try.prog 114 #[.slice (some ⟨blk, off, none⟩) d.size cap, .int .i64 a, .int .i64 b] w fun e w' => e = .returned (.tuple #[]) ∧ Gw w blk off d.size (Sort.breakPatterns d a b) w' := by
  obtain ⟨L, rfl⟩ : ∃ L, b = a + L := ⟨b - a, by omega⟩
  exact break_go blk off cap a L d w h hblk hb hsz (by omega)
end Go.Proofs.Ytkmpcheamdadcaa.Srt
namespace Go.Proofs.Ytkmpcheamdadcaa.Srt
open Go.RowKit Go.Sort
set_option linter.unusedVariables false
set_option linter.unusedSimpArgs false
theorem scanSorted_ge (d : Array Int) (b i : Nat) : i ≤ scanSorted ltInt d b i ∧ (scanSorted ltInt d b i ≤ b ∨ scanSorted ltInt d b i = i) := by
  induction h : b - i generalizing i with
  | zero =>
    rw [scanSorted_stop _ _ _ _ (.inl (by omega))]; omega
  | succ n ih =>
    by_cases hl : ltInt d[i]! d[i - 1]! = true
    · rw [scanSorted_stop _ _ _ _ (.inr hl)]; omega
    · rw [scanSorted_go _ _ _ _ (by omega) (by simpa using hl)]
      have := ih (i + 1) (by omega)
      omega
set_option maxRecDepth 100000 in
set_option maxHeartbeats 16000000 in
theorem partial_any (blk off cap a b : Nat) (d : Array Int) (w : World) (h : Holds (Value.int .u64) w blk off d) (hab : a < b) (hb : b ≤ d.size) (hsz : d.size < 2305843009213693952) :
    Calls Try.prog 117 #[.slice (some ⟨blk, off, none⟩) d.size cap, .int .i64 a, .int .i64 b] w fun e w' => e = .returned (.bool (Sort.partialInsertionSort ltInt d a b).2) ∧ Rw w blk off d.size (Sort.partialInsertionSort ltInt d a b).1 w' := by
  obtain ⟨N, hN⟩ : ∃ N, Hid (N = d.size) := ⟨_, rfl⟩
  have h0 : Hid (Holds (Value.int .u64) w blk off d) := h
  have r0 : Rw w blk off N d w := hN.out ▸ Rw.start h
  rw [← hN.out] at hb hsz ⊢
  clear h
  obtain ⟨R, hR⟩ : ∃ R, Sort.partialInsertionSort ltInt d a b = R := ⟨_, rfl⟩
  have HRR : Hid (partialIns ltInt a b 5 (a + 1) d = R) := hR
  rw [hR]
  clear hR
  go_enter Try.func117, Try.ntmps117
  go_wp2
  go_loopw [7, 8] (fun vi vk wr => ∃ (i k : Nat) (z : Array Int), vi = .int .i64 i ∧ vk = .int .i64 k ∧ a < i ∧ i ≤ b ∧ k ≤ 5 ∧ Hid (Rw w blk off N z wr ∧ partialIns ltInt a b (5 - k) i z = R)) (fun _ vk _ => (5 - intOf vk).toNat)
  case atStart => exact ⟨a + 1, 0, d, by go_num, rfl, by omega, by omega, by omega, r0, HRR.out⟩
  case round =>
    obtain ⟨i, k, z, rfl, rfl, hai, hib, hk5, hz⟩ := hrel
    by_cases hk : k < 5
    · have hki : (k : Int) < 5 := by omega
      obtain ⟨G, hG⟩ : ∃ G : Nat → Int, Hid (∀ t, G t = z[t]!) := ⟨fun t => z[t]!, fun _ => rfl⟩
      obtain ⟨i2, hi2⟩ : ∃ i2, scanSorted ltInt z b i = i2 := ⟨_, rfl⟩
      have hge := scanSorted_ge z b i
      rw [hi2] at hge
      have HI2 : Hid (scanSorted ltInt z b i = i2) := hi2
      have hi2b : i2 ≤ b := by omega
      have hai2 : a < i2 := by omega
      obtain ⟨s, hs⟩ : ∃ s, 5 - k = s + 1 := ⟨4 - k, by omega⟩
      have hs2 : 5 - (k + 1) = s := by omega
      have HEQ : Hid (R = if i2 = b then (z, true) else if b - a < 50 then (z, false) else partialIns ltInt a b s i2 (if b - i2 ≥ 2 then shiftUp ltInt b (i2 + 1) (if i2 - a ≥ 2 then shiftDown ltInt (i2 - 1) (swp z i2 (i2 - 1)) else swp z i2 (i2 - 1)) else (if i2 - a ≥ 2 then shiftDown ltInt (i2 - 1) (swp z i2 (i2 - 1)) else swp z i2 (i2 - 1)))) := by
        show _ = _
        rw [← hz.out.2, hs, partialIns]
        simp only [hi2]
      have HRZ : Hid (Rw w blk off N z wr) := hz.out.1
      have HS2 : Hid (5 - (k + 1) = s) := hs2
      clear hi2 hs hs2 hge
      go_upto_block 2 with fail
      go_cut [7] from 13 to 132 (fun vi wd => vi = .int .i64 (i2 : Int) ∧ Rw w blk off N z wd)
      case first =>
        go_wp2
        go_loopw [7] (fun vi wr => ∃ i' : Nat, vi = .int .i64 i' ∧ i ≤ i' ∧ i' ≤ b ∧ Hid (Rw w blk off N z wr ∧ scanSorted ltInt z b i' = i2)) (fun vi _ => (b + 1 - (intOf vi).toNat))
        case atStart => exact ⟨i, rfl, Nat.le_refl _, hib, HRZ.out, HI2.out⟩
        case round =>
          obtain ⟨i', rfl, hii, hib', hy⟩ := hrel
          have hc : ∀ t, t < N → wr.cell? ⟨blk, off + t, none⟩ = some (.int .u64 (G t)) := fun t ht => by rw [hG.out]; exact hy.out.1.cell h0.out hN.out.symm t ht
          obtain ⟨p, hp⟩ : ∃ p, i' = p + 1 := ⟨i' - 1, by omega⟩
          subst hp
          go_wp2
          by_cases hle : p + 1 < b
          · have hlei : (p : Int) + 1 < (b : Int) := by omega
            by_cases hl' : ltInt (G (p + 1)) (G p) = false
            · have hl := hl'
              clear hl'
              go_quiet (first | (go_at_call 118; refine Calls.quiet_of_same (less_any _ _ _)))
              go_wp2
              refine ⟨⟨p + 1 + 1, by go_num, by omega, by omega, hy.out.1.drawn nq, ?_⟩, ?_⟩
              · rw [← hy.out.2, scanSorted_go _ z b (p + 1) hle (by rw [← hG.out, Nat.add_sub_cancel, ← hG.out, hl])]
              · simp [intOf]; omega
            · have hl : ltInt (G (p + 1)) (G p) = true := by simpa using hl'
              clear hl'
              go_quiet (first | (go_at_call 118; refine Calls.quiet_of_same (less_any _ _ _)))
              go_wp2
              go_meet
              case rel =>
                have e : p + 1 = i2 := by rw [← hy.out.2, scanSorted_stop _ z b (p + 1) (.inr (by rw [← hG.out, Nat.add_sub_cancel, ← hG.out, hl]))]
                exact ⟨by rw [← e] <;> try go_num, hy.out.1.drawn nq⟩
          · have hlei : ¬ (p : Int) + 1 < (b : Int) := by omega
            have hled : decide ((p : Int) + 1 < (b : Int)) = false := by simp; omega
            go_quiet (first | (go_at_call 118; refine Calls.quiet_of_same (less_any _ _ _)))
            go_wp2
            go_meet
            case rel =>
              have e : p + 1 = i2 := by rw [← hy.out.2, scanSorted_stop _ z b (p + 1) (.inl hle)]
              exact ⟨by rw [← e] <;> try go_num, hy.out.1.drawn nq⟩
      case rest =>
        obtain ⟨rfl, hr2⟩ := hcut
        have HR2 : Hid (Rw w blk off N z wc) := hr2
        clear hr2
        by_cases hEb : i2 = b
        · have hEbi : ((i2 : Int) == (b : Int)) = true := by simp; omega
          have HE : Hid (R = (z, true)) := by show _ = _; rw [HEQ.out, if_pos hEb]
          clear hEb
          go_wp2
          go_ret
          exact ⟨by rw [HE.out]; rfl, by rw [HE.out]; exact HR2.out⟩
        · have hEbi : ((i2 : Int) == (b : Int)) = false := by simp; omega
          by_cases h50 : b - a < 50
          · have h50i : (b : Int) - (a : Int) < 50 := by omega
            have HE : Hid (R = (z, false)) := by show _ = _; rw [HEQ.out, if_neg hEb, if_pos h50]
            go_wp2
            go_ret
            exact ⟨by rw [HE.out]; rfl, by rw [HE.out]; exact HR2.out⟩
          · have h50i : ¬ (b : Int) - (a : Int) < 50 := by omega
            obtain ⟨q, hq⟩ : ∃ q, i2 = q + 1 := ⟨i2 - 1, by omega⟩
            subst hq
            have hc : ∀ t, t < N → wc.cell? ⟨blk, off + t, none⟩ = some (.int .u64 (G t)) := fun t ht => by rw [hG.out]; exact HR2.out.cell h0.out hN.out.symm t ht
            have hf : ∀ t, t < N → wc.frozen? ⟨blk, off + t, none⟩ = false := HR2.out.froz h0.out hN.out.symm
            have hqN : q + 1 < N := by omega
            have hqN2 : q < N := by omega
            obtain ⟨v3, hv3⟩ := swap_cell hc hqN hqN2 (.int .u64 (G q))
            obtain ⟨y0, hy0⟩ : ∃ y, swp z (q + 1) q = y := ⟨_, rfl⟩
            have HSW : Hid (Rw w blk off N y0 ((wc.setCell ⟨blk, off + (q + 1), none⟩ (.int .u64 (G q))).setCell ⟨blk, off + q, none⟩ (.int .u64 (G (q + 1)))).drew) := by
              show Rw _ _ _ _ _ _
              rw [← hy0]; exact HR2.out.swapG hG.out hqN hqN2
            obtain ⟨y1, hy1⟩ : ∃ y, (if q + 1 - a ≥ 2 then shiftDown ltInt q y0 else y0) = y := ⟨_, rfl⟩
            obtain ⟨y2, hy2⟩ : ∃ y, (if b - (q + 1) ≥ 2 then shiftUp ltInt b (q + 1 + 1) y1 else y1) = y := ⟨_, rfl⟩
            have HE : Hid (R = partialIns ltInt a b s (q + 1) y2) := by
              show _ = _
              rw [HEQ.out, if_neg hEb, if_neg h50, Nat.add_sub_cancel, hy0, hy1, hy2]
            have HY1 : Hid ((if q + 1 - a ≥ 2 then shiftDown ltInt q y0 else y0) = y1) := hy1
            have HY2 : Hid ((if b - (q + 1) ≥ 2 then shiftUp ltInt b (q + 1 + 1) y1 else y1) = y2) := hy2
            clear hy0 hy1 hy2 hEb
            go_wp2
            go_region
            clear hc hf hv3
            go_upto_if 61 with fail
            go_cut [9] from 13 to 132 (fun _ wd => Rw w blk off N y1 wd)
            case first =>
              by_cases h2 : q + 1 - a ≥ 2
              · have h2i : (2 : Int) ≤ (q : Int) + 1 - (a : Int) := by omega
                have HY : Hid (shiftDown ltInt q y0 = y1) := by show _ = _; rw [← HY1.out, if_pos h2]
                go_wp2
                go_loopw [9] (fun vj wr => ∃ (j : Nat) (x : Array Int), vj = .int .i64 j ∧ j ≤ q ∧ Hid (Rw w blk off N x wr ∧ shiftDown ltInt j x = y1)) (fun vj _ => (intOf vj).toNat)
                case atStart => exact ⟨q, y0, by congr 1 <;> omega, Nat.le_refl _, HSW.out, HY.out⟩
                case round =>
                  obtain ⟨j, x, rfl, hjq, hx⟩ := hrel
                  by_cases hj1 : 1 ≤ j
                  · obtain ⟨r, hr⟩ : ∃ r, j = r + 1 := ⟨j - 1, by omega⟩
                    subst hr
                    obtain ⟨Gx, hGx⟩ : ∃ G : Nat → Int, Hid (∀ t, G t = x[t]!) := ⟨fun t => x[t]!, fun _ => rfl⟩
                    have hc : ∀ t, t < N → wr.cell? ⟨blk, off + t, none⟩ = some (.int .u64 (Gx t)) := fun t ht => by rw [hGx.out]; exact hx.out.1.cell h0.out hN.out.symm t ht
                    have hf : ∀ t, t < N → wr.frozen? ⟨blk, off + t, none⟩ = false := hx.out.1.froz h0.out hN.out.symm
                    have hrN : r + 1 < N := by omega
                    have hrN2 : r < N := by omega
                    by_cases hl' : ltInt (Gx (r + 1)) (Gx r) = true
                    · have hl := hl'
                      clear hl'
                      obtain ⟨v3, hv3⟩ := swap_cell hc hrN hrN2 (.int .u64 (Gx r))
                      go_wp2
                      go_quiet (first | (go_at_call 118; refine Calls.quiet_of_same (less_any _ _ _)))
                      go_wp2
                      go_region
                      go_wp2
                      refine ⟨⟨r, swp x (r + 1) r, by congr 1 <;> omega, by omega, ?_, ?_⟩, ?_⟩
                      · have := (hx.out.1.drawn nq).swapG hGx.out hrN hrN2
                        exact this
                      · rw [← hx.out.2, shiftDown_go _ (r + 1) x hj1 (by rw [← hGx.out, Nat.add_sub_cancel, ← hGx.out, hl]), Nat.add_sub_cancel]
                      · simp [intOf]
                    · have hl : ltInt (Gx (r + 1)) (Gx r) = false := by simpa using hl'
                      clear hl'
                      go_wp2
                      go_quiet (first | (go_at_call 118; refine Calls.quiet_of_same (less_any _ _ _)))
                      go_wp2
                      go_meet
                      case rel =>
                        have e : x = y1 := by rw [← hx.out.2, shiftDown_stop _ (r + 1) x (.inr (by rw [← hGx.out, Nat.add_sub_cancel, ← hGx.out, hl]))]
                        rw [← e]; exact hx.out.1.drawn nq
                  · have hji : ¬ (1 : Int) ≤ (j : Int) := by omega
                    go_wp2
                    go_meet
                    case rel =>
                      have e : x = y1 := by rw [← hx.out.2, shiftDown_stop _ j x (.inl (by omega))]
                      rw [← e]; exact hx.out.1
              · have h2i : ¬ (2 : Int) ≤ (q : Int) + 1 - (a : Int) := by omega
                have HY : Hid (y0 = y1) := by show _ = _; rw [← HY1.out, if_neg h2]
                go_wp2
                go_meet
                case rel => rw [← HY.out]; exact HSW.out
            case rest =>
              have HRa : Hid (Rw w blk off N y1 wc) := hcut
              clear hcut
              by_cases h2 : b - (q + 1) ≥ 2
              · have h2i : (2 : Int) ≤ (b : Int) - ((q : Int) + 1) := by omega
                have HY : Hid (shiftUp ltInt b (q + 1 + 1) y1 = y2) := by show _ = _; rw [← HY2.out, if_pos h2]
                go_wp2
                go_loopw [10] (fun vj wr => ∃ (j : Nat) (x : Array Int), vj = .int .i64 ((j : Int) + 1) ∧ j + 1 ≤ b ∧ Hid (Rw w blk off N x wr ∧ shiftUp ltInt b (j + 1) x = y2)) (fun vj _ => (b + 1 - (intOf vj).toNat))
                case atStart => exact ⟨q + 1, y1, by go_num, by omega, HRa.out, HY.out⟩
                case round =>
                  obtain ⟨r, x, rfl, hrb, hx⟩ := hrel
                  obtain ⟨Gx, hGx⟩ : ∃ G : Nat → Int, Hid (∀ t, G t = x[t]!) := ⟨fun t => x[t]!, fun _ => rfl⟩
                  have hc : ∀ t, t < N → wr.cell? ⟨blk, off + t, none⟩ = some (.int .u64 (Gx t)) := fun t ht => by rw [hGx.out]; exact hx.out.1.cell h0.out hN.out.symm t ht
                  have hf : ∀ t, t < N → wr.frozen? ⟨blk, off + t, none⟩ = false := hx.out.1.froz h0.out hN.out.symm
                  by_cases hj1 : r + 1 < b
                  · have hj1i : (r : Int) + 1 < (b : Int) := by omega
                    have hrN : r + 1 < N := by omega
                    have hrN2 : r < N := by omega
                    by_cases hl' : ltInt (Gx (r + 1)) (Gx r) = true
                    · have hl := hl'
                      clear hl'
                      obtain ⟨v3, hv3⟩ := swap_cell hc hrN hrN2 (.int .u64 (Gx r))
                      go_wp2
                      go_quiet (first | (go_at_call 118; refine Calls.quiet_of_same (less_any _ _ _)))
                      go_wp2
                      go_region
                      go_wp2
                      refine ⟨⟨r + 1, swp x (r + 1) r, by go_num, by omega, ?_, ?_⟩, ?_⟩
                      · have := (hx.out.1.drawn nq).swapG hGx.out hrN hrN2
                        exact this
                      · rw [← hx.out.2, shiftUp_go _ b (r + 1) x hj1 (by rw [← hGx.out, Nat.add_sub_cancel, ← hGx.out, hl]), Nat.add_sub_cancel]
                      · simp [intOf]; omega
                    · have hl : ltInt (Gx (r + 1)) (Gx r) = false := by simpa using hl'
                      clear hl'
                      go_wp2
                      go_quiet (first | (go_at_call 118; refine Calls.quiet_of_same (less_any _ _ _)))
                      go_wp2
                      refine ⟨⟨q + 1, k + 1, y2, by go_num, by go_num, by omega, by omega, by omega, ?_, by rw [HS2.out, HE.out]⟩, by simp [intOf]; omega⟩
                      have e : x = y2 := by rw [← hx.out.2, shiftUp_stop _ b (r + 1) x (.inr (by rw [← hGx.out, Nat.add_sub_cancel, ← hGx.out, hl]))]
                      rw [← e]; exact hx.out.1.drawn nq
                  · have hj1i : ¬ (r : Int) + 1 < (b : Int) := by omega
                    go_wp2
                    refine ⟨⟨q + 1, k + 1, y2, by go_num, by go_num, by omega, by omega, by omega, ?_, by rw [HS2.out, HE.out]⟩, by simp [intOf]; omega⟩
                    have e : x = y2 := by rw [← hx.out.2, shiftUp_stop _ b (r + 1) x (.inl hj1)]
                    rw [← e]; exact hx.out.1
              · have h2i : ¬ (2 : Int) ≤ (b : Int) - ((q : Int) + 1) := by omega
                have HY : Hid (y1 = y2) := by show _ = _; rw [← HY2.out, if_neg h2]
                go_wp2
                refine ⟨⟨q + 1, k + 1, y2, by go_num, by go_num, by omega, by omega, by omega, ?_, by rw [HS2.out, HE.out]⟩, by simp [intOf]; omega⟩
                rw [← HY.out]; exact HRa.out
    · have hki : ¬ (k : Int) < 5 := by omega
      have HE : Hid (R = (z, false)) := by
        show _ = _
        rw [← hz.out.2, show 5 - k = 0 by omega]; rfl
      go_wp2
      go_ret
      exact ⟨by rw [HE.out]; rfl, by rw [HE.out]; exact hz.out.1⟩
end Go.Proofs.Ytkmpcheamdadcaa.Srt
namespace Go.Proofs.Ytkmpcheamdadcaa.Srt
open Go.RowKit Go.Sort
set_option linter.unusedVariables false
set_option linter.unusedSimpArgs false
/-- One round of the loop: the arrays and numbers ahead of the partition, and what is left to do behind it. -/
structure Round (d : Array Int) (a b lim : Nat) (wb wp : Bool) (d1 : Array Int) (lim1 c1 : Nat) (c2 : Hint) (d2 : Array Int) (pv : Nat) (hint : Hint) (d3 : Array Int) (done : Bool) : Prop where
  size1 : d1.size = d.size
  size2 : d2.size = d.size
  size3 : d3.size = d.size
  pva : a ≤ pv
  pvb : pv < b
  c1a : a ≤ c1
  c1b : c1 < b
  lim_le : lim1 ≤ lim
  below : Go.Sort.Below ltInt a b d3
  brk : wb = false → d1 = breakPatterns d a b ∧ lim1 = lim - 1
  bal : wb = true → d1 = d ∧ lim1 = lim
  piv : choosePivot ltInt d1 a b = (c1, c2)
  dec : c2 = .decreasing → d2 = reverseRange d1 a b ∧ pv = (b - 1) - (c1 - a) ∧ hint = .increasing
  ndec : c2 ≠ .decreasing → d2 = d1 ∧ pv = c1 ∧ hint = c2
  yes : (wb && wp && decide (hint = .increasing)) = true → partialInsertionSort ltInt d2 a b = (d3, done)
  no : (wb && wp && decide (hint = .increasing)) = false → d3 = d2 ∧ done = false
  fin : done = true → pdq ltInt d a b lim wb wp = d3
  eql : done = false → (decide (a > 0) && !ltInt d3[a - 1]! d3[pv]!) = true → ∀ mid d4, partitionEqual ltInt d3 a b pv = (mid, d4) → a < mid ∧ mid ≤ b → pdq ltInt d a b lim wb wp = pdq ltInt d4 mid b lim1 wb wp
  left : done = false → (decide (a > 0) && !ltInt d3[a - 1]! d3[pv]!) = false → ∀ mid ap d4, partition ltInt d3 a b pv = (mid, ap, d4) → a ≤ mid ∧ mid < b → mid - a < b - mid → pdq ltInt d a b lim wb wp = pdq ltInt (pdq ltInt d4 a mid lim1 true true) (mid + 1) b lim1 (decide (mid - a ≥ (b - a) / 8)) ap
  right : done = false → (decide (a > 0) && !ltInt d3[a - 1]! d3[pv]!) = false → ∀ mid ap d4, partition ltInt d3 a b pv = (mid, ap, d4) → a ≤ mid ∧ mid < b → ¬ mid - a < b - mid → pdq ltInt d a b lim wb wp = pdq ltInt (pdq ltInt d4 (mid + 1) b lim1 true true) a mid lim1 (decide (b - mid ≥ (b - a) / 8)) ap
theorem round_of (d : Array Int) (a b lim : Nat) (wb wp : Bool) (h12 : ¬ b - a ≤ 12) (h0 : ¬ lim = 0) (hb : b ≤ d.size) (hB : Go.Sort.Below ltInt a b d) :
    ∃ d1 lim1 c1 c2 d2 pv hint d3 done, Round d a b lim wb wp d1 lim1 c1 c2 d2 pv hint d3 done := by
  obtain ⟨s1, B1, hc1, s2, B2, hpv, s3, B3⟩ := rd_facts (limit := lim) (wb := wb) (wp := wp) swo_ltInt partialInsertionSort_holds reverseRange_holds (show a < b by omega) hb hB
  refine ⟨(rd ltInt d a b lim wb wp).d1, (rd ltInt d a b lim wb wp).lim, (rd ltInt d a b lim wb wp).c.1, (rd ltInt d a b lim wb wp).c.2, (rd ltInt d a b lim wb wp).d2, (rd ltInt d a b lim wb wp).pivot, (rd ltInt d a b lim wb wp).hint, (rd ltInt d a b lim wb wp).pi.1, (rd ltInt d a b lim wb wp).pi.2, ?_⟩
  exact {
    size1 := s1, size2 := s2, size3 := s3, pva := hpv.1, pvb := hpv.2, c1a := hc1.1, c1b := hc1.2, lim_le := rd_lim_le, below := B3
    brk := fun e => by subst e; exact ⟨rfl, rfl⟩
    bal := fun e => by subst e; exact ⟨rfl, rfl⟩
    piv := rfl
    dec := fun e => rd_dec e
    ndec := fun e => rd_not e
    yes := fun e => (rd_pi_yes e).symm
    no := fun e => by rw [rd_pi_no e]; exact ⟨rfl, rfl⟩
    fin := fun e => pdq_done h12 h0 e
    eql := fun e1 e2 mid d4 hx hm => by rw [pdq_eq h12 h0 e1 e2 (by rw [hx]; exact hm), hx]
    left := fun e1 e2 mid ap d4 hx hm hl => by rw [pdq_left h12 h0 e1 e2 (by rw [hx]; exact hm) (by rw [hx]; exact hl), hx]
    right := fun e1 e2 mid ap d4 hx hm hl => by rw [pdq_right h12 h0 e1 e2 (by rw [hx]; exact hm) (by rw [hx]; exact hl), hx] }
end Go.Proofs.Ytkmpcheamdadcaa.Srt
namespace Go.Proofs.Ytkmpcheamdadcaa.Srt
open Go.RowKit Go.Sort
set_option linter.unusedVariables false
set_option linter.unusedSimpArgs false
theorem rev_go {i j : Nat} (d : Array Int) (h : i < j) : reverseLoop i j d = reverseLoop (i + 1) (j - 1) (swp d i j) := by rw [reverseLoop, if_pos h]
theorem rev_stop {i j : Nat} (d : Array Int) (h : ¬ i < j) : reverseLoop i j d = d := by rw [reverseLoop, if_neg h]
set_option maxRecDepth 100000 in
set_option maxHeartbeats 4000000 in
theorem rev_any (blk off cap a b : Nat) (d : Array Int) (w : World) (h : Holds (Value.int .u64) w blk off d) (hab : a < b) (hb : b ≤ d.size) (hsz : d.size < 4611686018427387904) :
    Calls Try.prog 116 #[.slice (some ⟨blk, off, none⟩) d.size cap, .int .i64 a, .int .i64 b] w fun e w' => e = .returned (.tuple #[]) ∧ Rw w blk off d.size (Sort.reverseRange d a b) w' := by
  obtain ⟨N, hN⟩ : ∃ N, N = d.size := ⟨_, rfl⟩
  have h0 : Hid (Holds (Value.int .u64) w blk off d) := h
  have r0 : Rw w blk off N d w := hN ▸ Rw.start h
  rw [← hN] at hb hsz ⊢
  clear h
  go_enter Try.func116, Try.ntmps116
  go_wp2
  go_loopw [6, 7] (fun vi vj wr => ∃ (i j : Nat) (y : Array Int), vi = .int .i64 i ∧ vj = .int .i64 j ∧ a ≤ i ∧ i ≤ b ∧ j < b ∧ Hid (Rw w blk off N y wr ∧ reverseLoop i j y = Sort.reverseRange d a b)) (fun vi _ _ => b - (intOf vi).toNat)
  case atStart => exact ⟨a, b - 1, d, rfl, by go_num, by omega, by omega, by omega, r0, rfl⟩
  case round =>
    obtain ⟨i, j, y, rfl, rfl, hai, hib, hjb, hy⟩ := hrel
    obtain ⟨G, hG⟩ : ∃ G : Nat → Int, Hid (∀ t, G t = y[t]!) := ⟨fun t => y[t]!, fun _ => rfl⟩
    have hc : ∀ t, t < N → wr.cell? ⟨blk, off + t, none⟩ = some (.int .u64 (G t)) := fun t ht => by rw [hG.out]; exact hy.out.1.cell h0.out hN.symm t ht
    have hf : ∀ t, t < N → wr.frozen? ⟨blk, off + t, none⟩ = false := hy.out.1.froz h0.out hN.symm
    go_wp2
    · have hij : i < j := by assumption
      go_region
      all_goals go_wp2
      go_roundw
      case rel =>
        refine ⟨i + 1, j - 1, swp y i j, by go_num, by go_num, by omega, by omega, by omega, ?_, ?_⟩
        · have := hy.out.1.swap 1 (j := i) (k := j) (by omega) (by omega)
          rw [← hG.out, ← hG.out] at this
          exact this
        · rw [← hy.out.2, rev_go y hij]
      case measure => simp [intOf]; omega
    · have hij : ¬ i < j := by assumption
      go_end0
      have e := hy.out.2
      rw [rev_stop y hij] at e
      exact ⟨rfl, e ▸ hy.out.1⟩
end Go.Proofs.Ytkmpcheamdadcaa.Srt
