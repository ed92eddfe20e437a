/-
  The sort at uint32: breakPatterns (at most 65535 elements).
-/
import Derived.Test.YtkpijoogaicodaaHg
import Derived.Test.YtkpijoogaicodaaHk
import Derived.Sort.OwnSortedInts
import Derived.Sort.Walk7
namespace Go.Proofs.Ytkpijoogaicodaa
open Go.RowKit Go.Sort
set_option linter.unusedVariables false
set_option linter.unusedSimpArgs false
theorem box_set (w : World) (s : Nat) (u v : Value) (hs : w.cell? ⟨s, 0, none⟩ = some u) (hf : w.frozen? ⟨s, 0, none⟩ = false) :
    ((w.setCell ⟨s, 0, none⟩ v).drew).cell? ⟨s, 0, none⟩ = some v ∧ ((w.setCell ⟨s, 0, none⟩ v).drew).frozen? ⟨s, 0, none⟩ = false ∧ w.grownBy (w.setCell ⟨s, 0, none⟩ v).drew (some s) := by
  refine ⟨?_, ?_, ?_⟩
  · simp only [World.cell?_drew]; rw [World.cell?_setCell_same' _ _ _ (by simp [hs])]
  · simp only [World.frozen?_drew]; rw [World.frozen?_setCell]; exact hf
  · exact ⟨rfl, rfl, rfl, by simp [World.setCell, World.drew], fun k hk hk2 => (Below.heap_setCell _ _ _ _ (fun e => hk2 (by rw [e]))).trans rfl⟩
set_option maxRecDepth 100000 in
set_option maxHeartbeats 2000000 in
theorem next_any (s : Nat) (X : Int) (w : World) (hs : w.cell? ⟨s, 0, none⟩ = some (.int .u64 X)) (hf : w.frozen? ⟨s, 0, none⟩ = false) :
    Calls Try.prog 96 #[.pointer (some ⟨s, 0, none⟩)] w fun e w' => e = .returned (.int .u64 (xo X)) ∧ w'.cell? ⟨s, 0, none⟩ = some (.int .u64 (xo X)) ∧ w'.frozen? ⟨s, 0, none⟩ = false ∧ w.grownBy w' (some s) := by
  obtain ⟨A, hA⟩ : ∃ A, bits .xor .u64 X (IntKind.u64.wrap (X * 8192)) = A := ⟨_, rfl⟩
  obtain ⟨B, hB⟩ : ∃ B, bits .xor .u64 A (A / 128) = B := ⟨_, rfl⟩
  have HX : Hid (xo X = bits .xor .u64 B (IntKind.u64.wrap (B * 131072))) := by show _ = _; unfold xo; simp only [hA, hB]
  obtain ⟨C, hC⟩ : ∃ C, bits .xor .u64 B (IntKind.u64.wrap (B * 131072)) = C := ⟨_, rfl⟩
  rw [HX.out, hC]
  have HA : Hid (bits .xor .u64 X (IntKind.u64.wrap (X * 8192)) = A) := hA
  have HB : Hid (bits .xor .u64 A (A / 128) = B) := hB
  have HC : Hid (bits .xor .u64 B (IntKind.u64.wrap (B * 131072)) = C) := hC
  clear hA hB hC HX
  go_enter Try.func96, Try.ntmps96
  go_wp2
  go_region
  rw [HA.out]
  obtain ⟨c1, f1, g1⟩ := box_set w s _ (.int .u64 A) hs hf
  generalize (w.setCell ⟨s, 0, none⟩ (.int .u64 A)).drew = w1 at *
  go_wp2
  go_region
  rw [HB.out]
  obtain ⟨c2, f2, g2⟩ := box_set w1 s _ (.int .u64 B) c1 f1
  generalize (w1.setCell ⟨s, 0, none⟩ (.int .u64 B)).drew = w2 at *
  go_wp2
  go_region
  rw [HC.out]
  obtain ⟨c3, f3, g3⟩ := box_set w2 s _ (.int .u64 C) c2 f2
  generalize (w2.setCell ⟨s, 0, none⟩ (.int .u64 C)).drew = w3 at *
  go_wp2
  go_ret
  exact ⟨rfl, c3, f3, (g1.trans g2).trans g3⟩
/-- The block is of the same type and as long. -/
def Shaped (w wr : World) (blk : Nat) : Prop := ∀ cur t fr, w.heap[blk]? = some (.cells cur t fr) → ∃ cur' : Array Value, wr.heap[blk]? = some (.cells cur' t fr) ∧ cur'.size = cur.size
theorem Shaped.same {w wr : World} {blk : Nat} (h : wr.heap[blk]? = w.heap[blk]?) : Shaped w wr blk := fun cur t fr hb => ⟨cur, h.trans hb, rfl⟩
theorem Shaped.trans {w wr w' : World} {blk : Nat} (h : Shaped w wr blk) (k : Shaped wr w' blk) : Shaped w w' blk := fun cur t fr hb => by
  obtain ⟨c1, h1, h2⟩ := h cur t fr hb
  obtain ⟨c2, h3, h4⟩ := k c1 t fr h1
  exact ⟨c2, h3, h4.trans h2⟩
/-- The row of N families reads d; but for its block and new ones the world is w. -/
structure Gw (w : World) (blk off N : Nat) (d : Array Int) (wr : World) : Prop where
  size : d.size = N
  holds : Holds (Value.int .u32) wr blk off d
  grown : w.grownBy wr (some blk)
  shape : Shaped w wr blk
section
variable {w wr w' : World} {blk off N : Nat} {d d' : Array Int}
theorem Gw.start (h : Holds (Value.int .u32) w blk off d) : Gw w blk off d.size d w := ⟨rfl, h, ⟨rfl, rfl, rfl, Nat.le_refl _, fun _ _ _ => rfl⟩, .same rfl⟩
theorem Rw.grown (r : Rw w blk off N d wr) : w.grownBy wr (some blk) := by
  obtain ⟨hs, n, rfl⟩ := r
  refine ⟨rfl, rfl, rfl, by simp, fun k hk hne => ?_⟩
  have : blk ≠ k := fun e => hne (by rw [e])
  simp [putRow, mapBlock, Sort.ahead, Array.getElem?_modify, this]
theorem Rw.shape (r : Rw w blk off N d wr) : Shaped w wr blk := by
  obtain ⟨hs, n, rfl⟩ := r
  intro cur t fr hb
  refine ⟨putCells (Value.int .u32) off d cur, ?_, by simp [putCells]⟩
  simp [putRow, mapBlock, Sort.ahead, Array.getElem?_modify, hb, onCells]
theorem Gw.rw (g : Gw w blk off N d wr) (r : Rw wr blk off N d' w') : Gw w blk off N d' w' :=
  ⟨r.size, r.holds g.holds g.size, g.grown.trans r.grown, g.shape.trans r.shape⟩
theorem Gw.gw (g : Gw w blk off N d wr) (r : Gw wr blk off N d' w') : Gw w blk off N d' w' :=
  ⟨r.size, r.holds, g.grown.trans r.grown, g.shape.trans r.shape⟩
theorem Gw.below (g : Gw w blk off N d wr) (hb : blk < w.heap.size) (r : Go.RowKit.Below wr.heap.size wr w') : Gw w blk off N d w' := by
  have hb2 : blk < wr.heap.size := Nat.lt_of_lt_of_le hb g.grown.size
  refine ⟨g.size, fun t ht => ?_, g.grown.trans ⟨r.os, r.tape, r.output, r.size, fun k hk _ => r.block k hk⟩, g.shape.trans (.same (r.block blk hb2))⟩
  rw [r.cell (p := ⟨blk, off + t, none⟩) hb2, r.frozen (p := ⟨blk, off + t, none⟩) hb2]
  exact g.holds t ht
/-- A box behind the heap is turned. -/
theorem Gw.box (g : Gw w blk off N d wr) (hb : blk < w.heap.size) {s : Nat} (hs : w.heap.size ≤ s) (r : wr.grownBy w' (some s)) : Gw w blk off N d w' := by
  have hb2 : blk < wr.heap.size := Nat.lt_of_lt_of_le hb g.grown.size
  have hB : wr.heap[blk]? = w'.heap[blk]? := (r.block blk hb2 (by simp; omega)).symm
  refine ⟨g.size, fun t ht => ?_, ?_, g.shape.trans (.same hB.symm)⟩
  · rw [World.cell?_of_block (w := wr) hB.symm, World.frozen?_of_block (w := wr) hB.symm]
    exact g.holds t ht
  · exact g.grown.andThen r (fun j e => .inl (by cases e; exact hs))
theorem Gw.drawn (g : Gw w blk off N d wr) (q : Nat) : Gw w blk off N d (wr.drewN q) :=
  ⟨g.size, fun t ht => by simpa using g.holds t ht, g.grown.trans ⟨rfl, rfl, rfl, Nat.le_refl _, fun _ _ _ => rfl⟩, g.shape.trans (.same rfl)⟩
end
end Go.Proofs.Ytkpijoogaicodaa
namespace Go.Proofs.Ytkpijoogaicodaa
open Go.RowKit Go.Sort
set_option linter.unusedVariables false
set_option linter.unusedSimpArgs false
theorem box_new {blk off : Nat} {d : Array Int} (w : World) (v : Value) (t : TypeId) (h : Holds (Value.int .u32) w blk off d) (hb : blk < w.heap.size) : Gw w blk off d.size d (w.alloc (.cells #[v] t)) :=
  (Gw.start h).below hb ⟨rfl, rfl, rfl, by simp, fun k hk => Below.heap_alloc _ _ _ hk⟩
/-- The swap of a round, with the box beside it. -/
theorem swap_box {w wr : World} {blk off N s : Nat} {z : Array Int} {v : Value} (g : Gw w blk off N z wr) (hs : blk ≠ s) (hc : wr.cell? ⟨s, 0, none⟩ = some v) (hf : wr.frozen? ⟨s, 0, none⟩ = false) {G : Nat → Int} (hG : ∀ t, G t = z[t]!) {x y : Nat} (hx : x < N) (hy : y < N) :
    Gw w blk off N (swp z x y) ((wr.setCell ⟨blk, off + x, none⟩ (.int .u32 (G y))).setCell ⟨blk, off + y, none⟩ (.int .u32 (G x))).drew ∧
    (((wr.setCell ⟨blk, off + x, none⟩ (.int .u32 (G y))).setCell ⟨blk, off + y, none⟩ (.int .u32 (G x))).drew).cell? ⟨s, 0, none⟩ = some v ∧
    (((wr.setCell ⟨blk, off + x, none⟩ (.int .u32 (G y))).setCell ⟨blk, off + y, none⟩ (.int .u32 (G x))).drew).frozen? ⟨s, 0, none⟩ = false := by
  refine ⟨g.rw ((g.size ▸ Rw.start g.holds : Rw wr blk off N z wr).swapG hG hx hy), ?_, ?_⟩
  · simp only [World.cell?_drew]
    rw [World.cell?_setCell_other _ _ _ _ (by simp <;> omega), World.cell?_setCell_other _ _ _ _ (by simp <;> omega)]; exact hc
  · simp only [World.frozen?_drew]
    rw [World.frozen?_setCell, World.frozen?_setCell]; exact hf
set_option maxRecDepth 100000 in
set_option maxHeartbeats 8000000 in
theorem break_go (blk off cap a L : Nat) (d : Array Int) (w : World) (h : Holds (Value.int .u32) w blk off d) (hblk : blk < w.heap.size) (hb : a + L ≤ d.size) (hsz : d.size < 65536) (h8 : 8 ≤ L) :
    Calls Try.prog 84 #[.slice (some ⟨blk, off, none⟩) d.size cap, .int .i64 a, .int .i64 ((a + L : Nat) : Int)] w fun e w' => e = .returned (.tuple #[]) ∧ Gw w blk off d.size (Sort.breakPatterns d a (a + L)) w' := by
  obtain ⟨M, hM⟩ : ∃ M : Nat, M = 2 ^ Sort.bitsLen L := ⟨_, rfl⟩
  have hM1 : 1 ≤ M := by rw [hM]; exact Nat.two_pow_pos _
  have hM2 : M ≤ 2 * L := by rw [hM]; exact two_pow_bitsLen_le (by omega)
  have HP : Hid (∀ W, Calls Try.prog 95 #[.int .i64 (L : Int)] W fun e w' => e = .returned (.int .u64 (M : Int)) ∧ w' = W) := fun W => by
    have := pow2_any L W (by omega); rw [← hM] at this; exact this
  rw [breakPatterns_eq d a L h8, Nat.one_shiftLeft, ← hM]
  obtain ⟨i0, hi0⟩ : ∃ i, a + L / 4 * 2 - 1 = i := ⟨_, rfl⟩
  rw [hi0]
  obtain ⟨N, hN⟩ : ∃ N, Hid (N = d.size) := ⟨_, rfl⟩
  have hbx := Boxed.new w 120 (.int .u64 (L : Int))
  have HS0 : Hid (Gw w blk off N d (w.alloc (.cells #[.int .u64 (L : Int)] 120)) ∧ (w.alloc (.cells #[.int .u64 (L : Int)] 120)).cell? ⟨w.heap.size, 0, none⟩ = some (.int .u64 ((UInt64.ofNat L).toNat : Int)) ∧ (w.alloc (.cells #[.int .u64 (L : Int)] 120)).frozen? ⟨w.heap.size, 0, none⟩ = false) := by
    refine ⟨hN.out ▸ box_new w _ _ h hblk, ?_, hbx.frozen⟩
    rw [show (UInt64.ofNat L).toNat = L from by simp; omega]
    exact hbx.cell
  rw [← hN.out] at hb hsz ⊢
  have e1 : (((a + L : Nat) : Int)) - (a : Int) = (L : Int) := by omega
  obtain ⟨B, hB⟩ : ∃ B : Int, ((a + L : Nat) : Int) = B := ⟨_, rfl⟩
  rw [hB] at e1 ⊢
  obtain ⟨q, hq⟩ : ∃ q, L / 4 = q := ⟨_, rfl⟩
  have e4 : (L : Int) / 4 = (q : Int) := by omega
  have hq2 : 2 ≤ q := by omega
  have hqL : q * 4 ≤ L := by omega
  have hiz : (a : Int) + (q : Int) * 2 - 1 = (i0 : Int) := by omega
  have hiz2 : (a : Int) + (q : Int) * 2 + 1 = (i0 : Int) + 2 := by omega
  have hi1 : a + 1 ≤ i0 := by omega
  have hi2 : i0 + 2 < a + L := by omega
  clear h hM hbx hq hi0 hB
  go_enter Try.func84, Try.ntmps84
  go_wp2_with (first | (go_at_call 95; refine (HP.out _).mono ?_; rintro e w' ⟨rfl, rfl⟩))
  go_loopw [9] (fun vi wr => ∃ (t : Nat) (r : UInt64) (y : Array Int), vi = .int .i64 ((i0 + t : Nat) : Int) ∧ t ≤ 3 ∧ Hid (Gw w blk off N y wr ∧ wr.cell? ⟨w.heap.size, 0, none⟩ = some (.int .u64 (r.toNat : Int)) ∧ wr.frozen? ⟨w.heap.size, 0, none⟩ = false ∧ bpRest a L M i0 (3 - t) t (r, y) = bpRest a L M i0 3 0 (UInt64.ofNat L, d))) (fun vi _ => i0 + 4 - (intOf vi).toNat)
  case atStart => exact ⟨0, UInt64.ofNat L, d, by congr 1, by omega, HS0.out.1, HS0.out.2.1, HS0.out.2.2, rfl⟩
  case round =>
    obtain ⟨t, r, y, rfl, ht, hy⟩ := hrel
    by_cases h3 : t < 3
    · obtain ⟨R, hR⟩ : ∃ R : Nat, R = (xorNext r).toNat := ⟨_, rfl⟩
      have lR : R < 18446744073709551616 := by rw [hR]; exact (xorNext r).toNat_lt
      obtain ⟨O, hO⟩ : ∃ O : Nat, O = R &&& (M - 1) := ⟨_, rfl⟩
      have lO : O ≤ M - 1 := by rw [hO]; exact Nat.and_le_right
      have eAnd : bits .and .u64 (R : Int) ((M : Int) - 1) = (O : Int) := by
        rw [show ((M : Int) - 1) = ((M - 1 : Nat) : Int) by omega, bits_and_u64_nat _ _ lR (by omega), hO]
      have HNX : Hid (Calls Try.prog 96 #[.pointer (some ⟨w.heap.size, 0, none⟩)] wr fun e w' => e = .returned (.int .u64 (R : Int)) ∧ w'.cell? ⟨w.heap.size, 0, none⟩ = some (.int .u64 (R : Int)) ∧ w'.frozen? ⟨w.heap.size, 0, none⟩ = false ∧ wr.grownBy w' (some w.heap.size)) := by
        have := next_any w.heap.size (r.toNat : Int) wr hy.out.2.1 hy.out.2.2.1
        rw [xo_eq, ← hR] at this
        exact this
      have HO : Hid (O = (xorNext r).toNat &&& (M - 1)) := by show _ = _; rw [hO, hR]
      have HRR : Hid (R = (xorNext r).toNat) := hR
      clear hO hR
      obtain ⟨x, hx⟩ : ∃ x, i0 + t = x := ⟨_, rfl⟩
      have hxz : ((i0 + t : Nat) : Int) = (x : Int) := by omega
      rw [hxz]
      have hxle : (x : Int) ≤ (i0 : Int) + 2 := by omega
      have hxN : x < N := by omega
      go_wp2_with (first | (go_at_call 96; refine HNX.out.mono ?_; rintro e w1 ⟨rfl, c1, f1, g1'⟩))
      · have hLO : L ≤ O := by omega
        obtain ⟨o, ho⟩ : ∃ o, O - L = o := ⟨_, rfl⟩
        have hoz : (O : Int) - (L : Int) = (o : Int) := by omega
        rw [hoz]
        have HIF : Hid ((if (xorNext r).toNat &&& (M - 1) ≥ L then ((xorNext r).toNat &&& (M - 1)) - L else (xorNext r).toNat &&& (M - 1)) = o) := by show _ = _; rw [← HO.out, if_pos hLO, ho]
        have g1 : Hid (Gw w blk off N y w1) := hy.out.1.box hblk (Nat.le_refl _) g1'
        clear g1'
        obtain ⟨G, HG⟩ : ∃ G : Nat → Int, Hid (∀ t, G t = y[t]!) := ⟨fun t => y[t]!, fun _ => rfl⟩
        have hc1 : ∀ t, t < N → w1.cell? ⟨blk, off + t, none⟩ = some (.int .u32 (G t)) := fun t ht => by rw [HG.out]; exact (g1.out.holds t (by rw [g1.out.size]; exact ht)).1
        have hf1 : ∀ t, t < N → w1.frozen? ⟨blk, off + t, none⟩ = false := fun t ht => (g1.out.holds t (by rw [g1.out.size]; exact ht)).2
        have hoL : o < L := by omega
        obtain ⟨p, hp⟩ : ∃ p, a + o = p := ⟨_, rfl⟩
        have hpz : (a : Int) + (o : Int) = (p : Int) := by omega
        have hpN : p < N := by omega
        obtain ⟨v2, hv2⟩ := swap_cell hc1 hxN hpN (.int .u32 (G p))
        have HSW : Hid _ := swap_box g1.out (by omega) c1 f1 HG.out hxN hpN
        have HST : Hid _ := bp_step a L M i0 t r y o h3 HIF.out
        clear HIF HO HNX c1 f1
        go_region
        all_goals go_wp2
        go_roundw
        case rel =>
          refine ⟨t + 1, xorNext r, swp y x p, by go_num, by omega, HSW.out.1, ?_, HSW.out.2.2, ?_⟩
          · rw [← HRR.out]; exact HSW.out.2.1
          · rw [← hy.out.2.2.2, HST.out, hp, hx]
        case measure => simp [intOf]; omega
      · have hLO : ¬ L ≤ O := by omega
        obtain ⟨o, ho⟩ : ∃ o, O = o := ⟨_, rfl⟩
        have HIF : Hid ((if (xorNext r).toNat &&& (M - 1) ≥ L then ((xorNext r).toNat &&& (M - 1)) - L else (xorNext r).toNat &&& (M - 1)) = o) := by show _ = _; rw [← HO.out, if_neg hLO, ho]
        rw [ho]
        have g1 : Hid (Gw w blk off N y w1) := hy.out.1.box hblk (Nat.le_refl _) g1'
        clear g1'
        obtain ⟨G, HG⟩ : ∃ G : Nat → Int, Hid (∀ t, G t = y[t]!) := ⟨fun t => y[t]!, fun _ => rfl⟩
        have hc1 : ∀ t, t < N → w1.cell? ⟨blk, off + t, none⟩ = some (.int .u32 (G t)) := fun t ht => by rw [HG.out]; exact (g1.out.holds t (by rw [g1.out.size]; exact ht)).1
        have hf1 : ∀ t, t < N → w1.frozen? ⟨blk, off + t, none⟩ = false := fun t ht => (g1.out.holds t (by rw [g1.out.size]; exact ht)).2
        have hoL : o < L := by omega
        obtain ⟨p, hp⟩ : ∃ p, a + o = p := ⟨_, rfl⟩
        have hpz : (a : Int) + (o : Int) = (p : Int) := by omega
        have hpN : p < N := by omega
        obtain ⟨v2, hv2⟩ := swap_cell hc1 hxN hpN (.int .u32 (G p))
        have HSW : Hid _ := swap_box g1.out (by omega) c1 f1 HG.out hxN hpN
        have HST : Hid _ := bp_step a L M i0 t r y o h3 HIF.out
        clear HIF HO HNX c1 f1
        go_region
        all_goals go_wp2
        go_roundw
        case rel =>
          refine ⟨t + 1, xorNext r, swp y x p, by go_num, by omega, HSW.out.1, ?_, HSW.out.2.2, ?_⟩
          · rw [← HRR.out]; exact HSW.out.2.1
          · rw [← hy.out.2.2.2, HST.out, hp, hx]
        case measure => simp [intOf]; omega
    · obtain rfl : t = 3 := by omega
      have hxle : ¬ ((i0 + 3 : Nat) : Int) ≤ (i0 : Int) + 2 := by omega
      go_wp2
      go_end0
      exact ⟨rfl, by rw [← hy.out.2.2.2]; exact hy.out.1⟩
theorem break_any (blk off cap a b : Nat) (d : Array Int) (w : World) (h : Holds (Value.int .u32) w blk off d) (hblk : blk < w.heap.size) (hab : a + 8 ≤ b) (hb : b ≤ d.size) (hsz : d.size < 65536) :
    Calls Try.prog 84 #[.slice (some ⟨blk, off, none⟩) d.size cap, .int .i64 a, .int .i64 b] w fun e w' => e = .returned (.tuple #[]) ∧ Gw w blk off d.size (Sort.breakPatterns d a b) w' := by
  obtain ⟨L, rfl⟩ : ∃ L, b = a + L := ⟨b - a, by omega⟩
  exact break_go blk off cap a L d w h hblk hb hsz (by omega)
end Go.Proofs.Ytkpijoogaicodaa
