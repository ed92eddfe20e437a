import Derived.Test.YtkpijoogaicodaaHl
import Derived.Test.YtkpijoogaicodaaHk
import Derived.Sort.OwnSortedInts
namespace Go.Proofs.Ytkpijoogaicodaa
open Go.RowKit Go.Sort
set_option linter.unusedVariables false
set_option linter.unusedSimpArgs false
theorem box_set (w : World) (s : Nat) (u v : Value) (hs : w.cell? ⟨s, 0, none⟩ = some u) (hf : w.frozen? ⟨s, 0, none⟩ = false) :
    ((w.setCell ⟨s, 0, none⟩ v).drew).cell? ⟨s, 0, none⟩ = some v ∧ ((w.setCell ⟨s, 0, none⟩ v).drew).frozen? ⟨s, 0, none⟩ = false ∧ w.grownBy (w.setCell ⟨s, 0, none⟩ v).drew (some s) := by
  refine ⟨?_, ?_, ?_⟩
  · simp only [World.cell?_drew]; rw [World.cell?_setCell_same' _ _ _ (by simp [hs])]
  · simp only [World.frozen?_drew]; rw [World.frozen?_setCell]; exact hf
  · exact ⟨rfl, rfl, rfl, by simp [World.setCell, World.drew], fun k hk hk2 => (Below.heap_setCell _ _ _ _ (fun e => hk2 (by rw [e]))).trans rfl⟩
set_option maxRecDepth 100000 in
set_option maxHeartbeats 2000000 in
theorem next_any (s : Nat) (X : Int) (w : World) (hs : w.cell? ⟨s, 0, none⟩ = some (.int .u64 X)) (hf : w.frozen? ⟨s, 0, none⟩ = false) :
    Calls Try.prog 96 #[.pointer (some ⟨s, 0, none⟩)] w fun e w' => e = .returned (.int .u64 (xo X)) ∧ w'.cell? ⟨s, 0, none⟩ = some (.int .u64 (xo X)) ∧ w'.frozen? ⟨s, 0, none⟩ = false ∧ w.grownBy w' (some s) := by
  obtain ⟨A, hA⟩ : ∃ A, bits .xor .u64 X (IntKind.u64.wrap (X * 8192)) = A := ⟨_, rfl⟩
  obtain ⟨B, hB⟩ : ∃ B, bits .xor .u64 A (A / 128) = B := ⟨_, rfl⟩
  have HX : Hid (xo X = bits .xor .u64 B (IntKind.u64.wrap (B * 131072))) := by show _ = _; unfold xo; simp only [hA, hB]
  obtain ⟨C, hC⟩ : ∃ C, bits .xor .u64 B (IntKind.u64.wrap (B * 131072)) = C := ⟨_, rfl⟩
  rw [HX.out, hC]
  have HA : Hid (bits .xor .u64 X (IntKind.u64.wrap (X * 8192)) = A) := hA
  have HB : Hid (bits .xor .u64 A (A / 128) = B) := hB
  have HC : Hid (bits .xor .u64 B (IntKind.u64.wrap (B * 131072)) = C) := hC
  clear hA hB hC HX
  go_enter Try.func96, Try.ntmps96
  go_wp2
  go_region
  rw [HA.out]
  obtain ⟨c1, f1, g1⟩ := box_set w s _ (.int .u64 A) hs hf
  generalize (w.setCell ⟨s, 0, none⟩ (.int .u64 A)).drew = w1 at *
  go_wp2
  go_region
  rw [HB.out]
  obtain ⟨c2, f2, g2⟩ := box_set w1 s _ (.int .u64 B) c1 f1
  generalize (w1.setCell ⟨s, 0, none⟩ (.int .u64 B)).drew = w2 at *
  go_wp2
  go_region
  rw [HC.out]
  obtain ⟨c3, f3, g3⟩ := box_set w2 s _ (.int .u64 C) c2 f2
  generalize (w2.setCell ⟨s, 0, none⟩ (.int .u64 C)).drew = w3 at *
  go_wp2
  go_ret
  exact ⟨rfl, c3, f3, (g1.trans g2).trans g3⟩
/-- The block is of the same type and as long. -/
def Shaped (w wr : World) (blk : Nat) : Prop := ∀ cur t fr, w.heap[blk]? = some (.cells cur t fr) → ∃ cur' : Array Value, wr.heap[blk]? = some (.cells cur' t fr) ∧ cur'.size = cur.size
theorem Shaped.same {w wr : World} {blk : Nat} (h : wr.heap[blk]? = w.heap[blk]?) : Shaped w wr blk := fun cur t fr hb => ⟨cur, h.trans hb, rfl⟩
theorem Shaped.trans {w wr w' : World} {blk : Nat} (h : Shaped w wr blk) (k : Shaped wr w' blk) : Shaped w w' blk := fun cur t fr hb => by
  obtain ⟨c1, h1, h2⟩ := h cur t fr hb
  obtain ⟨c2, h3, h4⟩ := k c1 t fr h1
  exact ⟨c2, h3, h4.trans h2⟩
/-- The row of N families reads d; but for its block and new ones the world is w. -/
structure Gw (w : World) (blk off N : Nat) (d : Array Int) (wr : World) : Prop where
  size : d.size = N
  holds : Holds (Value.int .u32) wr blk off d
  grown : w.grownBy wr (some blk)
  shape : Shaped w wr blk
section
variable {w wr w' : World} {blk off N : Nat} {d d' : Array Int}
theorem Gw.start (h : Holds (Value.int .u32) w blk off d) : Gw w blk off d.size d w := ⟨rfl, h, ⟨rfl, rfl, rfl, Nat.le_refl _, fun _ _ _ => rfl⟩, .same rfl⟩
theorem Rw.grown (r : Rw w blk off N d wr) : w.grownBy wr (some blk) := by
  obtain ⟨hs, n, rfl⟩ := r
  refine ⟨rfl, rfl, rfl, by simp, fun k hk hne => ?_⟩
  have : blk ≠ k := fun e => hne (by rw [e])
  simp [putRow, mapBlock, Sort.ahead, Array.getElem?_modify, this]
theorem Rw.shape (r : Rw w blk off N d wr) : Shaped w wr blk := by
  obtain ⟨hs, n, rfl⟩ := r
  intro cur t fr hb
  refine ⟨putCells (Value.int .u32) off d cur, ?_, by simp [putCells]⟩
  simp [putRow, mapBlock, Sort.ahead, Array.getElem?_modify, hb, onCells]
theorem Gw.rw (g : Gw w blk off N d wr) (r : Rw wr blk off N d' w') : Gw w blk off N d' w' :=
  ⟨r.size, r.holds g.holds g.size, g.grown.trans r.grown, g.shape.trans r.shape⟩
theorem Gw.gw (g : Gw w blk off N d wr) (r : Gw wr blk off N d' w') : Gw w blk off N d' w' :=
  ⟨r.size, r.holds, g.grown.trans r.grown, g.shape.trans r.shape⟩
theorem Gw.below (g : Gw w blk off N d wr) (hb : blk < w.heap.size) (r : Go.RowKit.Below wr.heap.size wr w') : Gw w blk off N d w' := by
  have hb2 : blk < wr.heap.size := Nat.lt_of_lt_of_le hb g.grown.size
  refine ⟨g.size, fun t ht => ?_, g.grown.trans ⟨r.os, r.tape, r.output, r.size, fun k hk _ => r.block k hk⟩, g.shape.trans (.same (r.block blk hb2))⟩
  rw [r.cell (p := ⟨blk, off + t, none⟩) hb2, r.frozen (p := ⟨blk, off + t, none⟩) hb2]
  exact g.holds t ht
/-- A box behind the heap is turned. -/
theorem Gw.box (g : Gw w blk off N d wr) (hb : blk < w.heap.size) {s : Nat} (hs : w.heap.size ≤ s) (r : wr.grownBy w' (some s)) : Gw w blk off N d w' := by
  have hb2 : blk < wr.heap.size := Nat.lt_of_lt_of_le hb g.grown.size
  have hB : wr.heap[blk]? = w'.heap[blk]? := (r.block blk hb2 (by simp; omega)).symm
  refine ⟨g.size, fun t ht => ?_, ?_, g.shape.trans (.same hB.symm)⟩
  · rw [World.cell?_of_block (w := wr) hB.symm, World.frozen?_of_block (w := wr) hB.symm]
    exact g.holds t ht
  · exact g.grown.andThen r (fun j e => .inl (by cases e; exact hs))
theorem Gw.drawn (g : Gw w blk off N d wr) (q : Nat) : Gw w blk off N d (wr.drewN q) :=
  ⟨g.size, fun t ht => by simpa using g.holds t ht, g.grown.trans ⟨rfl, rfl, rfl, Nat.le_refl _, fun _ _ _ => rfl⟩, g.shape.trans (.same rfl)⟩
end
end Go.Proofs.Ytkpijoogaicodaa
