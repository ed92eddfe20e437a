/-
  Rows that are written over: what stays.
-/
import Derived.Test.YtkmpcheamdadcaaYl
import Derived.Laws.OwnMore
namespace Go.Proofs.Ytkmpcheamdadcaa
open Go.RowKit
set_option linter.unusedVariables false
set_option linter.unusedSimpArgs false
theorem rowx_set {W : World} {b : Nat} {e : TypeId} {z n : Nat} {v : Value} (h : ∃ xs, W.ownsRow b e z v n xs) (g j : Nat) (u : Value) : ∃ xs, (W.setCell ⟨g, j, none⟩ u).ownsRow b e z v n xs := by
  obtain ⟨xs, h⟩ := h
  rcases h.2 with ⟨rfl, rfl⟩ | ⟨g', cap, cur, rfl, _⟩
  · exact ⟨xs, ownsRow_setCell_other h (by simp [Value.ownBlock]) u⟩
  · by_cases hg : g' = g
    · subst hg
      exact ⟨_, (h.stored j u).1⟩
    · exact ⟨xs, ownsRow_setCell_other h (by simp [Value.ownBlock]; exact hg) u⟩
/-- Seven rows of one's own, whatever they hold, and the box that tells where they lie. -/
structure Zr (w W : World) (Z : Nat) (V : Vn) (L : Nat → List Fi) : Prop where
  z : Blk W Z 41 (cells7 (vsl V L))
  rows : ∀ i, i < 7 → ∃ xs, W.ownsRow w.heap.size 50 10 (vsl V L i) (L i).length xs
  b : Below w.heap.size w W
theorem Zr.set {w W : World} {Z : Nat} {V : Vn} {L : Nat → List Fi} (h : Zr w W Z V L) {g : Nat} (hg : w.heap.size ≤ g) (hZ : Z ≠ g) (j : Nat) (u : Value) : Zr w (W.setCell ⟨g, j, none⟩ u) Z V L :=
  ⟨h.z.upd ((Upd.refl (fun k => k = g) W).setCell (p := ⟨g, j, none⟩) (fun _ => rfl) u) hZ, fun i hi => rowx_set (h.rows i hi) g j u, bset h.b hg⟩
theorem Zr.drewN {w W : World} {Z : Nat} {V : Vn} {L : Nat → List Fi} (h : Zr w W Z V L) (n : Nat) : Zr w (W.drewN n) Z V L :=
  ⟨h.z.upd (S := Non) (Upd.ofBelow (belN (Below.refl _ _) n)) (fun h => h), fun i hi => by
    obtain ⟨xs, hx⟩ := h.rows i hi
    exact ⟨xs, row_upd (S := Non) hx (Upd.ofBelow (belN (Below.refl _ _) n)) (fun _ _ h => h)⟩, belN h.b n⟩
theorem Zr.at_ {w W : World} {Z : Nat} {V : Vn} {L : Nat → List Fi} (h : Zr w W Z V L) {i k : Nat} (hi : i < 7) (hk : k < (L i).length) :
    ∃ g, V.a i = some ⟨g, 0, none⟩ ∧ w.heap.size ≤ g ∧ Z ≠ g ∧ g < W.heap.size ∧ (∀ j, j < 10 → ∃ u, W.cell? ⟨g, k * 10 + j, none⟩ = some u) ∧ ∀ j, W.frozen? ⟨g, j, none⟩ = false := by
  obtain ⟨xs, hx⟩ := h.rows i hi
  have hne := row_ne hx h.z (by decide)
  have hbl := row_blk hx
  obtain ⟨g, hg⟩ : ∃ g, V.a i = some ⟨g, 0, none⟩ := by
    rcases hx.2 with ⟨e1, e2⟩ | ⟨g, cap, cur, e1, _⟩
    · omega
    · exact ⟨g, by injection e1⟩
  unfold vsl at hx hne hbl
  rw [hg] at hx hne hbl
  refine ⟨g, hg, (hbl g rfl).1, fun e => hne g rfl e.symm, (hbl g rfl).2, fun j hj => ?_, fun j => hx.frozenAt j⟩
  have hlt : k * 10 + j < (L i).length * 10 := by omega
  rw [hx.cellAt _ hlt]
  exact ⟨_, List.getElem?_eq_getElem (by rw [hx.1]; exact hlt)⟩
theorem kx {w W : World} {V : Vn} {L : Nat → List Fi} (hb : Below w.heap.size w W) {X : Nat} (hX : w.heap.size ≤ X) : Below w.heap.size w (((((((W.setCell ⟨X, 0, none⟩ (vsl V L 0)).setCell ⟨X, 1, none⟩ (vsl V L 1)).setCell ⟨X, 2, none⟩ (vsl V L 2)).setCell ⟨X, 3, none⟩ (vsl V L 3)).setCell ⟨X, 4, none⟩ (vsl V L 4)).setCell ⟨X, 5, none⟩ (vsl V L 5)).setCell ⟨X, 6, none⟩ (vsl V L 6)) :=
  Upd.bel hb (upd7 W X (vsl V L 0) (vsl V L 1) (vsl V L 2) (vsl V L 3) (vsl V L 4) (vsl V L 5) (vsl V L 6)) (fun j hj => by omega) hb.size
theorem ky {w W : World} {P : En} {e : Ed} (hb : Below w.heap.size w W) {Y : Nat} (hY : w.heap.size ≤ Y) : Below w.heap.size w (((((((((((((W.setCell ⟨Y, 0, none⟩ (.int .u32 e.fam)).setCell ⟨Y, 1, none⟩ (.bool e.ma)).setCell ⟨Y, 2, none⟩ (.bool e.dr)).setCell ⟨Y, 3, none⟩ (.string e.name)).setCell ⟨Y, 4, none⟩ (.int .i64 e.how)).setCell ⟨Y, 5, none⟩ (.bool e.hl)).setCell ⟨Y, 6, none⟩ (.bool e.hn)).setCell ⟨Y, 7, none⟩ (.bool e.hs)).setCell ⟨Y, 8, none⟩ (.int .u64 e.log)).setCell ⟨Y, 9, none⟩ (.int .u64 e.next)).setCell ⟨Y, 10, none⟩ (.int .u64 e.seq)).setCell ⟨Y, 11, none⟩ (.slice P.ga e.gone.length P.gc)).setCell ⟨Y, 12, none⟩ (.slice P.aa e.added.length P.ac)) := by
  have U := upd13 W Y (.int .u32 e.fam) (.bool e.ma) (.bool e.dr) (.string e.name) (.int .i64 e.how) (.bool e.hl) (.bool e.hn) (.bool e.hs) (.int .u64 e.log) (.int .u64 e.next) (.int .u64 e.seq) (.slice P.ga e.gone.length P.gc) (.slice P.aa e.added.length P.ac)
  exact Upd.bel hb U (fun j hj => by omega) hb.size
end Go.Proofs.Ytkmpcheamdadcaa
