import Derived.Test.YtocanjefonlnaaaDoorHj
namespace Go.Proofs.YtocanjefonlnaaaDoor
open Go.RowKit Go.Shelf
set_option linter.unusedVariables false
set_option linter.unusedSimpArgs false
/-- The law's sequences. -/
def f9 (k : Nat) : Int := (k : Int) % 9
theorem f9_le (k : Nat) : 0 ≤ f9 k ∧ f9 k ≤ 8 := by unfold f9; omega
theorem f9_pos (k : Nat) : 0 ≤ f9 k := (f9_le k).1
/-- A post that a panic does not meet. -/
def noP (Q : Exit → Act → World → Prop) : Exit → Act → World → Prop
  | .panic _, _, _ => False
  | e, a, w => Q e a w
theorem wp_noP {P : Program} {c : Code} {Q : Exit → Act → World → Prop} {a : Act} {w : World} (h : c.wp P (noP Q) a w) : c.wp P Q a w :=
  Code.wp_mono (fun e a w h => by cases e <;> first | exact h | exact h.elim) h
/-- The world behind 'all, back := []api.Entry{}, []api.Entry{}'. -/
def twoRows (wr : World) : World := (((wr.alloc (.cells #[] 56)).alloc (.cells #[] 56)).alloc (.cells #[.slice (some ⟨wr.heap.size, 0, none⟩) 0 0] 51)).alloc (.cells #[.slice (some ⟨wr.heap.size + 1, 0, none⟩) 0 0] 51)
theorem twoRows_size (wr : World) : (twoRows wr).heap.size = wr.heap.size + 4 := by simp [twoRows]
theorem twoRows_below (wr : World) : Below wr.heap.size wr (twoRows wr) := ((((Below.refl _ _).alloc (Nat.le_refl _) _).alloc (by simp) _).alloc (by simp; omega) _).alloc (by simp; omega) _
theorem twoRows_blk (wr : World) : Blk (twoRows wr) wr.heap.size 56 [] ∧ Blk (twoRows wr) (wr.heap.size + 1) 56 [] ∧ Blk (twoRows wr) (wr.heap.size + 1 + 1) 51 [.slice (some ⟨wr.heap.size, 0, none⟩) 0 0] ∧ Blk (twoRows wr) (wr.heap.size + 1 + 1 + 1) 51 [.slice (some ⟨wr.heap.size + 1, 0, none⟩) 0 0] := by
  unfold twoRows
  refine ⟨(((Blk.new wr 56 []).alloc _).alloc _).alloc _, ?_, ?_, ?_⟩
  · have := Blk.new (wr.alloc (.cells #[] 56)) 56 []
    rw [World.size_alloc] at this
    exact (this.alloc _).alloc _
  · have := Blk.new ((wr.alloc (.cells #[] 56)).alloc (.cells #[] 56)) 51 [.slice (some ⟨wr.heap.size, 0, none⟩) 0 0]
    rw [World.size_alloc, World.size_alloc] at this
    exact this.alloc _
  · have := Blk.new (((wr.alloc (.cells #[] 56)).alloc (.cells #[] 56)).alloc (.cells #[.slice (some ⟨wr.heap.size, 0, none⟩) 0 0] 51)) 51 [.slice (some ⟨wr.heap.size + 1, 0, none⟩) 0 0]
    rw [World.size_alloc, World.size_alloc, World.size_alloc] at this
    exact this
theorem Ap.start {W : World} {bx rb : Nat} (h1 : Blk W bx 51 [.slice (some ⟨rb, 0, none⟩) 0 0]) (h2 : Blk W rb 56 []) : Ap W bx rb [] W := by
  refine ⟨⟨_, h1, ⟨rfl, .inr ⟨rb, 0, #[], rfl, Nat.zero_le _, h2, Nat.le_refl _, by unfold maxLen; omega, rfl, rfl⟩⟩, fun k hk => ?_⟩, Upd.refl _ _⟩
  cases hk
  exact ⟨fun e => by subst e; exact absurd rfl (h1.ne h2 (by decide)), .inl rfl⟩
/-- All that is so where the first range begins. -/
structure Rg (w wr w5 : World) (T1 T2 : Nat) (st : Ms) : Prop where
  tr : Tr w w5 T1 T2 st st (fun k => wr.heap.size ≤ k)
  a0 : Ap w5 (wr.heap.size + 1 + 1) wr.heap.size [] w5
  a1 : Ap w5 (wr.heap.size + 1 + 1 + 1) (wr.heap.size + 1) [] w5
  sz : wr.heap.size + 4 ≤ w5.heap.size
theorem Rg.mk' {w wr w4 w5 : World} {T1 T2 : Nat} {st : Ms} (h : Two w wr T1 T2 st st) (p5 : Below (twoRows wr).heap.size (twoRows wr) w4) (r5 : Below w4.heap.size w4 w5) : Rg w wr w5 T1 T2 st := by
  have b45 : Below (twoRows wr).heap.size (twoRows wr) w5 := p5.trans (r5.mono p5.size)
  have u : Upd Non (twoRows wr) w5 := Upd.ofBelow b45
  obtain ⟨k0, k1, k2, k3⟩ := twoRows_blk wr
  refine ⟨h.tr ((twoRows_below wr).trans (b45.mono (twoRows_below wr).size)), Ap.start (k2.upd u id) (k0.upd u id), Ap.start (k3.upd u id) (k1.upd u id), ?_⟩
  have := b45.size
  rw [twoRows_size] at this
  exact this
end Go.Proofs.YtocanjefonlnaaaDoor
