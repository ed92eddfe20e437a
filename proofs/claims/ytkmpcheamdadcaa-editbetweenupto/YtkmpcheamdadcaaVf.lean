/-
  The reference's Check.
-/
import Derived.Test.YtkmpcheamdadcaaVe
namespace Go.Proofs.Ytkmpcheamdadcaa
open Go.RowKit
set_option linter.unusedVariables false
set_option linter.unusedSimpArgs false
theorem verK {w w2 : World} {t : TypeId} {V : Vn} {L : Nat → List Fi} (hb : Below (w.alloc (.cells (verA V L) t)).heap.size (w.alloc (.cells (verA V L) t)) w2) (k : Nat) (hk : k < 7) : w2.cell? ⟨w.heap.size, k, none⟩ = some (.slice (V.a k) (L k).length (V.c k)) := by
  have hs : w.heap.size < (w.alloc (.cells (verA V L) t)).heap.size := by simp
  exact ver_box ((hb.block _ hs).trans (heap_alloc_new w _)) k hk
theorem fol_tou {how : Int} {lv : Nat} {a f : Fi} (h0 : 0 < lv) (ho : ordF how a.sm a.la ≤ 0) : folB how lv a f = touB how a f := by
  unfold folB touB
  rw [if_neg (by omega)]
  have h1 : cmpH how a.sm.u a.la.u ≤ 0 := by
    unfold ordF ordK at ho
    split at ho
    · omega
    · exact ho
  unfold openB
  by_cases hc : cmpH how a.la.u f.sm.u < 0
  · have ht := cmpH_trans how a.sm.u a.la.u f.sm.u h1 (by omega)
    have hne : cmpH how a.sm.u f.sm.u < 0 := by
      rcases cmpH_cases how a.sm.u f.sm.u with e | e | e
      · omega
      · have e' := (cmpH_zero _ _ _).1 e
        rw [← e', cmpH_neg] at hc
        have : cmpH how a.sm.u a.la.u ≤ 0 := h1
        omega
      · omega
    have hO : ordF how a.sm f.sm < 0 := by
      unfold ordF ordK
      rw [if_neg (by omega)]; exact hne
    simp [hc, hO]
  · simp [hc]
    by_cases hc0 : cmpH how a.la.u f.sm.u = 0
    · simp [hc0]
      cases (a.la.k == 2) <;> cases (a.la.s == 72057594037927935) <;> simp
    · simp [hc0]
/-- In a level each table comes behind the one ahead, as the run has found. -/
theorem push_u {w : World} {base : Nat} {v : Value} {l : List Int} (h : RowU w base v l) (hb : base ≤ w.heap.size) {vb : Nat} {x : Int} {tb : TypeId} (hv : Blk w vb tb (uc x)) (ty : TypeId) (hl : l.length ≤ 10000000) :
    ∃ v' w', (Builtin.append_ #[54, 54] ty #[v, .slice (some ⟨vb, 0, none⟩) 1 1]).run Try.prog w = .ok v' w' ∧ RowU w' base v' (l ++ [x]) ∧ Upd (fun k => v.ownBlock = some k) w w' ∧ (v'.ownBlock = v.ownBlock ∨ v'.ownBlock = some w.heap.size) ∧ v' ≠ .slice none 0 0 :=
  push_g uc_k uc_1 Try.underlying54 info23 rfl (by decide) h hb hv ty (by omega) (by unfold maxLen; omega)
theorem Upd.bel {S : Nat → Prop} {n : Nat} {w W W' : World} (h : Below n w W) (u : Upd S W W') (hS : ∀ k, S k → n ≤ k) (hn : n ≤ W.heap.size) : Below n w W' :=
  h.trans (u.below (fun k hk => Nat.lt_of_lt_of_le hk hn) hS)
end Go.Proofs.Ytkmpcheamdadcaa
