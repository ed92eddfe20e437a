import Derived.Test.YtbnllobofndckaaBd
import Derived.Maps.AppendAt
namespace Go.Proofs.Ytbnllobofndckaa
open Go.RowKit
set_option linter.unusedVariables false
set_option linter.unusedSimpArgs false
/-- Cells of whole numbers. -/
def ic (l : List Nat) : List Value := l.map fun (x : Nat) => Value.int .i64 (x : Int)
theorem ic_len (l : List Nat) : (ic l).length = l.length := by simp [ic]
theorem info3 : (Try.prog.info? 3).map (fun i => (i.zero, i.size, i.bytes)) = some (some (.int .i64 0), 1, 8) := by kernel_rfl
theorem push_int {w : World} {v : Value} {l : List Nat} (h : w.ownsRow 0 3 1 v l.length (ic l)) {vb x : Nat} (hv : Blk w vb 3 [.int .i64 x]) (hl : l.length ≤ 1000000) :
    ∃ v' w', (Builtin.append_ #[70, 70] 70 #[v, .slice (some ⟨vb, 0, none⟩) 1 1]).run Try.prog w = .ok v' w' ∧ w'.ownsRow 0 3 1 v' (l ++ [x]).length (ic (l ++ [x])) ∧ Upd (fun k => v.ownBlock = some k) w w' ∧ (v'.ownBlock = v.ownBlock ∨ v'.ownBlock = some w.heap.size) := by
  obtain ⟨i0, hi, hz0, hz1, hz2⟩ := info_parts info3
  obtain ⟨v', w', hr, h2, h3, _, h5⟩ := run_append_own_at (P := Try.prog) w 0 70 70 3 i0 _ 1 8 Try.underlying70 hi hz0 hz1 hz2 rfl (by decide) v l.length (ic l) h ⟨vb, 0, none⟩ 1 1 [.int .i64 x] (by simp) (fun j u hj => by rw [add_at, Nat.zero_add]; exact hv.cell1 j u hj) (fun u hu => by simp at hu; subst hu; rfl) (by unfold maxLen; omega) (by omega) (Nat.zero_le _)
  refine ⟨v', w', hr, ?_, (Upd.refl _ _).grown h3 (fun k hk _ => hk), h5⟩
  have e : ic (l ++ [x]) = ic l ++ [.int .i64 x] := by simp [ic]
  rw [e]
  simpa using h2
/-- The places of the first whole ones. -/
def pI (r : Nat) (l : List Ent) : Nat → List Nat
  | 0 => []
  | i + 1 => pI r l i ++ (if i % r = 0 then [(bt r l i).length] else [])
theorem pI_len (r : Nat) (l : List Ent) : ∀ i, (pI r l i).length = wn r i
  | 0 => rfl
  | i + 1 => by
    unfold pI wn
    rw [List.length_append, pI_len r l i]
    split <;> simp
theorem pI_pl (r : Nat) (l : List Ent) : ∀ i, (pI r l i).flatMap (fun (x : Nat) => byts 4 (x : Int)) = pl r l i
  | 0 => rfl
  | i + 1 => by
    unfold pI pl
    rw [List.flatMap_append, pI_pl r l i]
    split <;> simp
theorem pI_bd {r : Nat} {l : List Ent} (hf : Fit l) : ∀ i, ∀ x ∈ pI r l i, x ≤ i * 17500
  | 0, x, h => by simp [pI] at h
  | i + 1, x, h => by
    have h' : x ∈ pI r l i ++ (if i % r = 0 then [(bt r l i).length] else []) := h
    rcases List.mem_append.1 h' with h | h
    · have h2 := pI_bd hf i x h
      rw [Nat.succ_mul]; exact Nat.le_trans h2 (Nat.le_add_right _ _)
    · split at h
      · have hx : x = (bt r l i).length := List.mem_singleton.1 h
        rw [hx, bt_len, Nat.succ_mul]
        exact Nat.le_trans (bz_le (r := r) hf i) (Nat.le_add_right _ _)
      · cases h
theorem row_upd3 {S : Nat → Prop} {w w' : World} {v : Value} {n : Nat} {xs : List Value} (h : w.ownsRow 0 3 1 v n xs) (u : Upd S w w') (hS : ∀ k, v.ownBlock = some k → ¬ S k) : w'.ownsRow 0 3 1 v n xs := row_upd h u hS
theorem row_lt3 {w : World} {v : Value} {n : Nat} {xs : List Value} (h : w.ownsRow 0 3 1 v n xs) : ∀ k, v.ownBlock = some k → k < w.heap.size := fun k hk => by
  rcases h.2 with ⟨rfl, _⟩ | ⟨g, cap, cur, rfl, _, hg, _⟩
  · cases hk
  · cases hk; exact (Array.getElem?_eq_some_iff.1 hg).1
theorem row_slice3 {w : World} {v : Value} {l : List Nat} (h : w.ownsRow 0 3 1 v l.length (ic l)) : ∃ a c, v = .slice a l.length c := by
  rcases h.2 with ⟨e, h1⟩ | ⟨g, cap, cur, e, _⟩
  · refine ⟨none, 0, ?_⟩
    rw [e]
    rw [h1]
  · exact ⟨_, _, e⟩
/-- What stands while the reference writes. -/
structure Ws (w : World) (B : List Int) (P : List Nat) (vb pv : Value) (W : World) : Prop where
  ob : OwnB W w.heap.size vb B
  op : W.ownsRow 0 3 1 pv P.length (ic P)
  lp : ∀ j, pv.ownBlock = some j → w.heap.size ≤ j
  ne : ∀ j, vb.ownBlock = some j → pv.ownBlock ≠ some j
  bel : Below w.heap.size w W
theorem Ws.below {w : World} {B : List Int} {P : List Nat} {vb pv : Value} {W W' : World} (h : Ws w B P vb pv W) (hb : Below W.heap.size W W') : Ws w B P vb pv W' :=
  ⟨h.ob.below hb (Nat.le_refl _), row_upd3 h.op (S := Non) (Upd.ofBelow hb) (fun _ _ => id), h.lp, h.ne, h.bel.trans (hb.mono h.bel.size)⟩
theorem Ws.bytes {w : World} {B B' : List Int} {P : List Nat} {vb pv v' : Value} {W W' : World} (h : Ws w B P vb pv W) (ha : AppB W W' w.heap.size vb v' B') : Ws w B' P v' pv W' :=
  ⟨ha.own, row_upd3 h.op ha.upd (fun k hk e => h.ne k e hk), h.lp, fun j hj e => by
    rcases ha.loc with e' | e'
    · rw [e'] at hj; exact h.ne j hj e
    · have := e' j hj
      have := row_lt3 h.op j e
      omega, h.bel.trans (ha.upd.below (fun k hk => by have := h.bel.size; omega) (fun k hk => (h.ob.lt k hk).1))⟩
theorem Ws.place {w : World} {B : List Int} {P P' : List Nat} {vb pv v' : Value} {W W' : World} (h : Ws w B P vb pv W) (ho : W'.ownsRow 0 3 1 v' P'.length (ic P')) (u : Upd (fun k => pv.ownBlock = some k) W W') (hl : v'.ownBlock = pv.ownBlock ∨ v'.ownBlock = some W.heap.size) : Ws w B P' vb v' W' :=
  ⟨h.ob.upd u (fun k hk e => h.ne k hk e), ho, fun j hj => by
    rcases hl with e | e
    · exact h.lp j (by rw [← e]; exact hj)
    · rw [e] at hj; cases hj; exact h.bel.size, fun j hj e => by
    rcases hl with e' | e'
    · rw [e'] at e; exact h.ne j hj e
    · rw [e'] at e; cases e
      have := (h.ob.lt _ hj).2
      omega, h.bel.trans (u.below (fun k hk => by have := h.bel.size; omega) (fun k hk => h.lp k hk))⟩
end Go.Proofs.Ytbnllobofndckaa
