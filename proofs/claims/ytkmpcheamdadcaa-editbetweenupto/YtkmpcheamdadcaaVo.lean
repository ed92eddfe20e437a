/-
  An edit made: what both sides answer; the version under way in memory.
-/
import Derived.Test.YtkmpcheamdadcaaZc
import Derived.Test.YtkmpcheamdadcaaVj
import Derived.Test.YtkmpcheamdadcaaVl
namespace Go.Proofs.Ytkmpcheamdadcaa
open Go.RowKit
set_option linter.unusedVariables false
set_option linter.unusedSimpArgs false
def updL (L : Nat → List Fi) (n : Nat) (l : List Fi) : Nat → List Fi := fun i => if i = n then l else L i
theorem updL_same (L : Nat → List Fi) (n : Nat) (l : List Fi) : updL L n l n = l := by simp [updL]
theorem updL_other (L : Nat → List Fi) {n i : Nat} (l : List Fi) (h : i ≠ n) : updL L n l i = L i := by simp [updL, h]
def gonL : (Nat → List Fi) → List Gn → Option (Nat → List Fi)
  | L, [] => some L
  | L, g :: r => if (L g.lv.toNat).findIdx (numB g.num) < (L g.lv.toNat).length then gonL (updL L g.lv.toNat (tdel (L g.lv.toNat) ((L g.lv.toNat).findIdx (numB g.num)))) r else none
def addL (how : Int) : (Nat → List Fi) → List Ad → (Nat → List Fi)
  | L, [] => L
  | L, a :: r => addL how (updL L a.lv.toNat (tins (L a.lv.toNat) ((L a.lv.toNat).findIdx (behB how a.lv.toNat a.f)) a.f)) r
/-- What Apply answers: the error, and the lists. -/
def appR (how : Int) (L : Nat → List Fi) (e : Ed) : Int × (Nat → List Fi) :=
  if chkE how L ≠ 0 then (chkE how L, fun _ => []) else if canE e ≠ 0 then (canE e, fun _ => []) else
  match gonL L e.gone with
  | none => (6, fun _ => [])
  | some L' => if chkE how (addL how L' e.added) ≠ 0 then (chkE how (addL how L' e.added), fun _ => []) else (0, addL how L' e.added)
theorem tins_len (l : List Fi) (i : Nat) (t : Fi) (h : i ≤ l.length) : (tins l i t).length = l.length + 1 := by unfold tins; simp; omega
theorem tdel_len (l : List Fi) (i : Nat) (h : i < l.length) : (tdel l i).length = l.length - 1 := by unfold tdel; simp; omega
theorem cnt_each (L : Nat → List Fi) (i : Nat) (h : i < 7) : (L i).length ≤ cntV L 7 := by
  have : i = 0 ∨ i = 1 ∨ i = 2 ∨ i = 3 ∨ i = 4 ∨ i = 5 ∨ i = 6 := by omega
  simp only [cntV]
  rcases this with rfl | rfl | rfl | rfl | rfl | rfl | rfl <;> omega
theorem chk_len {how : Int} {L : Nat → List Fi} (h : chkE how L = 0) (i : Nat) (hi : i < 7) : (L i).length ≤ 1024 := by
  have h1 := cnt_each L i hi
  unfold chkE at h
  split at h
  · split at h
    · cases h
    · omega
  · cases h
theorem gonE_all {l : List Gn} (h : gonE l = 0) : ∀ g ∈ l, isLvB g.lv = true := by
  induction l with
  | nil => intro g hg; simp at hg
  | cons x l ih =>
    unfold gonE at h
    split at h
    · rename_i hx
      intro g hg
      rcases List.mem_cons.1 hg with rfl | hg
      · exact hx
      · exact ih h g hg
    · cases h
theorem addE_all {l : List Ad} (h : addE l = 0) : ∀ a ∈ l, isLvB a.lv = true := by
  induction l with
  | nil => intro g hg; simp at hg
  | cons x l ih =>
    unfold addE at h
    split at h
    · rename_i hx
      split at h
      · rename_i hc; exact absurd h hc
      · intro g hg
        rcases List.mem_cons.1 hg with rfl | hg
        · exact hx
        · exact ih h g hg
    · cases h
theorem canE_zero {e : Ed} (h : canE e = 0) : (∀ g ∈ e.gone, isLvB g.lv = true) ∧ (∀ a ∈ e.added, isLvB a.lv = true) ∧ e.gone.length + e.added.length ≤ 1024 := by
  unfold canE at h
  split at h
  · cases h
  · split at h
    · rename_i hc; exact absurd h hc.2
    · split at h
      · cases h
      · split at h
        · rename_i hc; exact absurd h hc
        · rename_i hg
          exact ⟨gonE_all (by simpa using hg), addE_all h, by omega⟩
theorem isLv_nat {n : Int} (h : isLvB n = true) : ∃ k : Nat, n = k ∧ k < 7 := by
  simp only [isLvB, Bool.and_eq_true, decide_eq_true_eq] at h
  exact ⟨n.toNat, by omega, by omega⟩
theorem row_base {w : World} {e : TypeId} {size : Nat} {v : Value} {n b : Nat} {xs : List Value} (h : w.ownsRow 0 e size v n xs) (hb : ∀ k, v.ownBlock = some k → b ≤ k) : w.ownsRow b e size v n xs := by
  refine ⟨h.1, ?_⟩
  rcases h.2 with h2 | ⟨g, cap, cur, rfl, _, r⟩
  · exact .inl h2
  · exact .inr ⟨g, cap, cur, rfl, hb g rfl, r⟩
def nil7 : Nat → Value := fun _ => .slice none 0 0
/-- Apply under way: R the result's box, D the edit's, X that of the lists. -/
structure Sv (w W : World) (R D X : Nat) (P : En) (e : Ed) (V : Vn) (L : Nat → List Fi) (N : Nat) : Prop where
  bel : Below w.heap.size w W
  box : Blk W X 39 (cells7 (vsl V L))
  own : OwnV W w.heap.size V L
  res : Blk W R 41 (cells7 nil7)
  edb : Blk W D 27 (edA P e).toList
  xw : w.heap.size ≤ X
  len : ∀ i, i < 7 → (L i).length ≤ N
  ok : ∀ i, i < 7 → ∀ f ∈ L i, FOk f
theorem Sv.below {w W W' : World} {R D X N : Nat} {P : En} {e : Ed} {V : Vn} {L : Nat → List Fi} (h : Sv w W R D X P e V L N) (hb : Below W.heap.size W W') : Sv w W' R D X P e V L N :=
  ⟨bstep h.bel hb, h.box.upd (S := Non) (Upd.ofBelow hb) (fun h => h), h.own.below hb, h.res.upd (S := Non) (Upd.ofBelow hb) (fun h => h), h.edb.upd (S := Non) (Upd.ofBelow hb) (fun h => h), h.xw, h.len, h.ok⟩
theorem Sv.rdv {w W : World} {R D X N : Nat} {P : En} {e : Ed} {V : Vn} {L : Nat → List Fi} (h : Sv w W R D X P e V L N) (hN : N ≤ 1000000) : RdV W V L := h.own.rdv (fun i hi => by have := h.len i hi; omega) h.ok
/-- A list is put in the place of one. -/
theorem Sv.put {w W W' : World} {R D X N N' : Nat} {P : En} {e : Ed} {V : Vn} {L : Nat → List Fi} (h : Sv w W R D X P e V L N) {n : Nat} (hn : n < 7) {v : Value} {l : List Fi} (hr : W'.ownsRow 0 50 10 v l.length (tcs l)) (u : Upd (fun k => (vsl V L n).ownBlock = some k) W W') (hv : v.ownBlock = (vsl V L n).ownBlock ∨ ∃ k, v.ownBlock = some k ∧ W.heap.size ≤ k)
    (hN : N ≤ N') (hl : l.length ≤ N') (hok : ∀ f ∈ l, FOk f) :
    ∃ V', Sv w (W'.setCell ⟨X, n, none⟩ v) R D X P e V' (updL L n l) N' := by
  obtain ⟨a, c, hva⟩ := row_slice hr
  have hb : ∀ k, v.ownBlock = some k → w.heap.size ≤ k := fun k hk => by
    rcases hv with e | ⟨k', e, h'⟩
    · rw [e] at hk; exact (row_blk (h.own.rows n hn) k hk).1
    · rw [e] at hk; cases hk; have := h.bel.size; omega
  have hX : ∀ k, (vsl V L n).ownBlock = some k → k ≠ X := row_ne (h.own.rows n hn) h.box (by decide)
  have hR : ∀ k, (vsl V L n).ownBlock = some k → k ≠ R := row_ne (h.own.rows n hn) h.res (by decide)
  have hD : ∀ k, (vsl V L n).ownBlock = some k → k ≠ D := row_ne (h.own.rows n hn) h.edb (by decide)
  have b1 := h.box.upd u (fun e => hX _ e rfl)
  have r1 := h.res.upd u (fun e => hR _ e rfl)
  have d1 := h.edb.upd u (fun e => hD _ e rfl)
  have nXR : X ≠ R := h.box.ne h.res (by decide)
  have nXD : X ≠ D := h.box.ne h.edb (by decide)
  have U2 : Upd (fun k => k = X) W' (W'.setCell ⟨X, n, none⟩ v) := Upd.setCell (p := ⟨X, n, none⟩) (Upd.refl (fun k => k = X) _) (fun _ => rfl) _
  have hro : ∀ i, i < 7 → i ≠ n → W'.ownsRow w.heap.size 50 10 (vsl V L i) (L i).length (tcs (L i)) := fun i hi hin => row_upd (h.own.rows i hi) u (fun k hk e => h.own.apart i n hi hn hin k hk e)
  have bW' : Below w.heap.size w W' := Upd.bel h.bel u (fun j hj => (row_blk (h.own.rows n hn) j hj).1) h.bel.size
  let V' : Vn := ⟨fun i => if i = n then a else V.a i, fun i => if i = n then c else V.c i⟩
  have eN : vsl V' (updL L n l) n = v := by show Value.slice (if n = n then a else _) _ (if n = n then c else _) = _; rw [if_pos rfl, if_pos rfl, updL_same, hva]
  have eO : ∀ i, i ≠ n → vsl V' (updL L n l) i = vsl V L i := fun i hi => by show Value.slice (if i = n then a else _) _ (if i = n then c else _) = _; rw [if_neg hi, if_neg hi, updL_other _ _ hi]
  refine ⟨V', Upd.bel bW' U2 (fun j hj => by subst hj; exact h.xw) bW'.size, ?_, ⟨fun i hi => ?_, fun i j hi hj hij b hbi => ?_⟩, r1.upd U2 (fun e => nXR e.symm), d1.upd U2 (fun e => nXD e.symm), h.xw, fun i hi => ?_, fun i hi f hf => ?_⟩
  · have := b1.set n v
    rw [cells7_set _ n hn] at this
    rw [cells7_congr (g := fun i => if i = n then v else vsl V L i)]
    · exact this
    · intro i hi
      by_cases ei : i = n
      · subst ei; rw [if_pos rfl, eN]
      · rw [if_neg ei, eO i ei]
  · by_cases ei : i = n
    · subst ei
      rw [eN, updL_same]
      exact row_upd (row_base hr hb) U2 (fun k hk e => row_ne hr b1 (by decide) k hk e)
    · rw [eO i ei, updL_other _ _ ei]
      exact row_upd (hro i hi ei) U2 (fun k hk e => row_ne (h.own.rows i hi) h.box (by decide) k hk e)
  · by_cases ei : i = n
    · subst ei
      rw [eN] at hbi
      rw [eO j (Ne.symm hij)]
      intro hbj
      rcases hv with e | ⟨k', e, h'⟩
      · rw [e] at hbi; exact h.own.apart i j hi hj hij b hbi hbj
      · rw [e] at hbi; cases hbi
        have := (row_blk (h.own.rows j hj) _ hbj).2
        omega
    · rw [eO i ei] at hbi
      by_cases ej : j = n
      · subst ej
        rw [eN]
        intro hbj
        rcases hv with e | ⟨k', e, h'⟩
        · rw [e] at hbj; exact h.own.apart i j hi hj hij b hbi hbj
        · rw [e] at hbj; cases hbj
          have := (row_blk (h.own.rows i hi) _ hbi).2
          omega
      · rw [eO j ej]
        exact h.own.apart i j hi hj hij b hbi
  · by_cases ei : i = n
    · subst ei; rw [updL_same]; exact hl
    · rw [updL_other _ _ ei]; have := h.len i hi; omega
  · by_cases ei : i = n
    · subst ei; rw [updL_same] at hf; exact hok f hf
    · rw [updL_other _ _ ei] at hf; exact h.ok i hi f hf
end Go.Proofs.Ytkmpcheamdadcaa
