/-
  spread: what lies over a told one is told, too.
-/
import Derived.Test.YtkmpcheamdadcaaXa
import Derived.Test.YtkmpcheamdadcaaVj
namespace Go.Proofs.Ytkmpcheamdadcaa
open Go.RowKit
set_option linter.unusedVariables false
set_option linter.unusedSimpArgs false
abbrev St := List Nat × List Nat × List Bool
def stp (how : Int) (l : List Fi) (f : Fi) (s : St) (i : Nat) : St := if rchB how (l.getD i default) f.sm.u f.la.u then (s.1 ++ [i], s.2.1, s.2.2.set i true) else (s.1, s.2.1 ++ [i], s.2.2)
/-- One that is told, held against those that are left. -/
def hold1 (how : Int) (l : List Fi) (f : Fi) (W L : List Nat) (T : List Bool) : St := L.foldl (stp how l f) (W, [], T)
def spr (how : Int) (l : List Fi) : Nat → List Nat → List Nat → List Bool → List Bool
  | 0, _, _, T => T
  | _ + 1, [], _, T => T
  | k + 1, i :: W, L, T => spr how l k (hold1 how l (l.getD i default) W L T).1 (hold1 how l (l.getD i default) W L T).2.1 (hold1 how l (l.getD i default) W L T).2.2
theorem stp_len (how : Int) (l : List Fi) (f : Fi) : ∀ (L : List Nat) (s : St), (L.foldl (stp how l f) s).1.length + (L.foldl (stp how l f) s).2.1.length = s.1.length + s.2.1.length + L.length ∧ (L.foldl (stp how l f) s).2.1.length ≤ s.2.1.length + L.length ∧ (L.foldl (stp how l f) s).2.2.length = s.2.2.length := by
  intro L
  induction L with
  | nil => intro s; simp
  | cons x L ih =>
    intro s
    have := ih (stp how l f s x)
    have e : (stp how l f s x).1.length + (stp how l f s x).2.1.length = s.1.length + s.2.1.length + 1 ∧ (stp how l f s x).2.1.length ≤ s.2.1.length + 1 ∧ (stp how l f s x).2.2.length = s.2.2.length := by
      unfold stp
      split <;> simp <;> omega
    simp only [List.foldl_cons, List.length_cons]
    omega
theorem stp_mem (how : Int) (l : List Fi) (f : Fi) (p : Nat → Prop) : ∀ (L : List Nat) (s : St), (∀ i ∈ L, p i) → (∀ i ∈ s.1, p i) → (∀ i ∈ s.2.1, p i) → (∀ i ∈ (L.foldl (stp how l f) s).1, p i) ∧ (∀ i ∈ (L.foldl (stp how l f) s).2.1, p i) := by
  intro L
  induction L with
  | nil => intro s _ h1 h2; exact ⟨h1, h2⟩
  | cons x L ih =>
    intro s h0 h1 h2
    refine ih _ (fun i hi => h0 i (List.mem_cons_of_mem _ hi)) ?_ ?_
    · unfold stp
      split
      · intro i hi
        rcases List.mem_append.1 hi with h | h
        · exact h1 i h
        · simp at h; subst h; exact h0 _ (List.mem_cons_self ..)
      · exact h1
    · unfold stp
      split
      · exact h2
      · intro i hi
        rcases List.mem_append.1 hi with h | h
        · exact h2 i h
        · simp at h; subst h; exact h0 _ (List.mem_cons_self ..)
abbrev bls (T : List Bool) : List Value := T.map Value.bool
theorem bls_set (T : List Bool) (i : Nat) : (bls T).set i (.bool true) = bls (T.set i true) := by simp [bls, List.map_set]
theorem bls_get {T : List Bool} {i : Nat} {b : Bool} (h : T[i]? = some b) : (bls T)[i]? = some (.bool b) := by simp [bls, h]
def lenV : Value → Nat
  | .slice _ n _ => n
  | _ => 0
/-- The marks are laid out. -/
structure Lo (w : World) (tb : Nat) (l : List Fi) (T : List Bool) (k : Nat) (wr : World) (v6 v7 : Value) : Prop where
  q6 : Qi wr w.heap.size v6 ((List.range k).filter fun i => T.getD i false)
  q7 : Qi wr w.heap.size v7 ((List.range k).filter fun i => !T.getD i false)
  apart : ∀ b, v6.ownBlock = some b → v7.ownBlock ≠ some b
  bel : Below w.heap.size w wr
theorem flt_len (p : Nat → Bool) (k : Nat) : ((List.range k).filter p).length ≤ k := by
  have := List.length_filter_le p (List.range k)
  simpa using this
theorem flt_snoc_t {p : Nat → Bool} {k : Nat} (h : p k = true) : (List.range (k + 1)).filter p = (List.range k).filter p ++ [k] := by
  rw [List.range_succ, List.filter_append]; simp [h]
theorem flt_snoc_f {p : Nat → Bool} {k : Nat} (h : p k = false) : (List.range (k + 1)).filter p = (List.range k).filter p := by
  rw [List.range_succ, List.filter_append]; simp [h]
theorem flt_two (p : Nat → Bool) : ∀ k, ((List.range k).filter p).length + ((List.range k).filter fun i => !p i).length = k := by
  intro k
  induction k with
  | zero => simp
  | succ k ih =>
    cases h : p k
    · rw [flt_snoc_f h, flt_snoc_t (p := fun i => !p i) (by simp [h])]; simp; omega
    · rw [flt_snoc_t h, flt_snoc_f (p := fun i => !p i) (by simp [h])]; simp; omega
theorem Lo.t {w : World} {tb : Nat} {l : List Fi} {T : List Bool} {k : Nat} {wr : World} {v6 v7 : Value} (h : Lo w tb l T k wr v6 v7) (hT : T.getD k false = true) {v' : Value} {w' : World} (hq : Qi w' w.heap.size v' ((List.range k).filter (fun i => T.getD i false) ++ [k])) (hu : Upd (fun b => v6.ownBlock = some b) (wr.alloc (.cells #[.int .i64 (k : Int)] 3)) w') (ho : v'.ownBlock = v6.ownBlock ∨ v'.ownBlock = some (wr.alloc (.cells #[.int .i64 (k : Int)] 3)).heap.size) : Lo w tb l T (k + 1) w' v' v7 := by
  refine ⟨by rw [flt_snoc_t hT]; exact hq, ?_, ?_, ?_⟩
  · rw [flt_snoc_f (by simp only [hT]; rfl)]
    exact (h.q7.below (al1 _ _)).upd hu (fun b hb hb' => h.apart b hb' hb)
  · intro b hb hb'
    rcases ho with e | e
    · rw [e] at hb; exact h.apart b hb hb'
    · rw [e] at hb; cases hb
      have := (h.q7.blk _ hb').2
      simp at this; omega
  · exact Upd.bel (h.bel.alloc h.bel.size _) hu (fun b hb => (h.q6.blk b hb).1) (by have := h.bel.size; simp; omega)
theorem Lo.f {w : World} {tb : Nat} {l : List Fi} {T : List Bool} {k : Nat} {wr : World} {v6 v7 : Value} (h : Lo w tb l T k wr v6 v7) (hT : T.getD k false = false) {v' : Value} {w' : World} (hq : Qi w' w.heap.size v' ((List.range k).filter (fun i => !T.getD i false) ++ [k])) (hu : Upd (fun b => v7.ownBlock = some b) (wr.alloc (.cells #[.int .i64 (k : Int)] 3)) w') (ho : v'.ownBlock = v7.ownBlock ∨ v'.ownBlock = some (wr.alloc (.cells #[.int .i64 (k : Int)] 3)).heap.size) : Lo w tb l T (k + 1) w' v6 v' := by
  refine ⟨?_, by rw [flt_snoc_t (by simp only [hT]; rfl)]; exact hq, ?_, ?_⟩
  · rw [flt_snoc_f hT]
    exact (h.q6.below (al1 _ _)).upd hu (fun b hb hb' => h.apart b hb hb')
  · intro b hb hb'
    rcases ho with e | e
    · rw [e] at hb'; exact h.apart b hb hb'
    · rw [e] at hb'; cases hb'
      have := (h.q6.blk _ hb).2
      simp at this; omega
  · exact Upd.bel (h.bel.alloc h.bel.size _) hu (fun b hb => (h.q7.blk b hb).1) (by have := h.bel.size; simp; omega)
/-- Between two that are held. -/
structure Sp (w : World) (tb : Nat) (how : Int) (l : List Fi) (R : List Bool) (W L : List Nat) (T : List Bool) (k : Nat) (wr : World) (v6 v7 : Value) : Prop where
  q6 : Qi wr w.heap.size v6 W
  q7 : Qi wr w.heap.size v7 L
  apart : ∀ b, v6.ownBlock = some b → v7.ownBlock ≠ some b
  told : Blk wr tb 4 (bls T)
  upd : Upd (fun b => b = tb) w wr
  fuel : W.length + L.length ≤ k
  out : spr how l k W L T = R
  mw : ∀ i ∈ W, i < l.length
  ml : ∀ i ∈ L, i < l.length
  lt : T.length = l.length
  n : W.length + L.length ≤ l.length
/-- While one is held: those up to k are sifted, in the row of what is left. -/
structure Hl (w : World) (tb : Nat) (l : List Fi) (fb : Nat) (f : Fi) (g o cap : Nat) (L : List Nat) (k : Nat) (s : St) (wr : World) (v6 v10 : Value) : Prop where
  q6 : Qi wr w.heap.size v6 s.1
  v10 : v10 = .slice (some ⟨g, o, none⟩) s.2.1.length cap
  row : ∃ cur, Blk wr g 3 cur ∧ o + cap ≤ cur.length ∧ InAt cur o s.2.1 ∧ InAt cur (o + k) (L.drop k)
  base : w.heap.size ≤ g
  apart : v6.ownBlock ≠ some g
  told : Blk wr tb 4 (bls s.2.2)
  box : Blk wr fb 50 f.c
  hfb : w.heap.size ≤ fb
  upd : Upd (fun b => b = tb) w wr
theorem Qi.ne {w : World} {base : Nat} {v : Value} {l : List Nat} (h : Qi w base v l) {tb : Nat} {t : TypeId} {cs : List Value} (ht : Blk w tb t cs) (h3 : t ≠ 3) : ∀ b, v.ownBlock = some b → b ≠ tb := by
  intro b hb
  rcases h with ⟨rfl, _⟩ | ⟨g, o, cap, cur, rfl, h1, h2, _⟩
  · cases hb
  · cases hb; exact h2.ne ht (fun e => h3 e.symm)
theorem InAt.next {cur : List Value} {o k : Nat} {L : List Nat} (h : InAt cur (o + k) (L.drop k)) : InAt cur (o + (k + 1)) (L.drop (k + 1)) := by
  intro j x hj
  rw [List.getElem?_drop] at hj
  have := h (j + 1) x (by rw [List.getElem?_drop, ← hj]; congr 1; omega)
  rw [← this]; congr 1; omega
section
variable {w : World} {tb : Nat} {l : List Fi} {fb : Nat} {f : Fi} {g o cap : Nat} {L : List Nat} {k : Nat} {s : St} {wr : World} {v6 v10 : Value}
theorem Hl.alloc (h : Hl w tb l fb f g o cap L k s wr v6 v10) (ob : Obj) : Hl w tb l fb f g o cap L k s (wr.alloc ob) v6 v10 := by
  obtain ⟨cur, c1, c2, c3, c4⟩ := h.row
  exact ⟨h.q6.below (al1 _ _), h.v10, ⟨cur, c1.alloc ob, c2, c3, c4⟩, h.base, h.apart, h.told.alloc ob, h.box.alloc ob, h.hfb, h.upd.alloc ob⟩
theorem Hl.drew (h : Hl w tb l fb f g o cap L k s wr v6 v10) : Hl w tb l fb f g o cap L k s wr.drew v6 v10 := by
  obtain ⟨cur, c1, c2, c3, c4⟩ := h.row
  exact ⟨h.q6.upd (Upd.refl Non wr).drew (fun _ _ h => h), h.v10, ⟨cur, c1, c2, c3, c4⟩, h.base, h.apart, h.told, h.box, h.hfb, h.upd.drew⟩
theorem Hl.mark (h : Hl w tb l fb f g o cap L k s wr v6 v10) (x : Nat) : Hl w tb l fb f g o cap L k (s.1, s.2.1, s.2.2.set x true) (wr.setCell ⟨tb, x, none⟩ (.bool true)) v6 v10 := by
  obtain ⟨cur, c1, c2, c3, c4⟩ := h.row
  have u : Upd (fun b => b = tb) wr (wr.setCell ⟨tb, x, none⟩ (.bool true)) := (Upd.refl (fun b => b = tb) wr).setCell (p := ⟨tb, x, none⟩) (fun _ => rfl) _
  refine ⟨h.q6.upd u (fun b hb e => h.q6.ne h.told (by decide) b hb e), h.v10, ⟨cur, c1.other (c1.ne h.told (by decide)) _, c2, c3, c4⟩, h.base, h.apart, ?_, h.box.other (h.box.ne h.told (by decide)) _, h.hfb, h.upd.trans u⟩
  have := h.told.set x (.bool true)
  rw [bls_set] at this
  exact this
theorem Hl.work (h : Hl w tb l fb f g o cap L k s wr v6 v10) {x : Nat} {v' : Value} {w' : World} (hq : Qi w' w.heap.size v' (s.1 ++ [x])) (hu : Upd (fun b => v6.ownBlock = some b) wr w') (ho : v'.ownBlock = v6.ownBlock ∨ v'.ownBlock = some wr.heap.size) (htb : tb < w.heap.size) : Hl w tb l fb f g o cap L (k + 1) (s.1 ++ [x], s.2.1, s.2.2) w' v' v10 := by
  obtain ⟨cur, c1, c2, c3, c4⟩ := h.row
  refine ⟨hq, h.v10, ⟨cur, c1.upd hu h.apart, c2, c3, c4.next⟩, h.base, ?_, h.told.upd hu (fun e => ?_), h.box.upd hu (fun e => h.q6.ne h.box (by decide) _ e rfl), h.hfb, h.upd.then hu (fun i hi e => ?_)⟩
  · rcases ho with e | e
    · rw [e]; exact h.apart
    · rw [e]; intro e; cases e; have := c1.lt; omega
  · exact h.q6.ne h.told (by decide) _ e rfl
  · have := (h.q6.blk _ e).1; omega
theorem Hl.still (h : Hl w tb l fb f g o cap L k s wr v6 v10) {x : Nat} (hk : k < L.length) (hL : L.length ≤ cap) (hs : s.2.1.length ≤ k) : Hl w tb l fb f g o cap L (k + 1) (s.1, s.2.1 ++ [x], s.2.2) (wr.setCell ⟨g, o + s.2.1.length, none⟩ (.int .i64 (x : Int))) v6 (.slice (some ⟨g, o, none⟩) (s.2.1.length + 1) cap) := by
  obtain ⟨cur, c1, c2, c3, c4⟩ := h.row
  have u : Upd (fun b => b = g) wr (wr.setCell ⟨g, o + s.2.1.length, none⟩ (.int .i64 (x : Int))) := (Upd.refl (fun b => b = g) wr).setCell (p := ⟨g, o + s.2.1.length, none⟩) (fun _ => rfl) _
  refine ⟨h.q6.upd u (fun b hb e => by subst e; exact h.apart hb), by simp, ⟨_, c1.set _ _, by simpa using c2, c3.set (by omega) x, ?_⟩, h.base, h.apart, h.told.upd u (c1.ne h.told (by decide)).symm, h.box.upd u (c1.ne h.box (by decide)).symm, h.hfb, h.upd.then u (fun i hi e => by have := h.base; omega)⟩
  intro j y hj
  rw [List.getElem?_set_ne (by omega)]
  exact c4.next j y hj
end
theorem Sp.next {w : World} {tb : Nat} {how : Int} {l : List Fi} {R : List Bool} {x : Nat} {W L : List Nat} {T : List Bool} {q : Nat} {wr : World} {v6 v7 : Value} (h : Sp w tb how l R (x :: W) L T q wr v6 v7) {f : Fi} (hf : l[x]? = some f) {fb g o cap : Nat} {w2 : World} {u6 u10 : Value}
    (H : Hl w tb l fb f g o cap L L.length (hold1 how l f W L T) w2 u6 u10) (hc : L.length ≤ cap) (hm : cap ≤ maxLen) : ∃ q', Sp w tb how l R (hold1 how l f W L T).1 (hold1 how l f W L T).2.1 (hold1 how l f W L T).2.2 q' w2 u6 u10 := by
  obtain ⟨cur, c1, c2, c3, c4⟩ := H.row
  have hlen := stp_len how l f L (W, [], T)
  have hmem := stp_mem how l f (fun i => i < l.length) L (W, [], T) h.ml (fun i hi => h.mw i (List.mem_cons_of_mem _ hi)) (fun i hi => by cases hi)
  have h1 := h.fuel
  have h2 := h.n
  have h3 := h.lt
  have h4 := h.out
  simp only [List.length_cons, List.length_nil, Nat.add_zero, Nat.zero_add] at h1 h2 hlen
  obtain ⟨q', rfl⟩ : ∃ q', q = q' + 1 := ⟨q - 1, by omega⟩
  have e : l.getD x default = f := by rw [List.getD_eq_getElem?_getD, hf]; rfl
  simp only [spr, e] at h4
  unfold hold1 at *
  refine ⟨q', H.q6, ?_, ?_, H.told, H.upd, by omega, h4, hmem.1, hmem.2, by omega, by omega⟩
  · rw [H.v10]; exact .inr ⟨g, o, cap, cur, rfl, H.base, c1, by omega, hm, c2, c3⟩
  · intro b hb hb'
    rw [H.v10] at hb'
    cases hb'
    exact H.apart hb
theorem Sp.next0 {w : World} {tb : Nat} {how : Int} {l : List Fi} {R : List Bool} {x : Nat} {W : List Nat} {T : List Bool} {q : Nat} {wr : World} {v6 v7 : Value} (h : Sp w tb how l R (x :: W) [] T q wr v6 v7) {u6 : Value} (hq : Qi wr w.heap.size u6 W) (ob : Obj) : ∃ q', Sp w tb how l R W [] T q' (wr.alloc ob) u6 (.slice none 0 0) := by
  have h1 := h.fuel
  have h2 := h.n
  have h4 := h.out
  simp only [List.length_cons, List.length_nil, Nat.add_zero, Nat.zero_add] at h1 h2
  obtain ⟨q', rfl⟩ : ∃ q', q = q' + 1 := ⟨q - 1, by omega⟩
  simp only [spr, hold1, List.foldl_nil] at h4
  exact ⟨q', hq.below (al1 _ _), Qi.nil _ _, (fun b hb hb' => by cases hb'), h.told.alloc _, h.upd.alloc _, (by simp; omega), h4, (fun i hi => h.mw i (List.mem_cons_of_mem _ hi)), (fun i hi => by cases hi), h.lt, (by simp; omega)⟩
theorem Hl.start {w : World} {tb : Nat} {how : Int} {l : List Fi} {R : List Bool} {x : Nat} {W L : List Nat} {T : List Bool} {q : Nat} {wr : World} {v6 : Value} {g o cap : Nat} (h : Sp w tb how l R (x :: W) L T q wr v6 (.slice (some ⟨g, o, none⟩) L.length cap)) {u6 : Value} (hq : Qi wr w.heap.size u6 W) (ho : u6.ownBlock = v6.ownBlock) {cur : List Value} (hb : w.heap.size ≤ g) (hk : Blk wr g 3 cur) (hc : o + cap ≤ cur.length) (hi : InAt cur o L) (f : Fi) :
    Hl w tb l wr.heap.size f g o cap L 0 (W, [], T) (wr.alloc f.o) u6 (.slice (some ⟨g, o, none⟩) 0 cap) :=
  ⟨hq.below (al1 _ _), rfl, ⟨cur, hk.alloc _, hc, fun j x hj => by simp at hj, by simpa using hi⟩, hb, by rw [ho]; intro e; exact h.apart g e rfl, h.told.alloc _, Blk.new wr 50 f.c, h.upd.size, h.upd.alloc _⟩
/-- The table that is looked at. -/
theorem Hl.look {w : World} {tb : Nat} {l : List Fi} {fb : Nat} {f : Fi} {g o cap : Nat} {L : List Nat} {k : Nat} {s : St} {wr : World} {v6 v10 : Value} (h : Hl w tb l fb f g o cap L k s wr v6 v10) {x : Nat} (hx : L[k]? = some x) : wr.cell? ⟨g, o + k, none⟩ = some (.int .i64 (x : Int)) := by
  obtain ⟨cur, c1, c2, c3, c4⟩ := h.row
  rw [c1.cell]
  exact c4 0 x (by rw [List.getElem?_drop]; exact hx)
end Go.Proofs.Ytkmpcheamdadcaa
