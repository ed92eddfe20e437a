/-
  Pieces in memory, to which numbers come.
-/
import Derived.Test.YtagnnocecfoggaaSq
import Derived.Test.YtagnnocecfoggaaSt
import Derived.Test.YtagnnocecfoggaaBt
import Derived.Test.YtagnnocecfoggaaDg
namespace Go.Proofs.Ytagnnocecfoggaa
open Go.RowKit
set_option linter.unusedVariables false
set_option linter.unusedSimpArgs false
structure Sp (wr : World) (base : Nat) (pv : Value) (ps : List Pc) (L : List Fg) : Prop where
  row : RowP wr base pv ps
  len : ps.length = L.length
  at_ : ∀ (i : Nat) (p : Pc) (f : Fg), ps[i]? = some p → L[i]? = some f → p.b = f.b ∧ p.e = f.e ∧ RowU wr base p.s f.q
  dj : ∀ (i j : Nat) (p p' : Pc), i ≠ j → ps[i]? = some p → ps[j]? = some p' → ∀ k, p.s.ownBlock = some k → p'.s.ownBlock ≠ some k
/-- The blocks of pieces. -/
def SpB (pv : Value) (ps : List Pc) (k : Nat) : Prop := pv.ownBlock = some k ∨ ∃ p ∈ ps, p.s.ownBlock = some k
theorem Sp.upd {S : Nat → Prop} {w w' : World} {base : Nat} {pv : Value} {ps : List Pc} {L : List Fg} (h : Sp w base pv ps L) (u : Upd S w w') (hS : ∀ k, SpB pv ps k → ¬ S k) : Sp w' base pv ps L :=
  ⟨row_upd h.row u (fun k hk => hS k (.inl hk)), h.len, fun i p f hp hf => by
    obtain ⟨e1, e2, e3⟩ := h.at_ i p f hp hf
    exact ⟨e1, e2, row_upd e3 u (fun k hk => hS k (.inr ⟨p, List.mem_of_getElem? hp, hk⟩))⟩, h.dj⟩
theorem Sp.below {w w' : World} {base : Nat} {pv : Value} {ps : List Pc} {L : List Fg} (h : Sp w base pv ps L) (hb : Below w.heap.size w w') : Sp w' base pv ps L := h.upd (S := Non) (Upd.ofBelow hb) (fun _ _ h => h)
theorem set_append_at {α : Type} (a b : List α) (i : Nat) (v : α) : (a ++ b).set (a.length + i) v = a ++ b.set i v := by
  rw [List.set_append_right _ _ (by omega)]; congr 2; omega
theorem cls_set (ps : List Pc) (i : Nat) (p : Pc) (hp : ps[i]? = some p) (a : Option Addr) (n c : Nat) : (cls Pc.c ps).set (i * 3 + 2) (.slice a n c) = cls Pc.c (ps.set i ⟨p.b, p.e, a, n, c⟩) := by
  induction ps generalizing i with
  | nil => simp at hp
  | cons q ps ih =>
    cases i with
    | zero =>
      simp at hp; subst hp
      simp [cls_cons, Pc.c]
    | succ i =>
      simp at hp
      rw [cls_cons, List.set_cons_succ, cls_cons, ← ih i hp]
      rw [show (i + 1) * 3 + 2 = (Pc.c q).length + (i * 3 + 2) by simp [Pc.c]; omega, set_append_at]
theorem row_set {w : World} {base g n cap : Nat} {ps : List Pc} (h : w.ownsRow base 63 3 (.slice (some ⟨g, 0, none⟩) n cap) n (cls Pc.c ps)) {i : Nat} {p : Pc} (hp : ps[i]? = some p) (a : Option Addr) (m c : Nat) :
    (w.setCell ⟨g, i * 3 + 2, none⟩ (.slice a m c)).ownsRow base 63 3 (.slice (some ⟨g, 0, none⟩) n cap) n (cls Pc.c (ps.set i ⟨p.b, p.e, a, m, c⟩)) := by
  rcases h.2 with ⟨e, _⟩ | ⟨g', cap', cur, e, hb, hg, hn, hm, hs, ht⟩
  · cases e
  · cases e
    have hl : ps.length * 3 = n * 3 := by have := h.1; rw [cls_len pc_k] at this; exact this
    have hi : i < ps.length := (List.getElem?_eq_some_iff.1 hp).1
    refine ⟨by rw [cls_len pc_k, List.length_set]; exact hl, .inr ⟨g, cap, cur.setIfInBounds (i * 3 + 2) (.slice a m c), rfl, hb, ?_, hn, hm, by simpa using hs, ?_⟩⟩
    · simp [World.setCell, Array.getElem?_modify, hg]
    · rw [← cls_set ps i p hp, ← ht]
      simp only [Array.toList_setIfInBounds]
      rw [List.take_set]
theorem Sp.put {wr w1 : World} {base g n cap : Nat} {ps : List Pc} {L : List Fg} (h : Sp wr base (.slice (some ⟨g, 0, none⟩) n cap) ps L) {i : Nat} {p : Pc} {f : Fg} (hp : ps[i]? = some p) (hf : L[i]? = some f) {a : Option Addr} {m c : Nat} {q : List Int}
    (hr : RowU w1 base (.slice a m c) q) (u : Upd (fun k => p.s.ownBlock = some k) wr w1) (ho : (Value.slice a m c).ownBlock = p.s.ownBlock ∨ ∃ k, (Value.slice a m c).ownBlock = some k ∧ wr.heap.size ≤ k) :
    Sp (w1.setCell ⟨g, i * 3 + 2, none⟩ (.slice a m c)) base (.slice (some ⟨g, 0, none⟩) n cap) (ps.set i ⟨p.b, p.e, a, m, c⟩) (L.set i ⟨f.b, f.e, q⟩) := by
  have hil : i < ps.length := (List.getElem?_eq_some_iff.1 hp).1
  obtain ⟨f1, f2, f3⟩ := h.at_ i p f hp hf
  have hne : ∀ k, p.s.ownBlock = some k → k ≠ g := fun k hk e => row_row_ne f3 h.row (by decide) k hk (by rw [e]; rfl)
  have hn : n = ps.length := by
    rcases h.row.2 with ⟨e, _⟩ | ⟨g', cap', cur, e, _⟩
    · cases e
    · cases e; rfl
  have r1 : w1.ownsRow base 63 3 (.slice (some ⟨g, 0, none⟩) n cap) n (cls Pc.c ps) := by
    have := row_upd h.row u (fun k hk hk' => hne k hk' (by cases hk; rfl))
    rw [← hn] at this; exact this
  have hgr : (Value.slice a m c).ownBlock ≠ some g := fun e => row_row_ne hr r1 (by decide) g e rfl
  refine ⟨?_, by simp [h.len], ?_, ?_⟩
  · have := row_set r1 hp a m c
    show World.ownsRow _ _ _ _ _ (ps.set i _).length _
    rw [List.length_set, ← hn]; exact this
  · intro j p' f' hp' hf'
    by_cases e : i = j
    · subst e
      rw [List.getElem?_set_self hil] at hp'
      rw [List.getElem?_set_self (by rw [← h.len]; exact hil)] at hf'
      cases hp'; cases hf'
      refine ⟨f1, f2, row_upd hr (S := fun k => k = g) (Upd.setCell (p := ⟨g, i * 3 + 2, none⟩) (Upd.refl (fun k => k = g) _) (fun _ => rfl) _) (fun k hk e => hgr (by rw [← e]; exact hk))⟩
    · rw [List.getElem?_set_ne e] at hp' hf'
      obtain ⟨e1, e2, e3⟩ := h.at_ j p' f' hp' hf'
      have d1 : w1.ownsRow base 38 1 p'.s f'.q.length (cls uc f'.q) := row_upd e3 u (fun k hk hk' => h.dj i j p p' e hp hp' k hk' hk)
      refine ⟨e1, e2, row_upd d1 (S := fun k => k = g) (Upd.setCell (p := ⟨g, i * 3 + 2, none⟩) (Upd.refl (fun k => k = g) _) (fun _ => rfl) _) (fun k hk e => ?_)⟩
      exact row_row_ne e3 h.row (by decide) k hk (by rw [e]; rfl)
  · intro j j' x x' hne' hx hx' k hk hk'
    have hold : ∀ (j : Nat) (x : Pc), i ≠ j → ps[j]? = some x → ∀ k, x.s.ownBlock = some k → k < wr.heap.size := fun j x _ hx k hk => by
      obtain ⟨f', hf'⟩ : ∃ f', L[j]? = some f' := ⟨L[j]'(by rw [← h.len]; exact (List.getElem?_eq_some_iff.1 hx).1), List.getElem?_eq_getElem _⟩
      exact (row_blk (h.at_ j x f' hx hf').2.2 k hk).2
    by_cases e : i = j
    · subst e
      rw [List.getElem?_set_self hil] at hx
      cases hx
      rw [List.getElem?_set_ne hne'] at hx'
      have hlt := hold j' x' hne' hx' k hk'
      rcases ho with ho | ⟨k2, ho, hge⟩
      · exact h.dj i j' p x' hne' hp hx' k (ho ▸ hk) hk'
      · have : k2 = k := by have := ho.symm.trans hk; cases this; rfl
        omega
    · rw [List.getElem?_set_ne e] at hx
      by_cases e' : i = j'
      · subst e'
        rw [List.getElem?_set_self hil] at hx'
        cases hx'
        have hlt := hold j x e hx k hk
        rcases ho with ho | ⟨k2, ho, hge⟩
        · exact h.dj j i x p (fun e => hne' e) hx hp k hk (ho ▸ hk')
        · have : k2 = k := by have := ho.symm.trans hk'; cases this; rfl
          omega
      · rw [List.getElem?_set_ne e'] at hx'
        exact h.dj j j' x x' hne' hx hx' k hk hk'
/-- All that is so while split goes through tombstones. -/
structure Iv (w wr : World) (b0 B C : Nat) (how : Int) (lv pv : Value) (l2 : List Tm) (ps : List Pc) (L : List Fg) : Prop where
  sp : Sp wr w.heap.size pv ps L
  bB : Blk wr B 3 [.int .i64 how]
  bC : Blk wr C 84 [bkv B]
  lr : RowT wr b0 lv l2
  upd : Upd (fun k => lv.ownBlock = some k) w wr
theorem Iv.below {w wr wr' : World} {b0 B C : Nat} {how : Int} {lv pv : Value} {l2 : List Tm} {ps : List Pc} {L : List Fg} (h : Iv w wr b0 B C how lv pv l2 ps L) (hb : Below wr.heap.size wr wr') : Iv w wr' b0 B C how lv pv l2 ps L :=
  ⟨h.sp.below hb, h.bB.upd (S := Non) (Upd.ofBelow hb) (fun h => h), h.bC.upd (S := Non) (Upd.ofBelow hb) (fun h => h), rowt_below h.lr hb, h.upd.trans (Upd.ofBelow hb)⟩
theorem Iv.put {w wr w1 : World} {b0 B C : Nat} {how : Int} {lv : Value} {g n cap : Nat} {l2 : List Tm} {ps : List Pc} {L : List Fg} (h : Iv w wr b0 B C how lv (.slice (some ⟨g, 0, none⟩) n cap) l2 ps L) {i : Nat} {p : Pc} {f : Fg} (hp : ps[i]? = some p) (hf : L[i]? = some f) {a : Option Addr} {m c : Nat} {q : List Int}
    (hr : RowU w1 w.heap.size (.slice a m c) q) (u : Upd (fun k => p.s.ownBlock = some k) wr w1) (ho : (Value.slice a m c).ownBlock = p.s.ownBlock ∨ ∃ k, (Value.slice a m c).ownBlock = some k ∧ wr.heap.size ≤ k) :
    Iv w (w1.setCell ⟨g, i * 3 + 2, none⟩ (.slice a m c)) b0 B C how lv (.slice (some ⟨g, 0, none⟩) n cap) l2 (ps.set i ⟨p.b, p.e, a, m, c⟩) (L.set i ⟨f.b, f.e, q⟩) ∧ (∀ xb x, Blk wr xb 56 (Tm.c x) → Blk (w1.setCell ⟨g, i * 3 + 2, none⟩ (.slice a m c)) xb 56 (Tm.c x)) := by
  obtain ⟨f1, f2, f3⟩ := h.sp.at_ i p f hp hf
  have hg : ∀ {b : Nat} {t : TypeId} {cs : List Value}, Blk wr b t cs → t ≠ 63 → b ≠ g := fun hb ht e => row_ne h.sp.row hb (Ne.symm ht) g rfl e.symm
  have hk : ∀ {b : Nat} {t : TypeId} {cs : List Value}, Blk wr b t cs → t ≠ 38 → ¬ p.s.ownBlock = some b := fun hb ht e => row_ne f3 hb (Ne.symm ht) _ e rfl
  have key : ∀ {b : Nat} {t : TypeId} {cs : List Value}, Blk wr b t cs → t ≠ 63 → t ≠ 38 → Blk (w1.setCell ⟨g, i * 3 + 2, none⟩ (.slice a m c)) b t cs := fun hb h1 h2 => (hb.upd u (hk hb h2)).other (hg hb h1) _
  have U2 : Upd (fun k => k = g ∨ p.s.ownBlock = some k) wr (w1.setCell ⟨g, i * 3 + 2, none⟩ (.slice a m c)) := Upd.setCell (p := ⟨g, i * 3 + 2, none⟩) (u.mono (fun k _ hk => .inr hk)) (fun _ => .inl rfl) _
  have hlg : ∀ k, lv.ownBlock = some k → k ≠ g := fun k hk e => row_row_ne h.lr h.sp.row (by decide) k hk (by rw [e]; rfl)
  have hlp : ∀ k, lv.ownBlock = some k → ¬ p.s.ownBlock = some k := fun k hk e => row_row_ne h.lr f3 (by decide) k hk e
  refine ⟨⟨h.sp.put hp hf hr u ho, key h.bB (by decide) (by decide), key h.bC (by decide) (by decide), row_upd h.lr U2 (fun k hk e => e.elim (hlg k hk) (hlp k hk)), ?_⟩, fun xb x hx => key hx (by decide) (by decide)⟩
  refine h.upd.then U2 (fun k hkw e => ?_)
  exfalso
  rcases e with rfl | e
  · have := (row_blk h.sp.row k rfl).1; omega
  · have := (row_blk f3 k e).1; omega
end Go.Proofs.Ytagnnocecfoggaa
