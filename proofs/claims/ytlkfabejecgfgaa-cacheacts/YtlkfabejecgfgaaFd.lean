import Derived.Test.YtlkfabejecgfgaaFc
namespace Go.Proofs.Ytlkfabejecgfgaa
open Go.RowKit Go.Maps
set_option linter.unusedVariables false
set_option linter.unusedSimpArgs false
theorem map_congr {o : Option Nat} {f g : Nat → Nat} (h : ∀ a, o = some a → f a = g a) : o.map f = o.map g := by
  cases o with
  | none => rfl
  | some a => simp [h a rfl]
/-- A new entry, in no map and no queue. -/
theorem Sm.addE {w : World} {rb o mb : Nat} {rc : List Value} {ad : Nat → Nat} {x : Xs} (h : Sm w rb o mb rc ad x) (e : En) (he : e.key.size ≤ maxLen ∧ e.chg < 18446744073709551616 ∧ e.pins < 4611686018427387904) :
    Sm (w.alloc (.cells (enC e none none).toArray 91)) rb o mb rc (fset ad x.ent.length w.heap.size) (addE x e) := by
  have hlt : ∀ a, a < x.ent.length → fset ad x.ent.length w.heap.size a = ad a := fun a ha => by unfold fset; rw [if_neg (by omega)]
  have hnq : x.ent.length ∉ x.q := fun hh => by have := h.qr _ hh; omega
  have hbl : ∀ j, j < x.ent.length → ad j < w.heap.size := fun j hj => (h.ent j _ (List.getElem?_eq_getElem hj)).lt
  refine ⟨h.row.alloc _, ?_, ?_, ?_, ?_, h.nd, ?_, ?_, h.ub, h.pb, ?_⟩
  · have e1 : shC mb (fset ad x.ent.length w.heap.size) (Ytlkfabejecgfgaa.addE x e) = shC mb ad x := by
      unfold shC Ytlkfabejecgfgaa.addE
      simp only []
      rw [map_congr (o := x.q.head?) (g := ad) (fun a ha => hlt a (h.qr a (List.mem_of_mem_head? ha))), map_congr (o := x.q.getLast?) (g := ad) (fun a ha => hlt a (h.qr a (List.mem_of_getLast? ha)))]
    rw [e1]; exact h.cel
  · obtain ⟨D, hD, hs⟩ := h.map
    refine ⟨D, ?_, hs⟩
    have e1 : (fun k => ((Ytlkfabejecgfgaa.addE x e).f k).map (fset ad x.ent.length w.heap.size)) = fun k => (x.f k).map ad := by
      funext k
      exact map_congr (o := x.f k) (fun a ha => hlt a (h.fr k a ha))
    rw [e1]
    exact hD.upd (Upd.alloc (Upd.refl Non w) _) (fun e => e)
  · intro j e' hj
    unfold Ytlkfabejecgfgaa.addE at hj ⊢
    simp only [] at hj ⊢
    by_cases c : j < x.ent.length
    · rw [List.getElem?_append_left c] at hj
      rw [hlt j c, map_congr (o := prv x.q j) (g := ad) (fun a ha => hlt a (h.qr a (prv_mem ha))), map_congr (o := nxt x.q j) (g := ad) (fun a ha => hlt a (h.qr a (nxt_mem ha)))]
      exact (h.ent j e' hj).alloc _
    · have hj' : j = x.ent.length := by
        have := lt_of_get hj
        simp at this; omega
      subst hj'
      simp at hj
      subst hj
      rw [prv_not hnq, nxt_not hnq]
      unfold fset
      rw [if_pos rfl]
      exact Blk.new w 91 _
  · intro a b ha hb hab
    unfold Ytlkfabejecgfgaa.addE at ha hb
    simp only [List.length_append, List.length_cons, List.length_nil] at ha hb
    unfold fset at hab
    split at hab <;> split at hab
    · omega
    · have := hbl b (by omega); omega
    · have := hbl a (by omega); omega
    · exact h.inj a b (by omega) (by omega) hab
  · intro j hj
    have := h.qr j hj
    unfold Ytlkfabejecgfgaa.addE; simp only [List.length_append, List.length_cons, List.length_nil]; omega
  · intro k j hj
    have := h.fr k j hj
    unfold Ytlkfabejecgfgaa.addE; simp only [List.length_append, List.length_cons, List.length_nil]; omega
  · intro j e' hj
    unfold Ytlkfabejecgfgaa.addE at hj
    simp only [] at hj
    by_cases c : j < x.ent.length
    · rw [List.getElem?_append_left c] at hj
      exact h.wk j e' hj
    · have hj' : j = x.ent.length := by
        have := lt_of_get hj
        simp at this; omega
      subst hj'
      simp at hj
      subst hj
      exact he
/-- Shard i's entries lie elsewhere. -/
def Lo.with (L : Lo) (i : Nat) (ad : Nat → Nat) : Lo := { L with ads := fun a => if a = i then ad else L.ads a }
theorem Ca.shard2 {w w' : World} {L : Lo} {s : Cs} (h : Ca w L s) (c : Ci s) {i : Nat} {x x' : Xs} {rc rc' : List Value} {ad : Nat → Nat} (hi : s.xs[i]? = some x) (hrc : ∀ (i : Nat) (x : Xs), s.xs[i]? = some x → Sm w L.rb (i * 7) (L.mbs i) rc (L.ads i) x) (hrl : rc.length = s.xs.length * 7)
    (S' : Sm w' L.rb (i * 7) (L.mbs i) rc' ad x') (had : ∀ j, j < x.ent.length → ad j = L.ads i j) (hnew : ∀ j, j < x'.ent.length → j < x.ent.length ∨ w.heap.size ≤ ad j) (hK : Kp (i * 7) rc rc') (hU : Upd (Sb L.rb (L.mbs i) (L.ads i) x.ent.length) w w') :
    Ca w' (L.with i ad) { s with xs := s.xs.set i x' } := by
  have hil := (List.getElem?_eq_some_iff.1 hi).1
  have hsame : ∀ a, a ≠ i → (L.with i ad).ads a = L.ads a := fun a ha => by unfold Lo.with; simp only [if_neg ha]
  have hat : (L.with i ad).ads i = ad := by unfold Lo.with; simp
  refine ⟨?_, ⟨rc', by rw [hK.1, hrl]; simp, ?_⟩, ?_, ?_, ?_, ?_⟩
  · have := h.blk.upd hU (fun hk => (h.ne1 hi hk).1 rfl)
    unfold caC at this ⊢
    simpa [Lo.with] using this
  · intro i' y hy
    simp only [xget hi] at hy
    by_cases cc : i' = i
    · subst cc
      rw [if_pos rfl] at hy
      cases hy
      rw [hat]
      exact S'
    · rw [if_neg cc] at hy
      rw [hsame i' cc]
      have S := hrc i' y hy
      have hil' := (List.getElem?_eq_some_iff.1 hy).1
      obtain ⟨D, hD, hs⟩ := S.map
      refine ⟨S'.row, ?_, ⟨D, hD.upd hU ?_, hs⟩, S.ent.upd hU ?_, S.inj, S.nd, S.qr, S.fr, S.ub, S.pb, S.wk⟩
      · intro j v hv
        have hj : j < 7 := by
          have := (List.getElem?_eq_some_iff.1 hv).1
          simpa [shC] using this
        rw [hK.2 _ (by omega)]
        exact S.cel j v hv
      · rintro (e | e | ⟨j, hj, e⟩)
        · exact cc (h.mm _ _ hil' hil e)
        · exact hD.ne S.row e
        · exact hD.ne ((hrc i x hi).ent j _ (List.getElem?_eq_getElem hj)) e
      · rintro j hj (e | e | ⟨j', hj', e⟩)
        · obtain ⟨D', hD', _⟩ := (hrc i x hi).map
          exact hD'.ne (S.ent j _ (List.getElem?_eq_getElem hj)) e.symm
        · exact (S.ent.rb S.row hj) e.symm
        · exact h.aa i' i y x j j' hy hi hj hj' cc e
  · obtain ⟨D, hD, hs⟩ := h.pin
    refine ⟨D, ?_, hs⟩
    have e1 : (fun k => (({ s with xs := s.xs.set i x' } : Cs).pin k).map (fun ij => (L.with i ad).ads ij.1 ij.2)) = fun k => (s.pin k).map (fun ij => L.ads ij.1 ij.2) := by
      funext k
      have e2 : ({ s with xs := s.xs.set i x' } : Cs).pin k = s.pin k := rfl
      rw [e2]
      cases hp : s.pin k with
      | none => rfl
      | some ij =>
        obtain ⟨a, b⟩ := ij
        simp only [Option.map_some]
        by_cases cc : a = i
        · subst cc
          obtain ⟨y, hy, hb⟩ := c.pr a b (List.mem_of_getElem? (pin_I64 hp).2.2)
          rw [hi] at hy; cases hy
          rw [hat, had b hb]
        · rw [hsame a cc]
    rw [e1]
    exact hD.upd hU (fun hk => (h.ne1 hi hk).2 rfl)
  · simpa [Lo.with] using h.mm
  · simpa [Lo.with] using h.mp
  · have hold : ∀ (a : Nat) (y : Xs) (j : Nat), a ≠ i → s.xs[a]? = some y → j < y.ent.length → L.ads a j < w.heap.size := fun a y j _ hy hj => ((hrc a y hy).ent j _ (List.getElem?_eq_getElem hj)).lt
    have main : ∀ (a : Nat) (y : Xs) (j j' : Nat), a ≠ i → s.xs[a]? = some y → j < y.ent.length → j' < x'.ent.length → L.ads a j ≠ ad j' := by
      intro a y j j' ha hy hj hj'
      rcases hnew j' hj' with h1 | h1
      · rw [had j' h1]; exact h.aa a i y x j j' hy hi hj h1 ha
      · have := hold a y j ha hy hj; omega
    intro a b y z j j' ha hb hj hj' hab
    simp only [xget hi] at ha hb
    by_cases ca : a = i
    · subst ca
      rw [if_pos rfl] at ha
      cases ha
      rw [if_neg (Ne.symm hab)] at hb
      rw [hat, hsame b (Ne.symm hab)]
      exact (main b z j' j (Ne.symm hab) hb hj' hj).symm
    · rw [if_neg ca] at ha
      rw [hsame a ca]
      by_cases cb : b = i
      · subst cb
        rw [if_pos rfl] at hb
        cases hb
        rw [hat]
        exact main a y j j' ca ha hj hj'
      · rw [if_neg cb] at hb
        rw [hsame b cb]
        exact h.aa a b y z j j' ha hb hj hj' hab
end Go.Proofs.Ytlkfabejecgfgaa
