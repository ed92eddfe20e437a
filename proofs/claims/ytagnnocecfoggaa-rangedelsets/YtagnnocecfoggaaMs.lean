/-
  Mathematics: fragments joined and split again are themselves; how many numbers fragments have.
-/
import Derived.Test.YtagnnocecfoggaaJe
namespace Go.Proofs.Ytagnnocecfoggaa
set_option linter.unusedVariables false
set_option linter.unusedSimpArgs false
theorem pair_ext {α : Type} {R : α → α → Prop} (irr : ∀ a, ¬ R a a) (asy : ∀ a b, R a b → ¬ R b a) : ∀ (l1 l2 : List α), l1.Pairwise R → l2.Pairwise R → (∀ x, x ∈ l1 ↔ x ∈ l2) → l1 = l2 := by
  intro l1
  induction l1 with
  | nil =>
    intro l2 _ _ hh
    cases l2 with
    | nil => rfl
    | cons y l2 => have := (hh y).2 (by simp); simp at this
  | cons x l1 ih =>
    intro l2 h1 h2 hh
    cases l2 with
    | nil => have := (hh x).1 (by simp); simp at this
    | cons y l2 =>
      rw [List.pairwise_cons] at h1 h2
      have exy : x = y := by
        have a := (hh x).1 (by simp)
        have b := (hh y).2 (by simp)
        simp only [List.mem_cons] at a b
        rcases a with a | a
        · exact a
        · rcases b with b | b
          · exact b.symm
          · exact absurd (h2.1 x a) (asy _ _ (h1.1 y b))
      subst exy
      rw [ih l2 h1.2 h2.2 (fun z => ?_)]
      constructor
      · intro hz
        have := (hh z).1 (by simp [hz])
        simp only [List.mem_cons] at this
        rcases this with e | this
        · have := h1.1 z hz; rw [e] at this; exact absurd this (irr _)
        · exact this
      · intro hz
        have := (hh z).2 (by simp [hz])
        simp only [List.mem_cons] at this
        rcases this with e | this
        · have := h2.1 z hz; rw [e] at this; exact absurd this (irr _)
        · exact this
theorem jnT_mem {L : List Fg} {t : Tm} : t ∈ jnT L ↔ ∃ f ∈ L, t.b = f.b ∧ t.e = f.e ∧ t.s ∈ f.q := by
  simp only [jnT, List.mem_flatMap, List.mem_map]
  constructor
  · rintro ⟨f, hf, s, hs, rfl⟩; exact ⟨f, hf, rfl, rfl, hs⟩
  · rintro ⟨f, hf, h1, h2, h3⟩
    refine ⟨f, hf, t.s, h3, ?_⟩
    cases t; simp at h1 h2; subst h1 h2; rfl
/-- Fragments that do not overlap. -/
theorem fro_apart {how : Int} {L : List Fg} (h : FrO how L) {f g : Fg} (hf : f ∈ L) (hg : g ∈ L) {k : ByteArray} (f1 : kle how f.b k = true) (f2 : kl how k f.e = true) (g1 : kle how g.b k = true) (g2 : kl how k g.e = true) : f = g := by
  obtain ⟨i, hi, rfl⟩ := List.getElem_of_mem hf
  obtain ⟨j, hj, rfl⟩ := List.getElem_of_mem hg
  rcases Nat.lt_trichotomy i j with hij | hij | hij
  · have := List.pairwise_iff_getElem.1 h.up i j hi hj hij
    have := kl_kle f2 (kle_tr this g1)
    rw [(kl_sto how).irr] at this; cases this
  · subst hij; rfl
  · have := List.pairwise_iff_getElem.1 h.up j i hj hi hij
    have := kl_kle g2 (kle_tr this f1)
    rw [(kl_sto how).irr] at this; cases this
theorem frs_again {how : Int} {L : List Fg} (h : FrO how L) (hne : ∀ f ∈ L, f.q ≠ []) (hfa : ∀ f ∈ L, Str gt f.q) : frs how (jnT L) = L := by
  obtain ⟨ks, km⟩ := keysOf_facts how (jnT L)
  have km' : ∀ z, z ∈ keysOf how (jnT L) ↔ ∃ f ∈ L, z = f.b ∨ z = f.e := by
    intro z
    rw [km z]
    constructor
    · rintro ⟨t, ht, _, hz⟩
      obtain ⟨f, hf, e1, e2, _⟩ := jnT_mem.1 ht
      exact ⟨f, hf, by rw [← e1, ← e2]; exact hz⟩
    · rintro ⟨f, hf, hz⟩
      obtain ⟨s, hs⟩ := List.exists_mem_of_ne_nil _ (hne f hf)
      exact ⟨⟨f.b, f.e, s⟩, jnT_mem.2 ⟨f, hf, rfl, rfl, hs⟩, h.be f hf, hz⟩
  have only : ∀ g ∈ L, ∀ z ∈ keysOf how (jnT L), kle how g.b z = true → kl how z g.e = true → z = g.b := by
    intro g hg z hz z1 z2
    obtain ⟨f, hf, e | e⟩ := (km' z).1 hz
    · have := fro_apart h hf hg (k := z) (by rw [e]; exact kle_rfl) (by rw [e]; exact h.be f hf) z1 z2
      rw [e, this]
    · obtain ⟨i, hi, rfl⟩ := List.getElem_of_mem hf
      obtain ⟨j, hj, rfl⟩ := List.getElem_of_mem hg
      rcases Nat.lt_trichotomy i j with hij | hij | hij
      · have h1 := List.pairwise_iff_getElem.1 h.up i j hi hj hij
        rw [← e] at h1
        exact (kl_sto how).tri _ _ (by simpa [kle] using z1) (by simpa [kle] using h1)
      · exfalso; subst hij; rw [e, (kl_sto how).irr] at z2; cases z2
      · exfalso
        have h1 := List.pairwise_iff_getElem.1 h.up j i hj hi hij
        have h2 := kl_kle z2 (kle_tr h1 (kl_le (h.be _ (List.getElem_mem hi))))
        rw [e, (kl_sto how).irr] at h2; cases h2
  have seqs : ∀ g ∈ L, seqsAt how (jnT L) g.b = g.q := by
    intro g hg
    obtain ⟨s1, s2⟩ := seqsAt_facts how (jnT L) g.b
    refine strict_ext gt_sto _ _ s1 (hfa g hg) fun z => ?_
    rw [s2 z]
    constructor
    · rintro ⟨t, ht, ho, rfl⟩
      obtain ⟨f, hf, e1, e2, e3⟩ := jnT_mem.1 ht
      simp only [ovr, Bool.and_eq_true, e1, e2] at ho
      have := fro_apart h hf hg ho.1 ho.2 kle_rfl (h.be g hg)
      rw [← this]; exact e3
    · intro hz
      exact ⟨⟨g.b, g.e, z⟩, jnT_mem.2 ⟨g, hg, rfl, rfl, hz⟩, by simp [ovr, kle_rfl, h.be g hg], rfl⟩
  have hbe := h.be
  have ends : ∀ g ∈ L, ∀ p ∈ pcs (keysOf how (jnT L)), p.1 = g.b → p.2 = g.e := by
    intro g hg p hp e1
    obtain ⟨q1, q2, q3, q4⟩ := pcs_none ks hp
    have h1 : kle how p.2 g.e = true := by
      rcases q4 g.e ((km' _).2 ⟨g, hg, .inr rfl⟩) with h | h
      · exfalso
        rw [e1] at h
        have := kle_kl h (hbe g hg)
        rw [(kl_sto how).irr] at this; cases this
      · exact h
    cases e2 : kl how p.2 g.e
    · exact (kl_sto how).tri _ _ e2 (by simpa [kle] using h1)
    · have := only g hg p.2 q3 (by rw [← e1]; exact kl_le q1) e2
      rw [this, ← e1, (kl_sto how).irr] at q1; cases q1
  have mem : ∀ f, f ∈ frs how (jnT L) ↔ f ∈ L := by
    intro f
    simp only [frs, List.mem_filter, List.mem_map, Bool.not_eq_true', List.isEmpty_eq_false_iff]
    constructor
    · rintro ⟨⟨p, hp, rfl⟩, hq⟩
      obtain ⟨q1, q2, q3, q4⟩ := pcs_none ks hp
      obtain ⟨z, hz⟩ := List.exists_mem_of_ne_nil _ hq
      obtain ⟨t, ht, ho, _⟩ := ((seqsAt_facts how (jnT L) p.1).2 z).1 hz
      obtain ⟨g, hg, e1, e2, _⟩ := jnT_mem.1 ht
      simp only [ovr, Bool.and_eq_true, e1, e2] at ho
      have hb := only g hg p.1 q2 ho.1 ho.2
      have he := ends g hg p hp hb
      rw [hb, he, seqs g hg]
      exact hg
    · intro hf
      have hbm := (km' f.b).2 ⟨f, hf, .inl rfl⟩
      have hem := (km' f.e).2 ⟨f, hf, .inr rfl⟩
      rcases locate ks f.b with h1 | h1 | ⟨p, hp, h1, h2⟩
      · have := h1 _ hbm; rw [(kl_sto how).irr] at this; cases this
      · have := kle_kl (h1 _ hem) (h.be f hf); rw [(kl_sto how).irr] at this; cases this
      · have hb : p.1 = f.b := by
          rcases (pcs_none ks hp).2.2.2 f.b hbm with h3 | h3
          · exact (kl_sto how).tri _ _ (by simpa [kle] using h3) (by simpa [kle] using h1)
          · have := kl_kle h2 h3; rw [(kl_sto how).irr] at this; cases this
        refine ⟨⟨p, hp, ?_⟩, hne f hf⟩
        rw [hb, ends f hf p hp hb, seqs f hf]
  refine pair_ext (R := fun f g => kl how f.b g.b = true) (fun a e => by rw [(kl_sto how).irr] at e; cases e) (fun a b e1 e2 => by rw [(kl_sto how).asym e1] at e2; cases e2) _ _ ?_ ?_ mem
  · have hF := frs_frs how (jnT L)
    rw [List.pairwise_iff_getElem]
    intro i j hi hj hij
    exact kl_kle (hF.be _ (List.getElem_mem hi)) (List.pairwise_iff_getElem.1 hF.up i j hi hj hij)
  · rw [List.pairwise_iff_getElem]
    intro i j hi hj hij
    exact kl_kle (h.be _ (List.getElem_mem hi)) (List.pairwise_iff_getElem.1 h.up i j hi hj hij)
end Go.Proofs.Ytagnnocecfoggaa
