/-
  Mathematics: the greatest number over a key, out of fragments and out of tombstones.
-/
import Derived.Test.YtagnnocecfoggaaSm
namespace Go.Proofs.Ytagnnocecfoggaa
set_option linter.unusedVariables false
set_option linter.unusedSimpArgs false
/-- How many places are ahead of the first that holds. -/
theorem cnt_range (p : Nat → Bool) : ∀ n, (∀ a b, a ≤ b → b < n → p a = true → p b = true) → (List.range n).countP (fun i => !p i) ≤ n ∧ (∀ i, i < (List.range n).countP (fun i => !p i) → p i = false) ∧ ∀ i, (List.range n).countP (fun i => !p i) ≤ i → i < n → p i = true := by
  intro n
  induction n with
  | zero => intro _; simp
  | succ n ih =>
    intro hm
    obtain ⟨h1, h2, h3⟩ := ih (fun a b hab hb => hm a b hab (by omega))
    rw [List.range_succ, List.countP_append]
    cases hp : p n
    · have hc : (List.range n).countP (fun i => !p i) = n := by
        rcases Nat.lt_or_ge ((List.range n).countP (fun i => !p i)) n with hlt | hge
        · have e1 := h3 _ (Nat.le_refl _) hlt
          have e2 := hm _ n (Nat.le_of_lt hlt) (by omega) e1
          rw [hp] at e2; cases e2
        · omega
      rw [hc] at h2 ⊢
      simp only [List.countP_cons, List.countP_nil, hp, Bool.not_false, if_true]
      refine ⟨by omega, fun i hi => ?_, fun i h hi => by omega⟩
      by_cases e : i = n
      · subst e; exact hp
      · exact h2 i (by omega)
    · simp only [List.countP_cons, List.countP_nil, hp, Bool.not_true, Bool.false_eq_true, if_false, Nat.add_zero]
      refine ⟨by omega, h2, fun i h hi => ?_⟩
      by_cases e : i = n
      · subst e; exact hp
      · exact h3 i h (by omega)
/-- The first place at which it holds, as find? tells it. -/
theorem find_at {α : Type} (l : List α) (q : α → Bool) (c : Nat) (h1 : ∀ i x, i < c → l[i]? = some x → q x = false) (h2 : ∀ x, l[c]? = some x → q x = true) : l.find? q = l[c]? := by
  induction l generalizing c with
  | nil => simp
  | cons a l ih =>
    cases c with
    | zero => have := h2 a rfl; simp [List.find?_cons, this]
    | succ c =>
      have := h1 0 a (by omega) rfl
      rw [List.find?_cons, this]
      simpa using ih c (fun i x hi hx => h1 (i + 1) x (by omega) (by simpa using hx)) (fun x hx => h2 x (by simpa using hx))
/-- The greatest of falling numbers that is at most n. -/
def mostQ (q : List Int) (n : Int) : Int := (q.find? (fun x => decide (x ≤ n))).getD 0
def mostF (how : Int) (L : List Fg) (k : ByteArray) (n : Int) : Int := match L.find? (fun f => kl how k f.e) with
  | none => 0
  | some f => if kl how k f.b = true then 0 else mostQ f.q n
def refMost (how : Int) (l : List Tm) (k : ByteArray) (n : Int) : Int := l.foldl (fun m t => if ovr how t k = true ∧ t.s ≤ n ∧ m < t.s then t.s else m) 0
/-- What the greatest is. -/
structure IsMost (P : Int → Prop) (n m : Int) : Prop where
  is : m = 0 ∨ (P m ∧ m ≤ n)
  nn : 0 ≤ m
  ge : ∀ s, P s → s ≤ n → s ≤ m
theorem IsMost.unique {P : Int → Prop} {n m m' : Int} (h : IsMost P n m) (h' : IsMost P n m') : m = m' := by
  have a : m ≤ m' := by
    rcases h.is with e | ⟨e1, e2⟩
    · have := h'.nn; omega
    · exact h'.ge m e1 e2
  have b : m' ≤ m := by
    rcases h'.is with e | ⟨e1, e2⟩
    · have := h.nn; omega
    · exact h.ge m' e1 e2
  omega
theorem mostQ_is {q : List Int} (hq : Str gt q) (hnn : ∀ x ∈ q, 0 ≤ x) (n : Int) : IsMost (fun s => s ∈ q) n (mostQ q n) := by
  unfold mostQ
  induction q with
  | nil => exact ⟨.inl rfl, by simp, fun s hs => by simp at hs⟩
  | cons x q ih =>
    rw [Str, List.pairwise_cons] at hq
    by_cases hx : x ≤ n
    · simp only [List.find?_cons, hx, decide_true, Option.getD_some]
      refine ⟨.inr ⟨by simp, hx⟩, hnn x (by simp), fun s hs _ => ?_⟩
      rw [List.mem_cons] at hs
      rcases hs with rfl | hs
      · omega
      · have := hq.1 s hs; simp [gt] at this; omega
    · simp only [List.find?_cons, hx, decide_false]
      have := ih hq.2 (fun y hy => hnn y (by simp [hy]))
      refine ⟨?_, this.nn, fun s hs hn => ?_⟩
      · rcases this.is with e | ⟨e1, e2⟩
        · exact .inl e
        · exact .inr ⟨by simp [e1], e2⟩
      · rw [List.mem_cons] at hs
        rcases hs with rfl | hs
        · omega
        · exact this.ge s hs hn
theorem refMost_is {how : Int} {l : List Tm} (hnn : ∀ t ∈ l, 0 ≤ t.s) (k : ByteArray) (n : Int) : IsMost (fun s => ∃ t ∈ l, ovr how t k = true ∧ s = t.s) n (refMost how l k n) := by
  have H : ∀ (l : List Tm) (m0 : Int) (P : Int → Prop), (∀ t ∈ l, 0 ≤ t.s) → IsMost P n m0 → IsMost (fun s => P s ∨ ∃ t ∈ l, ovr how t k = true ∧ s = t.s) n (l.foldl (fun m t => if ovr how t k = true ∧ t.s ≤ n ∧ m < t.s then t.s else m) m0) := by
    intro l
    induction l with
    | nil => intro m0 P _ h; simpa using h
    | cons t l ih =>
      intro m0 P hn h
      rw [List.foldl_cons]
      have h1 : IsMost (fun s => P s ∨ (ovr how t k = true ∧ s = t.s)) n (if ovr how t k = true ∧ t.s ≤ n ∧ m0 < t.s then t.s else m0) := by
        split
        · rename_i hc
          refine ⟨.inr ⟨.inr ⟨hc.1, rfl⟩, hc.2.1⟩, hn t (by simp), fun s hs hsn => ?_⟩
          rcases hs with hs | ⟨_, rfl⟩
          · have := h.ge s hs hsn; omega
          · omega
        · rename_i hc
          refine ⟨?_, h.nn, fun s hs hsn => ?_⟩
          · rcases h.is with e | ⟨e1, e2⟩
            · exact .inl e
            · exact .inr ⟨.inl e1, e2⟩
          · rcases hs with hs | ⟨ho, rfl⟩
            · exact h.ge s hs hsn
            · rcases Int.lt_or_le m0 t.s with h1 | h1
              · exact absurd ⟨ho, hsn, h1⟩ hc
              · omega
      have h2 := ih _ _ (fun u hu => hn u (by simp [hu])) h1
      have e : (fun s => (P s ∨ (ovr how t k = true ∧ s = t.s)) ∨ ∃ u ∈ l, ovr how u k = true ∧ s = u.s) = (fun s => P s ∨ ∃ u ∈ t :: l, ovr how u k = true ∧ s = u.s) := by
        funext s
        simp only [List.mem_cons, exists_eq_or_imp, eq_iff_iff, or_assoc]
      rw [e] at h2
      exact h2
  have := H l 0 (fun _ => False) hnn ⟨.inl rfl, by omega, fun s hs => hs.elim⟩
  simpa [refMost] using this
/-- The first fragment that ends behind a key is the one over it, if there is one. -/
theorem find_over {how : Int} {l : List Tm} {L : List Fg} (h : Frs how l L) (k : ByteArray) : (∃ f, L.find? (fun f => kl how k f.e) = some f ∧ f ∈ L ∧ kle how f.b k = true ∧ kl how k f.e = true ∧ f.q = seqsAt how l k) ∨ (seqsAt how l k = [] ∧ ∀ f, L.find? (fun f => kl how k f.e) = some f → kl how k f.b = true) := by
  cases hf : L.find? (fun f => kl how k f.e) with
  | none =>
    right
    refine ⟨?_, by simp⟩
    by_cases hs : seqsAt how l k = []
    · exact hs
    · obtain ⟨g, hg, _, g2⟩ := h.has k hs
      have := List.find?_eq_none.1 hf g hg
      simp [g2] at this
  | some f =>
    have hm := List.mem_of_find?_eq_some hf
    have he : kl how k f.e = true := by have := List.find?_some hf; simpa using this
    rcases kle_or (how := how) f.b k with hb | hb
    · left; exact ⟨f, rfl, hm, hb, he, h.at_ f hm k hb he⟩
    · right
      refine ⟨?_, fun g hg => by cases hg; exact hb⟩
      by_cases hs : seqsAt how l k = []
      · exact hs
      · exfalso
        obtain ⟨g, hg, g1, g2⟩ := h.has k hs
        rw [List.find?_eq_some_iff_append] at hf
        obtain ⟨_, as, bs, rfl, hno⟩ := hf
        simp only [List.mem_append, List.mem_cons] at hg
        rcases hg with hg | rfl | hg
        · have := hno g hg; simp [g2] at this
        · have := kle_kl g1 hb; rw [(kl_sto how).irr] at this; cases this
        · have hup := (List.pairwise_append.1 h.up).2.1
          have h3 := (List.pairwise_cons.1 hup).1 g hg
          have h4 := kl_kle he (kle_tr h3 g1)
          rw [(kl_sto how).irr] at h4; cases h4
theorem mostF_ref {how : Int} {l : List Tm} {L : List Fg} (h : Frs how l L) (hnn : ∀ t ∈ l, 0 ≤ t.s) (k : ByteArray) (n : Int) : mostF how L k n = refMost how l k n := by
  obtain ⟨s1, s2⟩ := seqsAt_facts how l k
  have hR := refMost_is (how := how) hnn k n
  have hq : ∀ x ∈ seqsAt how l k, 0 ≤ x := fun x hx => by obtain ⟨t, ht, _, rfl⟩ := (s2 x).1 hx; exact hnn t ht
  have hM := mostQ_is s1 hq n
  have e : (fun s => s ∈ seqsAt how l k) = (fun s => ∃ t ∈ l, ovr how t k = true ∧ s = t.s) := by funext s; rw [s2 s]
  rw [e] at hM
  rw [hR.unique hM]
  unfold mostF
  rcases find_over h k with ⟨f, hf, _, hb, _, hqq⟩ | ⟨h0, hf⟩
  · rw [hf]
    have : kl how k f.b = false := by simpa [kle] using hb
    simp [this, hqq]
  · rw [h0]
    cases hg : L.find? (fun f => kl how k f.e) with
    | none => rfl
    | some f => simp [hf f hg, mostQ]
theorem refMost_app {how : Int} {a b : List Tm} (ha : ∀ t ∈ a, 0 ≤ t.s) (hb : ∀ t ∈ b, 0 ≤ t.s) (k : ByteArray) (n : Int) : refMost how (a ++ b) k n = if refMost how b k n > refMost how a k n then refMost how b k n else refMost how a k n := by
  have hA := refMost_is (how := how) ha k n
  have hB := refMost_is (how := how) hb k n
  refine (refMost_is (how := how) (l := a ++ b) (fun t ht => ?_) k n).unique ?_
  · rw [List.mem_append] at ht
    rcases ht with ht | ht
    · exact ha t ht
    · exact hb t ht
  · have hnn1 := hA.nn
    have hnn2 := hB.nn
    have hge : ∀ s, (∃ t ∈ a ++ b, ovr how t k = true ∧ s = t.s) → s ≤ n → s ≤ refMost how a k n ∨ s ≤ refMost how b k n := by
      rintro s ⟨t, ht, ho, e⟩ hn
      rw [List.mem_append] at ht
      rcases ht with ht | ht
      · exact .inl (hA.ge s ⟨t, ht, ho, e⟩ hn)
      · exact .inr (hB.ge s ⟨t, ht, ho, e⟩ hn)
    split
    · refine ⟨?_, hnn2, fun s hs hn => by have := hge s hs hn; omega⟩
      rcases hB.is with e | ⟨⟨t, ht, ho⟩, e2⟩
      · exact .inl e
      · exact .inr ⟨⟨t, by simp [ht], ho⟩, e2⟩
    · refine ⟨?_, hnn1, fun s hs hn => by have := hge s hs hn; omega⟩
      rcases hA.is with e | ⟨⟨t, ht, ho⟩, e2⟩
      · exact .inl e
      · exact .inr ⟨⟨t, by simp [ht], ho⟩, e2⟩
/-- Whether fragments lie without a gap from b up to e. -/
def wholeF (how : Int) (e : ByteArray) (below n : Int) : List Fg → ByteArray → Bool
  | [], b => kle how e b
  | f :: L, b => if kle how e b = true then true else if kl how b f.b = true ∨ mostQ f.q n ≤ below then false else wholeF how e below n L f.e
/-- The first that ends behind a key. -/
def reachN (how : Int) (L : List Fg) (k : ByteArray) : Nat := (List.range L.length).countP (fun i => !(match L[i]? with | some f => kl how k f.e | none => true))
end Go.Proofs.Ytagnnocecfoggaa
