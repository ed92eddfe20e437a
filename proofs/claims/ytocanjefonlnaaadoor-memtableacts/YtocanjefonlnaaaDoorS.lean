import Derived.Test.YtocanjefonlnaaaDoorA
namespace Go.Proofs.YtocanjefonlnaaaDoor
set_option linter.unusedVariables false
set_option linter.unusedSimpArgs false
/-- An entry. -/
structure Ent where
  u : ByteArray
  s : Int
  k : Int
  v : ByteArray
/-- A node: its block, the block of its links, its entry, how high it is, when it was born. -/
structure Nd where
  b : Nat
  x : Nat
  e : Ent
  h : Nat
  born : Int
/-- The first node that reaches level j. -/
def nxt (l : List Nd) (j : Nat) : Option Nd := l.find? (fun n => decide (j < n.h))
/-- The node of a place: place 0 is ahead of all. -/
def atq (L : List Nd) : Nat → Option Nd
  | 0 => none
  | q + 1 => L[q]?
/-- The last place up to p that reaches level j. -/
def pq (L : List Nd) (j : Nat) : Nat → Nat
  | 0 => 0
  | p + 1 => match L[p]? with
    | some n => if j < n.h then p + 1 else pq L j p
    | none => pq L j p
/-- A place reaches level j. -/
def Rch (L : List Nd) (q j : Nat) : Prop := q = 0 ∨ ∃ n, 0 < q ∧ L[q - 1]? = some n ∧ j < n.h
theorem pq_le (L : List Nd) (j : Nat) : ∀ p, pq L j p ≤ p
  | 0 => Nat.le_refl 0
  | p + 1 => by
    have ih := pq_le L j p
    unfold pq
    split
    · split <;> omega
    · omega
theorem pq_rch (L : List Nd) (j : Nat) : ∀ p, Rch L (pq L j p) j
  | 0 => .inl rfl
  | p + 1 => by
    have ih := pq_rch L j p
    unfold pq
    split
    · next n hn =>
      split
      · next h => exact .inr ⟨n, by omega, by simpa using hn, h⟩
      · exact ih
    · exact ih
theorem pq_btw (L : List Nd) (j : Nat) : ∀ p i, pq L j p ≤ i → i < p → ∀ n, L[i]? = some n → n.h ≤ j
  | 0, i, _, h, _, _ => by omega
  | p + 1, i, h1, h2, n, hn => by
    have ih := pq_btw L j p i
    unfold pq at h1
    split at h1
    · next m hm =>
      split at h1
      · omega
      · next hh =>
        by_cases e : i = p
        · subst e; rw [hm] at hn; cases hn; omega
        · exact ih h1 (by omega) n hn
    · next hm =>
      by_cases e : i = p
      · subst e; rw [hm] at hn; cases hn
      · exact ih h1 (by omega) n hn
theorem pq_uniq (L : List Nd) (j p q : Nat) (hq : q ≤ p) (hr : Rch L q j) (hb : ∀ i, q ≤ i → i < p → ∀ n, L[i]? = some n → n.h ≤ j) : q = pq L j p := by
  have h1 := pq_le L j p
  have h2 := pq_rch L j p
  have h3 := pq_btw L j p
  rcases Nat.lt_trichotomy q (pq L j p) with h | h | h
  · rcases h2 with h2 | ⟨n, h4, h5, h6⟩
    · omega
    · have := hb (pq L j p - 1) (by omega) (by omega) n h5; omega
  · exact h
  · rcases hr with hr | ⟨n, h4, h5, h6⟩
    · omega
    · have := h3 (q - 1) (by omega) (by omega) n h5; omega
theorem pq_zero (L : List Nd) (p : Nat) (hp : p ≤ L.length) (hh : ∀ n ∈ L, 1 ≤ n.h) : pq L 0 p = p := by
  refine (pq_uniq L 0 p p (Nat.le_refl _) ?_ (fun i h1 h2 => by omega)).symm
  rcases Nat.eq_zero_or_pos p with h | h
  · exact .inl h
  · have hl : p - 1 < L.length := by omega
    exact .inr ⟨L[p - 1], h, List.getElem?_eq_getElem hl, hh _ (List.getElem_mem hl)⟩
theorem nxt_cons (n : Nd) (l : List Nd) (j : Nat) : nxt (n :: l) j = if j < n.h then some n else nxt l j := by
  unfold nxt; rw [List.find?_cons]; by_cases h : j < n.h <;> simp [h]
theorem drop_cons {L : List Nd} {q : Nat} {n : Nd} (h : L[q]? = some n) : L.drop q = n :: L.drop (q + 1) := by
  obtain ⟨hq, rfl⟩ := List.getElem?_eq_some_iff.1 h
  exact List.drop_eq_getElem_cons hq
theorem nxt_some (L : List Nd) (j : Nat) (n : Nd) : ∀ d q, L.length - q = d → nxt (L.drop q) j = some n → ∃ i, q ≤ i ∧ L[i]? = some n ∧ j < n.h ∧ ∀ i', q ≤ i' → i' < i → ∀ m, L[i']? = some m → m.h ≤ j
  | 0, q, hd, h => by
    rw [List.drop_eq_nil_of_le (by omega)] at h
    cases h
  | d + 1, q, hd, h => by
    have hq : q < L.length := by omega
    have hc := drop_cons (List.getElem?_eq_getElem hq)
    rw [hc, nxt_cons] at h
    split at h
    · next hh => cases h; exact ⟨q, Nat.le_refl _, List.getElem?_eq_getElem hq, hh, fun i' h1 h2 => by omega⟩
    · next hh =>
      obtain ⟨i, h1, h2, h3, h4⟩ := nxt_some L j n d (q + 1) (by omega) h
      refine ⟨i, by omega, h2, h3, fun i' h5 h6 m hm => ?_⟩
      by_cases e : i' = q
      · subst e; rw [List.getElem?_eq_getElem hq] at hm; cases hm; omega
      · exact h4 i' (by omega) h6 m hm
theorem nxt_none (L : List Nd) (j q : Nat) (h : nxt (L.drop q) j = none) (i : Nat) (hi : q ≤ i) (m : Nd) (hm : L[i]? = some m) : m.h ≤ j := by
  unfold nxt at h
  rw [List.find?_eq_none] at h
  have : m ∈ L.drop q := by
    rw [List.mem_iff_getElem?]
    exact ⟨i - q, by rw [List.getElem?_drop, show q + (i - q) = i by omega]; exact hm⟩
  have := h m this
  simpa using this
theorem nxt_skip (L : List Nd) (j p : Nat) : ∀ d q, p - q = d → q ≤ p → (∀ i, q ≤ i → i < p → ∀ n, L[i]? = some n → n.h ≤ j) → nxt (L.drop q) j = nxt (L.drop p) j
  | 0, q, hd, hq, _ => by rw [show q = p by omega]
  | d + 1, q, hd, hq, hb => by
    have ih := nxt_skip L j p d (q + 1) (by omega) (by omega) (fun i h1 h2 => hb i (by omega) h2)
    cases e : L[q]? with
    | none =>
      have : L.length ≤ q := List.getElem?_eq_none_iff.1 e
      rw [List.drop_eq_nil_of_le this, List.drop_eq_nil_of_le (by omega)]
    | some n =>
      rw [drop_cons e, nxt_cons, if_neg (by have := hb q (Nat.le_refl _) (by omega) n e; omega), ih]
def ins (L : List Nd) (p : Nat) (n : Nd) : List Nd := L.take p ++ n :: L.drop p
theorem ins_lo (L : List Nd) (p : Nat) (n : Nd) (hp : p ≤ L.length) (i : Nat) (hi : i < p) : (ins L p n)[i]? = L[i]? := by
  unfold ins
  rw [List.getElem?_append_left (by simp; omega), List.getElem?_take_of_lt hi]
theorem ins_at (L : List Nd) (p : Nat) (n : Nd) (hp : p ≤ L.length) : (ins L p n)[p]? = some n := by
  unfold ins
  rw [List.getElem?_append_right (by simp; omega)]
  simp [Nat.min_eq_left hp]
theorem ins_hi (L : List Nd) (p : Nat) (n : Nd) (hp : p ≤ L.length) (i : Nat) (hi : p ≤ i) : (ins L p n)[i + 1]? = L[i]? := by
  unfold ins
  rw [List.getElem?_append_right (by simp; omega)]
  simp only [List.length_take, Nat.min_eq_left hp]
  rw [show i + 1 - p = (i - p) + 1 by omega, List.getElem?_cons_succ, List.getElem?_drop, show p + (i - p) = i by omega]
theorem ins_len (L : List Nd) (p : Nat) (n : Nd) (hp : p ≤ L.length) : (ins L p n).length = L.length + 1 := by
  unfold ins; simp; omega
theorem ins_dropn (L : List Nd) (p : Nat) (n : Nd) (hp : p ≤ L.length) (i : Nat) (hi : p ≤ i) : (ins L p n).drop (i + 1) = L.drop i := by
  apply List.ext_getElem?
  intro k
  rw [List.getElem?_drop, List.getElem?_drop, show i + 1 + k = (i + k) + 1 by omega, ins_hi L p n hp _ (by omega)]
theorem nxt_ins (L : List Nd) (p : Nat) (n : Nd) (hp : p ≤ L.length) (j i : Nat) (hi : i ≤ p) (hr : Rch L i j) :
    nxt ((ins L p n).drop i) j = if j < n.h ∧ i = pq L j p then some n else nxt (L.drop i) j := by
  by_cases hq : i = pq L j p
  · have hb := pq_btw L j p
    rw [← hq] at hb
    have h1 : nxt ((ins L p n).drop i) j = nxt ((ins L p n).drop p) j := nxt_skip _ j p (p - i) i rfl hi (fun k h1 h2 m hm => by
      rw [ins_lo L p n hp k h2] at hm; exact hb k h1 h2 m hm)
    have h2 : nxt (L.drop i) j = nxt (L.drop p) j := nxt_skip _ j p (p - i) i rfl hi hb
    rw [h1, h2, drop_cons (ins_at L p n hp), nxt_cons, ins_dropn L p n hp p (Nat.le_refl _)]
    by_cases hh : j < n.h
    · rw [if_pos hh, if_pos ⟨hh, hq⟩]
    · rw [if_neg hh, if_neg (fun x => hh x.1)]
  · rw [if_neg (fun x => hq x.2)]
    have hne : ¬ ∀ k, i ≤ k → k < p → ∀ m, L[k]? = some m → m.h ≤ j := fun hb => hq (pq_uniq L j p i hi hr hb)
    cases e : nxt (L.drop i) j with
    | none => exact absurd (fun k h1 h2 m hm => nxt_none L j i e k h1 m hm) hne
    | some m =>
      obtain ⟨k, h1, h2, h3, h4⟩ := nxt_some L j m _ i rfl e
      have hk : k < p := by
        rcases Nat.lt_or_ge k p with h | h
        · exact h
        · exact absurd (fun k' h5 h6 m' hm' => h4 k' h5 (by omega) m' hm') hne
      have : nxt ((ins L p n).drop i) j = nxt ((ins L p n).drop k) j := nxt_skip _ j k (k - i) i rfl h1 (fun k' h5 h6 m' hm' => by
        rw [ins_lo L p n hp k' (by omega)] at hm'; exact h4 k' h5 h6 m' hm')
      rw [this, drop_cons ((ins_lo L p n hp k hk).trans h2), nxt_cons, if_pos h3]
theorem atq_lo (L : List Nd) (p : Nat) (n : Nd) (hp : p ≤ L.length) (i : Nat) (hi : i ≤ p) : atq (ins L p n) i = atq L i := by
  cases i with
  | zero => rfl
  | succ i => exact ins_lo L p n hp i (by omega)
theorem atq_at (L : List Nd) (p : Nat) (n : Nd) (hp : p ≤ L.length) : atq (ins L p n) (p + 1) = some n := ins_at L p n hp
theorem atq_hi (L : List Nd) (p : Nat) (n : Nd) (hp : p ≤ L.length) (i : Nat) (hi : p < i) : atq (ins L p n) (i + 1) = atq L i := by
  cases i with
  | zero => omega
  | succ i => exact ins_hi L p n hp i (by omega)
end Go.Proofs.YtocanjefonlnaaaDoor
