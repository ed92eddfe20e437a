/-
  Mathematics of ranges that were deleted: lists in order, each once; fragments.
-/
import Derived.Test.YtagnnocecfoggaaMa
namespace Go.Proofs.Ytagnnocecfoggaa
set_option linter.unusedVariables false
set_option linter.unusedSimpArgs false
set_option linter.unusedSectionVars false
/-- A strict order in which any two are the same or one is ahead. -/
structure STO {α : Type} (lt : α → α → Bool) : Prop where
  irr : ∀ a, lt a a = false
  tr : ∀ a b c, lt a b = true → lt b c = true → lt a c = true
  tri : ∀ a b, lt a b = false → lt b a = false → a = b
section
variable {α : Type} [DecidableEq α] {lt : α → α → Bool}
abbrev Str (lt : α → α → Bool) (l : List α) : Prop := l.Pairwise (fun a b => lt a b = true)
theorem STO.asym (h : STO lt) {a b : α} (h1 : lt a b = true) : lt b a = false := by
  cases e : lt b a
  · rfl
  · have := h.tr _ _ _ h1 e; rw [h.irr] at this; cases this
theorem strict_ext (h : STO lt) : ∀ (l1 l2 : List α), Str lt l1 → Str lt l2 → (∀ x, x ∈ l1 ↔ x ∈ l2) → l1 = l2 := by
  intro l1
  induction l1 with
  | nil =>
    intro l2 _ _ hh
    cases l2 with
    | nil => rfl
    | cons y l2 => have := (hh y).2 (by simp); simp at this
  | cons x l1 ih =>
    intro l2 h1 h2 hh
    cases l2 with
    | nil => have := (hh x).1 (by simp); simp at this
    | cons y l2 =>
      rw [Str, List.pairwise_cons] at h1 h2
      have exy : x = y := by
        have a := (hh x).1 (by simp)
        have b := (hh y).2 (by simp)
        simp only [List.mem_cons] at a b
        rcases a with a | a
        · exact a
        · rcases b with b | b
          · exact b.symm
          · have e1 := h1.1 y b; have e2 := h2.1 x a; rw [h.asym e1] at e2; cases e2
      subst exy
      rw [ih l2 h1.2 h2.2 (fun z => ?_)]
      constructor
      · intro hz
        have := (hh z).1 (by simp [hz])
        simp only [List.mem_cons] at this
        rcases this with e | this
        · have := h1.1 z hz; rw [e, h.irr] at this; cases this
        · exact this
      · intro hz
        have := (hh z).2 (by simp [hz])
        simp only [List.mem_cons] at this
        rcases this with e | this
        · have := h2.1 z hz; rw [e, h.irr] at this; cases this
        · exact this
/-- How many are ahead of x. -/
def plc (lt : α → α → Bool) (o : List α) (x : α) : Nat := (o.takeWhile (fun y => lt y x)).length
/-- One more, in order, each once. -/
def insG (lt : α → α → Bool) (o : List α) (x : α) : List α := if o[plc lt o x]? = some x then o else o.take (plc lt o x) ++ [x] ++ o.drop (plc lt o x)
theorem plc_le (o : List α) (x : α) : plc lt o x ≤ o.length := (List.takeWhile_sublist _).length_le
theorem plc_split (o : List α) (x : α) : o.take (plc lt o x) = o.takeWhile (fun y => lt y x) ∧ o.drop (plc lt o x) = o.dropWhile (fun y => lt y x) := by
  unfold plc
  induction o with
  | nil => simp
  | cons y o ih =>
    by_cases h : lt y x = true
    · simp [List.takeWhile_cons, List.dropWhile_cons, h, ih.1, ih.2]
    · simp [List.takeWhile_cons, List.dropWhile_cons, h]
theorem insG_mem {o : List α} {x : α} (z : α) : z ∈ insG lt o x ↔ z = x ∨ z ∈ o := by
  unfold insG
  have e := List.take_append_drop (plc lt o x) o
  split
  · rename_i h
    have hm : x ∈ o := List.mem_of_getElem? h
    constructor
    · exact .inr
    · rintro (rfl | h) <;> assumption
  · have : z ∈ o ↔ z ∈ o.take (plc lt o x) ∨ z ∈ o.drop (plc lt o x) := by rw [← List.mem_append, e]
    rw [this]
    simp only [List.mem_append, List.mem_singleton]
    constructor
    · rintro ((h | h) | h)
      · exact .inr (.inl h)
      · exact .inl h
      · exact .inr (.inr h)
    · rintro (h | h | h)
      · exact .inl (.inr h)
      · exact .inl (.inl h)
      · exact .inr h
theorem drop_ge (h : STO lt) {o : List α} {x : α} (ho : Str lt o) : ∀ z ∈ o.dropWhile (fun y => lt y x), lt z x = false := by
  induction o with
  | nil => simp
  | cons y o ih =>
    rw [Str, List.pairwise_cons] at ho
    by_cases hy : lt y x = true
    · simpa [List.dropWhile_cons, hy] using ih ho.2
    · intro z hz
      simp [List.dropWhile_cons, hy] at hz
      rcases hz with rfl | hz
      · simpa using hy
      · have h1 := ho.1 z hz
        cases e : lt z x
        · rfl
        · exact absurd (h.tr _ _ _ h1 e) hy
theorem take_lt {o : List α} {x : α} : ∀ z ∈ o.takeWhile (fun y => lt y x), lt z x = true := fun z hz => by
  have := List.all_takeWhile (l := o) (p := fun y => lt y x)
  exact List.all_eq_true.1 this z hz
theorem insG_strict (h : STO lt) {o : List α} {x : α} (ho : Str lt o) : Str lt (insG lt o x) := by
  unfold insG
  split
  · exact ho
  · rename_i hx
    have e := List.take_append_drop (plc lt o x) o
    have hp := ho
    rw [← e, Str, List.pairwise_append] at hp
    obtain ⟨s1, s2⟩ := plc_split (lt := lt) o x
    have hge : ∀ z ∈ o.drop (plc lt o x), lt x z = true := fun z hz => by
      have h1 := drop_ge h ho z (s2 ▸ hz)
      cases hxz : lt x z
      · exfalso
        have exz := h.tri _ _ hxz h1
        subst exz
        cases hd : o.drop (plc lt o x) with
        | nil => rw [hd] at hz; simp at hz
        | cons y t =>
          have hy : lt y x = false := drop_ge h ho y (by rw [← s2, hd]; simp)
          have hh : o[plc lt o x]? = some y := by
            have := List.getElem?_drop (xs := o) (i := plc lt o x) (j := 0)
            rw [hd] at this
            simpa using this.symm
          rw [hd] at hz hp
          rw [List.mem_cons] at hz
          rcases hz with rfl | hz
          · exact hx hh
          · have := (List.pairwise_cons.1 hp.2.1).1 x hz; rw [hy] at this; cases this
      · rfl
    rw [Str, List.append_assoc, List.pairwise_append]
    refine ⟨hp.1, ?_, fun a ha b hb => ?_⟩
    · simp only [List.singleton_append, List.pairwise_cons]
      exact ⟨hge, hp.2.1⟩
    · simp only [List.singleton_append, List.mem_cons] at hb
      have hax : lt a x = true := take_lt a (s1 ▸ ha)
      rcases hb with rfl | hb
      · exact hax
      · exact h.tr _ _ _ hax (hge b hb)
end
/-- Keys' order; numbers fall. -/
def kl (how : Int) (a b : ByteArray) : Bool := decide (cmpH how a b < 0)
def gt (a b : Int) : Bool := decide (b < a)
theorem kl_sto (how : Int) : STO (kl how) where
  irr a := by have := (cmpH_zero how a a).2 rfl; simp [kl]; omega
  tr a b c h1 h2 := by
    simp only [kl, decide_eq_true_eq] at *
    have h3 := cmpH_trans how a b c (by omega) (by omega)
    by_cases z : cmpH how a c = 0
    · have := (cmpH_zero _ _ _).1 z
      subst this
      have := cmpH_neg how a b
      omega
    · omega
  tri a b h1 h2 := by
    simp only [kl, decide_eq_false_iff_not] at *
    have := cmpH_neg how a b
    exact (cmpH_zero how a b).1 (by omega)
theorem gt_sto : STO gt where
  irr a := by simp [gt]
  tr a b c h1 h2 := by simp [gt] at *; omega
  tri a b h1 h2 := by simp [gt] at *; omega
/-- A tombstone; a fragment. -/
structure Tm where
  b : ByteArray
  e : ByteArray
  s : Int
deriving Inhabited, DecidableEq
structure Fg where
  b : ByteArray
  e : ByteArray
  q : List Int
deriving Inhabited, DecidableEq
/-- Not ahead. -/
def kle (how : Int) (a b : ByteArray) : Bool := !kl how b a
theorem kle_iff {how : Int} {a b : ByteArray} : kle how a b = true ↔ cmpH how a b ≤ 0 := by
  have := cmpH_neg how a b
  simp [kle, kl]; omega
theorem kl_iff {how : Int} {a b : ByteArray} : kl how a b = true ↔ cmpH how a b < 0 := by simp [kl]
theorem kle_kl {how : Int} {a b c : ByteArray} (h1 : kle how a b = true) (h2 : kl how b c = true) : kl how a c = true := by
  cases e : kl how a b
  · have : kl how b a = false := by simpa [kle] using h1
    rw [(kl_sto how).tri _ _ e this]; exact h2
  · exact (kl_sto how).tr _ _ _ e h2
theorem kl_kle {how : Int} {a b c : ByteArray} (h1 : kl how a b = true) (h2 : kle how b c = true) : kl how a c = true := by
  cases e : kl how b c
  · have : kl how c b = false := by simpa [kle] using h2
    rw [← (kl_sto how).tri _ _ e this]; exact h1
  · exact (kl_sto how).tr _ _ _ h1 e
theorem kl_le {how : Int} {a b : ByteArray} (h1 : kl how a b = true) : kle how a b = true := by
  simp [kle, (kl_sto how).asym h1]
theorem kle_tr {how : Int} {a b c : ByteArray} (h1 : kle how a b = true) (h2 : kle how b c = true) : kle how a c = true := by
  rw [kle_iff] at *; exact cmpH_trans _ _ _ _ h1 h2
theorem kle_rfl {how : Int} {a : ByteArray} : kle how a a = true := by simp [kle, (kl_sto how).irr]
theorem kle_or {how : Int} (a b : ByteArray) : kle how a b = true ∨ kl how b a = true := by unfold kle; cases kl how b a <;> simp
/-- Whether it lies over a key; over anything. -/
def ovr (how : Int) (t : Tm) (k : ByteArray) : Bool := kle how t.b k && kl how k t.e
def lies (how : Int) (t : Tm) : Bool := kl how t.b t.e
theorem ovr_lies {how : Int} {t : Tm} {k : ByteArray} (h : ovr how t k = true) : lies how t = true := by
  simp [ovr] at h; exact kle_kl h.1 h.2
/-- All ends of those that lie over something; the numbers over a key. -/
def keysOf (how : Int) (l : List Tm) : List ByteArray := l.foldl (fun o t => if lies how t = true then insG (kl how) (insG (kl how) o t.b) t.e else o) []
def seqsAt (how : Int) (l : List Tm) (k : ByteArray) : List Int := l.foldl (fun o t => if ovr how t k = true then insG gt o t.s else o) []
theorem keysOf_facts (how : Int) (l : List Tm) : Str (kl how) (keysOf how l) ∧ ∀ z, z ∈ keysOf how l ↔ ∃ t ∈ l, lies how t = true ∧ (z = t.b ∨ z = t.e) := by
  have H : ∀ (l : List Tm) (o : List ByteArray), Str (kl how) o → Str (kl how) (l.foldl (fun o t => if lies how t = true then insG (kl how) (insG (kl how) o t.b) t.e else o) o) ∧ ∀ z, z ∈ l.foldl (fun o t => if lies how t = true then insG (kl how) (insG (kl how) o t.b) t.e else o) o ↔ z ∈ o ∨ ∃ t ∈ l, lies how t = true ∧ (z = t.b ∨ z = t.e) := by
    intro l
    induction l with
    | nil => intro o h; exact ⟨h, fun z => by simp⟩
    | cons t l ih =>
      intro o h
      rw [List.foldl_cons]
      by_cases ht : lies how t = true
      · rw [if_pos ht]
        obtain ⟨h1, h2⟩ := ih _ (insG_strict (kl_sto how) (x := t.e) (insG_strict (kl_sto how) (x := t.b) h))
        refine ⟨h1, fun z => ?_⟩
        rw [h2 z, insG_mem, insG_mem]
        simp only [List.mem_cons, exists_eq_or_imp, ht, true_and]
        constructor
        · rintro ((h | h | h) | h)
          · exact .inr (.inl (.inr h))
          · exact .inr (.inl (.inl h))
          · exact .inl h
          · exact .inr (.inr h)
        · rintro (h | (h | h) | h)
          · exact .inl (.inr (.inr h))
          · exact .inl (.inr (.inl h))
          · exact .inl (.inl h)
          · exact .inr h
      · rw [if_neg ht]
        obtain ⟨h1, h2⟩ := ih o h
        refine ⟨h1, fun z => ?_⟩
        rw [h2 z]
        simp [List.mem_cons, exists_eq_or_imp, ht]
  obtain ⟨h1, h2⟩ := H l [] List.Pairwise.nil
  exact ⟨h1, fun z => by rw [keysOf, h2 z]; simp⟩
theorem seqsAt_facts (how : Int) (l : List Tm) (k : ByteArray) : Str gt (seqsAt how l k) ∧ ∀ z, z ∈ seqsAt how l k ↔ ∃ t ∈ l, ovr how t k = true ∧ z = t.s := by
  have H : ∀ (l : List Tm) (o : List Int), Str gt o → Str gt (l.foldl (fun o t => if ovr how t k = true then insG gt o t.s else o) o) ∧ ∀ z, z ∈ l.foldl (fun o t => if ovr how t k = true then insG gt o t.s else o) o ↔ z ∈ o ∨ ∃ t ∈ l, ovr how t k = true ∧ z = t.s := by
    intro l
    induction l with
    | nil => intro o h; exact ⟨h, fun z => by simp⟩
    | cons t l ih =>
      intro o h
      rw [List.foldl_cons]
      by_cases ht : ovr how t k = true
      · rw [if_pos ht]
        obtain ⟨h1, h2⟩ := ih _ (insG_strict gt_sto (x := t.s) h)
        refine ⟨h1, fun z => ?_⟩
        rw [h2 z, insG_mem]
        simp only [List.mem_cons, exists_eq_or_imp, ht, true_and]
        constructor
        · rintro ((h | h) | h)
          · exact .inr (.inl h)
          · exact .inl h
          · exact .inr (.inr h)
        · rintro (h | h | h)
          · exact .inl (.inr h)
          · exact .inl (.inl h)
          · exact .inr h
      · rw [if_neg ht]
        obtain ⟨h1, h2⟩ := ih o h
        refine ⟨h1, fun z => ?_⟩
        rw [h2 z]
        simp [List.mem_cons, exists_eq_or_imp, ht]
  obtain ⟨h1, h2⟩ := H l [] List.Pairwise.nil
  exact ⟨h1, fun z => by rw [seqsAt, h2 z]; simp⟩
/-- The pieces between keys; those over which something lies. -/
def pcs (K : List ByteArray) : List (ByteArray × ByteArray) := K.zip K.tail
def frs (how : Int) (l : List Tm) : List Fg := ((pcs (keysOf how l)).map (fun p => (⟨p.1, p.2, seqsAt how l p.1⟩ : Fg))).filter (fun f => !f.q.isEmpty)
theorem pcs_get {K : List ByteArray} {i : Nat} {p : ByteArray × ByteArray} : (pcs K)[i]? = some p ↔ K[i]? = some p.1 ∧ K[i + 1]? = some p.2 := by
  unfold pcs
  rw [List.getElem?_zip_eq_some, List.getElem?_tail]
theorem pcs_len (K : List ByteArray) : (pcs K).length = K.length - 1 := by
  unfold pcs; simp [List.length_zip]
/-- Where a key lies among keys in order. -/
theorem locate {how : Int} : ∀ {K : List ByteArray}, Str (kl how) K → ∀ k, (∀ x ∈ K, kl how k x = true) ∨ (∀ x ∈ K, kle how x k = true) ∨ ∃ p ∈ pcs K, kle how p.1 k = true ∧ kl how k p.2 = true := by
  intro K
  induction K with
  | nil => intro _ k; left; simp
  | cons a K ih =>
    intro h k
    rw [Str, List.pairwise_cons] at h
    rcases kle_or (how := how) a k with hak | hka
    · rcases ih h.2 k with h1 | h1 | ⟨p, hp, h1⟩
      · cases K with
        | nil => right; left; simpa using hak
        | cons b K => right; right; exact ⟨(a, b), by simp [pcs], hak, h1 b (by simp)⟩
      · right; left
        intro x hx
        rw [List.mem_cons] at hx
        rcases hx with rfl | hx
        · exact hak
        · exact h1 x hx
      · right; right
        refine ⟨p, ?_, h1⟩
        cases K with
        | nil => simp [pcs] at hp
        | cons b K => simp only [pcs, List.tail_cons, List.zip_cons_cons, List.mem_cons] at hp ⊢; exact .inr hp
    · left
      intro x hx
      rw [List.mem_cons] at hx
      rcases hx with rfl | hx
      · exact hka
      · exact (kl_sto how).tr _ _ _ hka (h.1 x hx)
/-- No key lies within a piece. -/
theorem pcs_none {how : Int} {K : List ByteArray} (h : Str (kl how) K) {p : ByteArray × ByteArray} (hp : p ∈ pcs K) : kl how p.1 p.2 = true ∧ p.1 ∈ K ∧ p.2 ∈ K ∧ ∀ x ∈ K, kle how x p.1 = true ∨ kle how p.2 x = true := by
  obtain ⟨i, hi, e⟩ := List.getElem_of_mem hp
  have hg : (pcs K)[i]? = some p := by rw [List.getElem?_eq_getElem hi, e]
  obtain ⟨h1, h2⟩ := pcs_get.1 hg
  obtain ⟨i1, e1⟩ := List.getElem?_eq_some_iff.1 h1
  obtain ⟨i2, e2⟩ := List.getElem?_eq_some_iff.1 h2
  have hP := List.pairwise_iff_getElem.1 h
  refine ⟨by rw [← e1, ← e2]; exact hP _ _ i1 i2 (by omega), List.mem_of_getElem? h1, List.mem_of_getElem? h2, fun x hx => ?_⟩
  obtain ⟨j, hj, rfl⟩ := List.getElem_of_mem hx
  rcases Nat.lt_trichotomy j i with hlt | rfl | hlt
  · left; rw [← e1]; exact kl_le (hP _ _ hj i1 hlt)
  · left; rw [e1]; exact kle_rfl
  · right
    rcases Nat.lt_or_ge (i + 1) j with hh | hh
    · rw [← e2]; exact kl_le (hP _ _ i2 hj hh)
    · obtain rfl : j = i + 1 := by omega
      rw [e2]; exact kle_rfl
/-- Within a piece all keys have the same numbers. -/
theorem seqs_piece {how : Int} {l : List Tm} {p : ByteArray × ByteArray} (hp : p ∈ pcs (keysOf how l)) {k : ByteArray} (h1 : kle how p.1 k = true) (h2 : kl how k p.2 = true) : seqsAt how l p.1 = seqsAt how l k := by
  obtain ⟨hs, hm⟩ := keysOf_facts how l
  obtain ⟨hlt, _, _, hno⟩ := pcs_none hs hp
  obtain ⟨a1, a2⟩ := seqsAt_facts how l p.1
  obtain ⟨b1, b2⟩ := seqsAt_facts how l k
  refine strict_ext gt_sto _ _ a1 b1 fun z => ?_
  rw [a2, b2]
  have key : ∀ t ∈ l, ovr how t p.1 = true ↔ ovr how t k = true := by
    intro t ht
    constructor
    · intro ho
      have hl := ovr_lies ho
      simp only [ovr, Bool.and_eq_true] at ho ⊢
      have he := hno t.e ((hm _).2 ⟨t, ht, hl, .inr rfl⟩)
      refine ⟨kle_tr ho.1 h1, ?_⟩
      rcases he with he | he
      · have := kle_kl he ho.2; rw [(kl_sto how).irr] at this; cases this
      · exact kl_kle h2 he
    · intro ho
      have hl := ovr_lies ho
      simp only [ovr, Bool.and_eq_true] at ho ⊢
      have hb := hno t.b ((hm _).2 ⟨t, ht, hl, .inl rfl⟩)
      refine ⟨?_, kle_kl h1 ho.2⟩
      rcases hb with hb | hb
      · exact hb
      · have := kl_kle (kl_kle h2 hb) ho.1; rw [(kl_sto how).irr] at this; cases this
  constructor
  · rintro ⟨t, ht, ho, e⟩; exact ⟨t, ht, (key t ht).1 ho, e⟩
  · rintro ⟨t, ht, ho, e⟩; exact ⟨t, ht, (key t ht).2 ho, e⟩
/-- What fragments of tombstones are. -/
structure Frs (how : Int) (l : List Tm) (L : List Fg) : Prop where
  be : ∀ f ∈ L, kl how f.b f.e = true
  up : L.Pairwise (fun f g => kle how f.e g.b = true)
  ne : ∀ f ∈ L, f.q ≠ []
  fall : ∀ f ∈ L, Str gt f.q
  at_ : ∀ f ∈ L, ∀ k, kle how f.b k = true → kl how k f.e = true → f.q = seqsAt how l k
  has : ∀ k, seqsAt how l k ≠ [] → ∃ f ∈ L, kle how f.b k = true ∧ kl how k f.e = true
theorem pcs_up {how : Int} {K : List ByteArray} (h : Str (kl how) K) : (pcs K).Pairwise (fun p q => kle how p.2 q.1 = true) := by
  rw [List.pairwise_iff_getElem]
  intro i j hi hj hij
  have g1 := pcs_get.1 (List.getElem?_eq_getElem hi)
  have g2 := pcs_get.1 (List.getElem?_eq_getElem hj)
  obtain ⟨i1, e1⟩ := List.getElem?_eq_some_iff.1 g1.2
  obtain ⟨i2, e2⟩ := List.getElem?_eq_some_iff.1 g2.1
  rw [← e1, ← e2]
  rcases Nat.lt_or_ge (i + 1) j with hh | hh
  · exact kl_le (List.pairwise_iff_getElem.1 h _ _ i1 i2 hh)
  · have : j = i + 1 := by omega
    subst this; exact kle_rfl
theorem frs_frs (how : Int) (l : List Tm) : Frs how l (frs how l) := by
  obtain ⟨hs, hm⟩ := keysOf_facts how l
  have hmem : ∀ f, f ∈ frs how l ↔ ∃ p ∈ pcs (keysOf how l), f = ⟨p.1, p.2, seqsAt how l p.1⟩ ∧ f.q ≠ [] := by
    intro f
    simp only [frs, List.mem_filter, List.mem_map, Bool.not_eq_true', List.isEmpty_eq_false_iff]
    constructor
    · rintro ⟨⟨p, hp, rfl⟩, h⟩; exact ⟨p, hp, rfl, h⟩
    · rintro ⟨p, hp, rfl, h⟩; exact ⟨⟨p, hp, rfl⟩, h⟩
  refine ⟨?_, ?_, ?_, ?_, ?_, ?_⟩
  · intro f hf
    obtain ⟨p, hp, rfl, _⟩ := (hmem f).1 hf
    exact (pcs_none hs hp).1
  · refine List.Pairwise.filter _ ?_
    rw [List.pairwise_map]
    exact pcs_up hs
  · intro f hf
    obtain ⟨p, hp, _, h⟩ := (hmem f).1 hf
    exact h
  · intro f hf
    obtain ⟨p, hp, rfl, _⟩ := (hmem f).1 hf
    exact (seqsAt_facts how l _).1
  · intro f hf k h1 h2
    obtain ⟨p, hp, rfl, _⟩ := (hmem f).1 hf
    exact seqs_piece hp h1 h2
  · intro k hk
    obtain ⟨z, hz⟩ := List.exists_mem_of_ne_nil _ hk
    obtain ⟨t, ht, ho, rfl⟩ := ((seqsAt_facts how l k).2 z).1 hz
    have hl := ovr_lies ho
    simp only [ovr, Bool.and_eq_true] at ho
    have mb := (hm _).2 ⟨t, ht, hl, .inl rfl⟩
    have me := (hm _).2 ⟨t, ht, hl, .inr rfl⟩
    rcases locate hs k with h1 | h1 | ⟨p, hp, h1⟩
    · have := kl_kle (h1 _ mb) ho.1; rw [(kl_sto how).irr] at this; cases this
    · have := kle_kl (h1 _ me) ho.2; rw [(kl_sto how).irr] at this; cases this
    · refine ⟨⟨p.1, p.2, seqsAt how l p.1⟩, (hmem _).2 ⟨p, hp, rfl, ?_⟩, h1⟩
      show seqsAt how l p.1 ≠ []
      rw [seqs_piece hp h1.1 h1.2]; exact hk
end Go.Proofs.Ytagnnocecfoggaa
