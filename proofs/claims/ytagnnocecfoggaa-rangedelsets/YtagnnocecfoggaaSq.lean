/-
  Mathematics of split: numbers that come falling to pieces.
-/
import Derived.Test.YtagnnocecfoggaaSn
import Derived.Test.YtagnnocecfoggaaCl
namespace Go.Proofs.Ytagnnocecfoggaa
set_option linter.unusedVariables false
set_option linter.unusedSimpArgs false
/-- A tombstone comes to a piece. -/
def upF (how : Int) (x : Tm) (f : Fg) : Fg := if ovr how x f.b = true then ⟨f.b, f.e, addQ f.q x.s⟩ else f
theorem upF_b (how : Int) (x : Tm) (f : Fg) : (upF how x f).b = f.b ∧ (upF how x f).e = f.e := by unfold upF; split <;> exact ⟨rfl, rfl⟩
/-- The numbers of falling tombstones over a key. -/
def fallQ (how : Int) (l : List Tm) (k : ByteArray) : List Int := l.foldl (fun q x => if ovr how x k = true then addQ q x.s else q) []
theorem up_all (how : Int) (l : List Tm) : ∀ (L : List Fg), l.foldl (fun L x => L.map (upF how x)) L = L.map (fun f => (⟨f.b, f.e, l.foldl (fun q x => if ovr how x f.b = true then addQ q x.s else q) f.q⟩ : Fg)) := by
  induction l with
  | nil => intro L; simp
  | cons x l ih =>
    intro L
    rw [List.foldl_cons, ih, List.map_map]
    apply List.map_congr_left
    intro f _
    simp only [Function.comp, List.foldl_cons]
    obtain ⟨e1, e2⟩ := upF_b how x f
    rw [e1, e2]
    congr 2
    unfold upF
    split <;> rfl
theorem addQ_facts {q : List Int} {s : Int} (h : Str gt q) (hs : ∀ z ∈ q, s ≤ z) : Str gt (addQ q s) ∧ (∀ z, z ∈ addQ q s ↔ z ∈ q ∨ z = s) := by
  unfold addQ
  split
  · rename_i hl
    have hm : s ∈ q := List.mem_of_getLast? hl
    refine ⟨h, fun z => ⟨.inl, ?_⟩⟩
    rintro (hz | rfl) <;> assumption
  · rename_i hl
    refine ⟨List.pairwise_append.2 ⟨h, by simp, fun a ha b hb => ?_⟩, fun z => by simp⟩
    simp at hb
    subst hb
    have h1 := hs a ha
    have hne : a ≠ b := by
      rintro rfl
      -- a is a least one: it is the last
      apply hl
      obtain ⟨i, hi, e⟩ := List.getElem_of_mem ha
      rcases Nat.lt_or_ge (i + 1) q.length with h2 | h2
      · have := List.pairwise_iff_getElem.1 h i (i + 1) hi h2 (by omega)
        have h3 := hs q[i + 1] (by simp)
        rw [e] at this
        simp [gt] at this
        omega
      · rw [List.getLast?_eq_getElem?, show q.length - 1 = i by omega, List.getElem?_eq_getElem hi, e]
    simp [gt]; omega
theorem fallQ_facts (how : Int) (k : ByteArray) : ∀ (l : List Tm), l.Pairwise (fun x y => y.s ≤ x.s) → Str gt (fallQ how l k) ∧ (∀ z, z ∈ fallQ how l k ↔ ∃ t ∈ l, ovr how t k = true ∧ z = t.s) := by
  have H : ∀ (l : List Tm) (q : List Int), l.Pairwise (fun x y => y.s ≤ x.s) → Str gt q → (∀ z ∈ q, ∀ t ∈ l, t.s ≤ z) → Str gt (l.foldl (fun q x => if ovr how x k = true then addQ q x.s else q) q) ∧ (∀ z, z ∈ l.foldl (fun q x => if ovr how x k = true then addQ q x.s else q) q ↔ z ∈ q ∨ ∃ t ∈ l, ovr how t k = true ∧ z = t.s) := by
    intro l
    induction l with
    | nil => intro q _ hq _; exact ⟨hq, fun z => by simp⟩
    | cons x l ih =>
      intro q hl hq hz
      rw [List.pairwise_cons] at hl
      rw [List.foldl_cons]
      by_cases ho : ovr how x k = true
      · rw [if_pos ho]
        obtain ⟨a1, a2⟩ := addQ_facts (s := x.s) hq (fun z hzq => hz z hzq x (by simp))
        obtain ⟨h1, h2⟩ := ih (addQ q x.s) hl.2 a1 (fun z hzq t ht => by
          rcases (a2 z).1 hzq with h | rfl
          · exact hz z h t (by simp [ht])
          · exact hl.1 t ht)
        refine ⟨h1, fun z => ?_⟩
        rw [h2 z, a2 z]
        simp only [List.mem_cons, exists_eq_or_imp, ho, true_and, or_assoc]
      · rw [if_neg ho]
        obtain ⟨h1, h2⟩ := ih q hl.2 hq (fun z hzq t ht => hz z hzq t (by simp [ht]))
        refine ⟨h1, fun z => ?_⟩
        rw [h2 z]
        simp [List.mem_cons, exists_eq_or_imp, ho]
  intro l hl
  obtain ⟨h1, h2⟩ := H l [] hl List.Pairwise.nil (fun z hz => by simp at hz)
  exact ⟨h1, fun z => by rw [fallQ, h2 z]; simp⟩
/-- What split makes of tombstones, put in another order, is their fragments. -/
theorem split_frs {how : Int} {l l1 l2 : List Tm} {K : List ByteArray} (h1 : l1 = l.filter (lies how)) (hp : l2.Perm l1) (hf : l2.Pairwise (fun x y => y.s ≤ x.s)) (hK : Str (kl how) K) (hm : ∀ z, z ∈ K ↔ ∃ t ∈ l1, z = t.b ∨ z = t.e) :
    (l2.foldl (fun L x => L.map (upF how x)) ((pcs K).map (fun p => (⟨p.1, p.2, []⟩ : Fg)))).filter (fun f => !f.q.isEmpty) = frs how l := by
  obtain ⟨k1, k2⟩ := keysOf_facts how l
  have eK : K = keysOf how l := by
    refine strict_ext (kl_sto how) _ _ hK k1 fun z => ?_
    rw [hm z, k2 z, h1]
    simp only [List.mem_filter, and_assoc]
  have eQ : ∀ k, fallQ how l2 k = seqsAt how l k := fun k => by
    obtain ⟨a1, a2⟩ := fallQ_facts how k l2 hf
    obtain ⟨b1, b2⟩ := seqsAt_facts how l k
    refine strict_ext gt_sto _ _ a1 b1 fun z => ?_
    rw [a2 z, b2 z]
    constructor
    · rintro ⟨t, ht, ho, e⟩
      have : t ∈ l1 := hp.mem_iff.1 ht
      rw [h1, List.mem_filter] at this
      exact ⟨t, this.1, ho, e⟩
    · rintro ⟨t, ht, ho, e⟩
      exact ⟨t, hp.mem_iff.2 (by rw [h1, List.mem_filter]; exact ⟨ht, ovr_lies ho⟩), ho, e⟩
  rw [up_all, List.map_map]
  unfold frs
  rw [← eK]
  congr 1
  apply List.map_congr_left
  intro p _
  show (⟨p.1, p.2, fallQ how l2 p.1⟩ : Fg) = _
  rw [eQ]
/-- The pieces up to number i have it. -/
def upTo (how : Int) (x : Tm) (L : List Fg) (i : Nat) : List Fg := (L.take i).map (upF how x) ++ L.drop i
theorem upTo_len (how : Int) (x : Tm) (L : List Fg) (i : Nat) : (upTo how x L i).length = L.length := by
  unfold upTo; simp; omega
theorem upTo_get (how : Int) (x : Tm) (L : List Fg) (i j : Nat) : (upTo how x L i)[j]? = if j < i then L[j]?.map (upF how x) else L[j]? := by
  unfold upTo
  split
  · rename_i h
    rcases Nat.lt_or_ge j L.length with hl | hl
    · rw [List.getElem?_append_left (by simp; omega), List.getElem?_map, List.getElem?_take_of_lt h]
    · rw [List.getElem?_eq_none (by simp; omega), List.getElem?_eq_none hl]; rfl
  · rename_i h
    rcases Nat.lt_or_ge j L.length with hl | hl
    · rw [List.getElem?_append_right (by simp; omega), List.getElem?_drop]
      congr 1; simp; omega
    · rw [List.getElem?_eq_none (by simp; omega), List.getElem?_eq_none hl]
theorem upTo_step (how : Int) (x : Tm) (L : List Fg) (i : Nat) (f : Fg) (hf : L[i]? = some f) : upTo how x L (i + 1) = (upTo how x L i).set i (upF how x f) := by
  apply List.ext_getElem?
  intro j
  rw [upTo_get, List.getElem?_set, upTo_get, upTo_len]
  have hi : i < L.length := (List.getElem?_eq_some_iff.1 hf).1
  by_cases e : i = j
  · subst e; simp [hi, (List.getElem?_eq_some_iff.1 hf).2]
  · rw [if_neg e]
    by_cases h : j < i
    · rw [if_pos (by omega), if_pos h]
    · rw [if_neg (by omega), if_neg h]
theorem upTo_same {how : Int} {x : Tm} {L : List Fg} {i : Nat} (h : ∀ j f, j < i → L[j]? = some f → ovr how x f.b = false) : upTo how x L i = L := by
  apply List.ext_getElem?
  intro j
  rw [upTo_get]
  split
  · rename_i hj
    cases hf : L[j]? with
    | none => rfl
    | some f => have := h j f hj hf; simp [upF, this]
  · rfl
theorem upTo_all {how : Int} {x : Tm} {L : List Fg} {i : Nat} (h : ∀ j f, i ≤ j → L[j]? = some f → ovr how x f.b = false) : upTo how x L i = L.map (upF how x) := by
  apply List.ext_getElem?
  intro j
  rw [upTo_get, List.getElem?_map]
  split
  · rfl
  · rename_i hj
    cases hf : L[j]? with
    | none => rfl
    | some f => have := h j f (by omega) hf; simp [upF, this]
end Go.Proofs.Ytagnnocecfoggaa
