/-
  The edit between two versions makes the first one into the second one: mathematics.
-/
import Derived.Test.YtkmpcheamdadcaaHe
import Derived.Test.YtkmpcheamdadcaaYg
namespace Go.Proofs.Ytkmpcheamdadcaa
open Go.RowKit
set_option linter.unusedVariables false
set_option linter.unusedSimpArgs false
/-- One table is ahead of another one, in a level. -/
def ltF (how : Int) (lv : Nat) (a b : Fi) : Prop := if lv = 0 then b.num < a.num else ordF how a.sm b.sm < 0
theorem ltF_trans {how : Int} {lv : Nat} {a b c : Fi} (h1 : ltF how lv a b) (h2 : ltF how lv b c) : ltF how lv a c := by
  unfold ltF at *
  split at h1
  · rw [if_pos (by assumption)] at *; omega
  · rw [if_neg (by assumption)] at *
    exact ordK_strict how _ _ _ _ _ _ _ _ _ h1 (Int.le_of_lt h2)
theorem ltF_irr {how : Int} {lv : Nat} {a : Fi} (h : ltF how lv a a) : False := by
  unfold ltF at h
  split at h
  · omega
  · have := ordK_neg how a.sm.u a.sm.s a.sm.k a.sm.u a.sm.s a.sm.k
    unfold ordF at h
    omega
theorem folB_lt {how : Int} {lv : Nat} {a f : Fi} (h : folB how lv a f = true) : ltF how lv a f := by
  unfold folB at h
  unfold ltF
  split at h
  · rw [if_pos (by assumption)]; simpa using h
  · rw [if_neg (by assumption)]
    simp only [Bool.and_eq_true, decide_eq_true_eq] at h
    exact h.1
theorem behB_iff {how : Int} {lv : Nat} {t f : Fi} : behB how lv t f = true ↔ ltF how lv t f := by
  unfold behB ltF
  split
  · simp
  · simp only [decide_eq_true_eq]
    have := ordK_neg how f.sm.u f.sm.s f.sm.k t.sm.u t.sm.s t.sm.k
    unfold ordF
    omega
/-- A run that finds nothing wrong. -/
theorem runF_good {how : Int} {lv : Nat} : ∀ {l : List Fi} {p : Option Fi} {s : List Int}, (runF how lv p s l).1 = 0 → (∀ a, p = some a → ∀ f ∈ l, ltF how lv a f) ∧ l.Pairwise (ltF how lv) ∧ l.Pairwise (fun f g => f.num ≠ g.num) ∧ (∀ f ∈ l, fchk f = 0 ∧ f.num ∉ s)
  | [], p, s, _ => ⟨fun _ _ f hf => by simp at hf, .nil, .nil, fun f hf => by simp at hf⟩
  | f :: l, p, s, h => by
    simp only [runF] at h
    split at h
    · next hb => exact absurd h hb
    · next hb =>
      have hb' : badF how lv p s f = 0 := by simpa using hb
      obtain ⟨i1, i2, i3, i4⟩ := runF_good h
      have hf := i1 f rfl
      unfold badF at hb'
      split at hb'
      · next h1 => exact absurd hb' h1
      · next h1 =>
        split at hb'
        · cases hb'
        · next h2 =>
          split at hb'
          · cases hb'
          · have hp : ∀ a, p = some a → ltF how lv a f := by
              intro a ha
              subst ha
              dsimp only at hb'
              split at hb'
              · next h3 => exact folB_lt h3
              · cases hb'
            refine ⟨fun a ha g hg => ?_, List.pairwise_cons.2 ⟨hf, i2⟩, List.pairwise_cons.2 ⟨fun g hg e => (i4 g hg).2 (by rw [← e]; simp), i3⟩, fun g hg => ?_⟩
            · rcases List.mem_cons.1 hg with rfl | hg
              · exact hp a ha
              · exact ltF_trans (hp a ha) (hf g hg)
            · rcases List.mem_cons.1 hg with rfl | hg
              · exact ⟨by simpa using h1, h2⟩
              · exact ⟨(i4 g hg).1, fun hm => (i4 g hg).2 (List.mem_append_left _ hm)⟩
theorem tdel_find {d : Fi} : ∀ {l : List Fi}, l.Pairwise (fun f g => f.num ≠ g.num) → d ∈ l → l.findIdx (numB d.num) < l.length ∧ tdel l (l.findIdx (numB d.num)) = l.filter (fun f => !(d.num == f.num))
  | [], _, hd => by simp at hd
  | f :: l, hp, hd => by
    rw [List.pairwise_cons] at hp
    by_cases e : f.num = d.num
    · have hz : (f :: l).findIdx (numB d.num) = 0 := by rw [List.findIdx_cons]; simp [numB, e]
      rw [hz]
      refine ⟨by simp, ?_⟩
      rw [List.filter_cons, if_neg (by simp [e])]
      show [] ++ l = _
      rw [List.nil_append, List.filter_eq_self.2]
      intro g hg
      have := hp.1 g hg
      simp; intro h; exact this (e.trans h)
    · have hm : d ∈ l := by
        rcases List.mem_cons.1 hd with rfl | hd
        · exact absurd rfl e
        · exact hd
      obtain ⟨j1, j2⟩ := tdel_find hp.2 hm
      have hz : (f :: l).findIdx (numB d.num) = l.findIdx (numB d.num) + 1 := by
        rw [List.findIdx_cons]
        have : numB d.num f = false := by simp [numB, e]
        rw [this]; rfl
      rw [hz]
      refine ⟨by rw [List.length_cons]; omega, ?_⟩
      rw [List.filter_cons, if_pos (by simp; intro h; exact e h.symm), ← j2]
      rfl
theorem any_cons_num (d : Fi) (ds : List Fi) (f : Fi) : ((!(d.num == f.num)) && (!ds.any fun x => x.num == f.num)) = !((d :: ds).any fun x => x.num == f.num) := by simp
/-- What is gone of a level. -/
theorem gon_level {n : Nat} : ∀ (ds : List Fi) (L : Nat → List Fi) (r : List Gn), ds.Pairwise (fun f g => f.num ≠ g.num) → (∀ d ∈ ds, d ∈ L n) → (L n).Pairwise (fun f g => f.num ≠ g.num) →
    gonL L (ds.map (fun f => (⟨n, f.num⟩ : Gn)) ++ r) = gonL (updL L n ((L n).filter fun f => !ds.any fun d => d.num == f.num)) r
  | [], L, r, _, _, _ => by
    have : ((L n).filter fun f => !([] : List Fi).any fun d => d.num == f.num) = L n := List.filter_eq_self.2 (by simp)
    rw [this]
    have : updL L n (L n) = L := by funext i; unfold updL; split <;> simp_all
    rw [this]; rfl
  | d :: ds, L, r, hp, hm, hL => by
    rw [List.pairwise_cons] at hp
    obtain ⟨j1, j2⟩ := tdel_find hL (hm d (by simp))
    rw [List.map_cons, List.cons_append, gonL_cons, if_pos j1, j2, gon_level ds _ r hp.2 ?_ ?_]
    · rw [updL_same, List.filter_filter]
      congr 1
      funext i
      unfold updL
      split
      · congr 1
        funext f
        rw [Bool.and_comm, any_cons_num]
      · rfl
    · intro x hx
      rw [updL_same, List.mem_filter]
      refine ⟨hm x (by simp [hx]), ?_⟩
      have := hp.1 x hx
      simpa using this
    · rw [updL_same]; exact hL.filter _
theorem mem_num {l : List Fi} (hl : l.Pairwise (fun f g => f.num ≠ g.num)) {f g : Fi} (hf : f ∈ l) (hg : g ∈ l) (e : f.num = g.num) : f = g := by
  induction l with
  | nil => simp at hf
  | cons x l ih =>
    rw [List.pairwise_cons] at hl
    rcases List.mem_cons.1 hf with e1 | hf1
    · rcases List.mem_cons.1 hg with e2 | hg1
      · rw [e1, e2]
      · rw [e1] at e; exact absurd e (hl.1 g hg1)
    · rcases List.mem_cons.1 hg with e2 | hg1
      · rw [e2] at e; exact absurd e.symm (hl.1 f hf1)
      · exact ih hl.2 hf1 hg1
theorem mis_filter {l m : List Fi} (hl : l.Pairwise (fun f g => f.num ≠ g.num)) : (l.filter fun f => !(misB l m).any fun d => d.num == f.num) = l.filter (hasB m) := by
  apply List.filter_congr
  intro f hf
  by_cases h : hasB m f = true
  · rw [h]
    have : ((misB l m).any fun d => d.num == f.num) = false := by
      rw [List.any_eq_false]
      intro d hd
      unfold misB at hd
      rw [List.mem_filter] at hd
      intro e
      have := mem_num hl hd.1 hf (by simpa using e)
      subst this
      rw [h] at hd
      simp at hd
    rw [this]; rfl
  · have h' : hasB m f = false := by simpa using h
    rw [h']
    have : ((misB l m).any fun d => d.num == f.num) = true := by
      rw [List.any_eq_true]
      exact ⟨f, by unfold misB; rw [List.mem_filter]; exact ⟨hf, by simp [h']⟩, by simp⟩
    rw [this]; rfl
theorem gon_all {L M : Nat → List Fi} : ∀ (n : Nat) (r : List Gn), (∀ i, i < n → (L i).Pairwise (fun f g => f.num ≠ g.num)) →
    gonL L (betG L M n ++ r) = gonL (fun i => if i < n then (L i).filter (hasB (M i)) else L i) r
  | 0, r, _ => by simp [betG]
  | n + 1, r, h => by
    have hn := h n (by omega)
    rw [betG, List.append_assoc, gon_all n _ (fun i hi => h i (by omega))]
    unfold gonB
    rw [gon_level (n := n)]
    · simp only [Nat.lt_irrefl, if_false]
      rw [mis_filter hn]
      congr 1
      funext i
      unfold updL
      by_cases e : i = n
      · subst e; simp
      · rw [if_neg e]
        dsimp only
        by_cases e2 : i < n
        · rw [if_pos e2, if_pos (by omega)]
        · rw [if_neg e2, if_neg (by omega)]
    · exact hn.filter _
    · intro d hd
      simp only [Nat.lt_irrefl, if_false]
      exact (List.mem_filter.1 hd).1
    · simp only [Nat.lt_irrefl, if_false]; exact hn
/-- Tables put into a level one after the other. -/
def insF (how : Int) (n : Nat) (l : List Fi) (ds : List Fi) : List Fi := ds.foldl (fun o f => tins o (o.findIdx (behB how n f)) f) l
theorem tins_in {l : List Fi} {i : Nat} {t x : Fi} : x ∈ tins l i t ↔ x = t ∨ x ∈ l := by
  unfold tins
  have : x ∈ l ↔ x ∈ l.take i ∨ x ∈ l.drop i := by rw [← List.mem_append, List.take_append_drop]
  rw [this, List.mem_append, List.mem_cons]
  constructor
  · rintro (h | h | h)
    · exact .inr (.inl h)
    · exact .inl h
    · exact .inr (.inr h)
  · rintro (h | h | h)
    · exact .inr (.inl h)
    · exact .inl h
    · exact .inr (.inr h)
theorem take_find {p : Fi → Bool} : ∀ {l : List Fi}, ∀ x ∈ l.take (l.findIdx p), p x = false
  | [], x, hx => by simp at hx
  | a :: l, x, hx => by
    rw [List.findIdx_cons] at hx
    cases hp : p a
    · rw [hp] at hx
      simp only [cond_false, List.take_succ_cons] at hx
      rcases List.mem_cons.1 hx with rfl | hx
      · exact hp
      · exact take_find x hx
    · rw [hp] at hx
      simp at hx
theorem drop_find {how : Int} {n : Nat} {t : Fi} : ∀ {l : List Fi}, l.Pairwise (ltF how n) → ∀ x ∈ l.drop (l.findIdx (behB how n t)), ltF how n t x
  | [], _, x, hx => by simp at hx
  | a :: l, hl, x, hx => by
    rw [List.pairwise_cons] at hl
    rw [List.findIdx_cons] at hx
    cases hp : behB how n t a
    · rw [hp] at hx
      simp only [cond_false, List.drop_succ_cons] at hx
      exact drop_find hl.2 x hx
    · rw [hp] at hx
      simp only [cond_true, List.drop_zero] at hx
      have ha := behB_iff.1 hp
      rcases List.mem_cons.1 hx with rfl | hx
      · exact ha
      · exact ltF_trans ha (hl.1 x hx)
theorem tins_sorted {how : Int} {n : Nat} {l : List Fi} {t : Fi} (hl : l.Pairwise (ltF how n)) (ht : ∀ x ∈ l, ltF how n x t ∨ ltF how n t x) : (tins l (l.findIdx (behB how n t)) t).Pairwise (ltF how n) := by
  unfold tins
  rw [List.pairwise_append, List.pairwise_cons]
  have h1 : ∀ x ∈ l.take (l.findIdx (behB how n t)), ltF how n x t := by
    intro x hx
    have hb := take_find x hx
    rcases ht x (List.mem_of_mem_take hx) with h | h
    · exact h
    · rw [behB_iff.2 h] at hb; cases hb
  refine ⟨hl.sublist (List.take_sublist _ _), ⟨drop_find hl, hl.sublist (List.drop_sublist _ _)⟩, fun a ha b hb => ?_⟩
  rcases List.mem_cons.1 hb with rfl | hb
  · exact h1 a ha
  · exact ltF_trans (h1 a ha) (drop_find hl b hb)
theorem mem_lt {how : Int} {n : Nat} {m : List Fi} (hm : m.Pairwise (ltF how n)) {a b : Fi} (ha : a ∈ m) (hb : b ∈ m) (e : a ≠ b) : ltF how n a b ∨ ltF how n b a := by
  induction m with
  | nil => simp at ha
  | cons x m ih =>
    rw [List.pairwise_cons] at hm
    rcases List.mem_cons.1 ha with e1 | ha1
    · rcases List.mem_cons.1 hb with e2 | hb1
      · exact absurd (e1.trans e2.symm) e
      · rw [e1]; exact .inl (hm.1 b hb1)
    · rcases List.mem_cons.1 hb with e2 | hb1
      · rw [e2]; exact .inr (hm.1 a ha1)
      · exact ih hm.2 ha1 hb1
theorem insF_sorted {how : Int} {n : Nat} {m : List Fi} (hm : m.Pairwise (ltF how n)) : ∀ (ds l : List Fi), l.Pairwise (ltF how n) → (∀ x ∈ l, x ∈ m) → (∀ d ∈ ds, d ∈ m) → ds.Pairwise (ltF how n) → (∀ d ∈ ds, d ∉ l) →
    (insF how n l ds).Pairwise (ltF how n) ∧ ∀ x, x ∈ insF how n l ds ↔ x ∈ l ∨ x ∈ ds
  | [], l, h1, _, _, _, _ => ⟨h1, fun x => by simp [insF]⟩
  | d :: ds, l, h1, h2, h3, h4, h5 => by
    rw [List.pairwise_cons] at h4
    have hs := tins_sorted (t := d) h1 (fun x hx => mem_lt hm (h2 x hx) (h3 d (by simp)) (fun e => h5 d (by simp) (by rw [← e]; exact hx)))
    obtain ⟨r1, r2⟩ := insF_sorted hm ds _ hs (fun x hx => by rcases tins_in.1 hx with rfl | hx; exact h3 _ (by simp); exact h2 x hx) (fun x hx => h3 x (by simp [hx])) h4.2 (fun x hx hc => by
      rcases tins_in.1 hc with rfl | hc
      · exact ltF_irr (h4.1 _ hx)
      · exact h5 x (by simp [hx]) hc)
    refine ⟨r1, fun x => ?_⟩
    show x ∈ insF how n (tins l (l.findIdx (behB how n d)) d) ds ↔ _
    rw [r2, tins_in, List.mem_cons]
    constructor
    · rintro ((h | h) | h)
      · exact .inr (.inl h)
      · exact .inl h
      · exact .inr (.inr h)
    · rintro (h | h | h)
      · exact .inl (.inr h)
      · exact .inl (.inl h)
      · exact .inr h
theorem sorted_ext {how : Int} {n : Nat} : ∀ {l m : List Fi}, l.Pairwise (ltF how n) → m.Pairwise (ltF how n) → (∀ x, x ∈ l ↔ x ∈ m) → l = m
  | [], [], _, _, _ => rfl
  | [], y :: m, _, _, h => by have := (h y).2 (by simp); simp at this
  | x :: l, [], _, _, h => by have := (h x).1 (by simp); simp at this
  | x :: l, y :: m, h1, h2, h => by
    rw [List.pairwise_cons] at h1 h2
    have e : x = y := by
      rcases List.mem_cons.1 ((h x).1 (by simp)) with a | a
      · exact a
      · rcases List.mem_cons.1 ((h y).2 (by simp)) with b | b
        · exact b.symm
        · exact (ltF_irr (ltF_trans (h1.1 y b) (h2.1 x a))).elim
    subst e
    rw [sorted_ext h1.2 h2.2 (fun z => ?_)]
    constructor
    · intro hz
      rcases List.mem_cons.1 ((h z).1 (by simp [hz])) with e | e
      · subst e; exact (ltF_irr (h1.1 _ hz)).elim
      · exact e
    · intro hz
      rcases List.mem_cons.1 ((h z).2 (by simp [hz])) with e | e
      · subst e; exact (ltF_irr (h2.1 _ hz)).elim
      · exact e
theorem ins_mis {how : Int} {n : Nat} {l m : List Fi} (hl : l.Pairwise (ltF how n)) (hm : m.Pairwise (ltF how n)) : insF how n (l.filter (hasB m)) (misB m l) = m := by
  obtain ⟨r1, r2⟩ := insF_sorted hm (misB m l) (l.filter (hasB m)) (hl.filter _) (fun x hx => hasB_iff.1 (List.mem_filter.1 hx).2) (fun x hx => (List.mem_filter.1 hx).1) (hm.filter _) (fun x hx hc => by
    have h1 := (List.mem_filter.1 hx).2
    have h2 := hasB_iff.2 (List.mem_filter.1 hc).1
    rw [h2] at h1; cases h1)
  refine sorted_ext r1 hm (fun x => ?_)
  rw [r2]
  unfold misB
  rw [List.mem_filter, List.mem_filter, hasB_iff]
  constructor
  · rintro (h | h)
    · exact h.2
    · exact h.1
  · intro h
    by_cases hx : x ∈ l
    · exact .inl ⟨hx, h⟩
    · refine .inr ⟨h, ?_⟩
      have : hasB l x = false := by
        cases hb : hasB l x
        · rfl
        · exact absurd (hasB_iff.1 hb) hx
      rw [this]; rfl
theorem addL_append (how : Int) : ∀ (L : Nat → List Fi) (xs ys : List Ad), addL how L (xs ++ ys) = addL how (addL how L xs) ys
  | _, [], _ => rfl
  | _, _ :: xs, ys => addL_append how _ xs ys
theorem add_level {how : Int} {n : Nat} : ∀ (ds : List Fi) (L : Nat → List Fi), addL how L (ds.map fun f => (⟨n, f⟩ : Ad)) = updL L n (insF how n (L n) ds)
  | [], L => by
    show L = updL L n (L n)
    funext i; unfold updL; split <;> simp_all
  | d :: ds, L => by
    rw [List.map_cons, addL_cons, add_level ds, updL_same]
    funext i; unfold updL; split <;> rfl
theorem add_all {how : Int} {L M : Nat → List Fi} : ∀ n, (∀ i, i < n → (L i).Pairwise (ltF how i) ∧ (M i).Pairwise (ltF how i)) → ∀ K : Nat → List Fi, (∀ i, i < n → K i = (L i).filter (hasB (M i))) →
    addL how K (betA L M n) = fun i => if i < n then M i else K i
  | 0, _, K, _ => by simp [betA, addL]
  | n + 1, h, K, hK => by
    rw [betA, addL_append, add_all n (fun i hi => h i (by omega)) K (fun i hi => hK i (by omega))]
    unfold addB
    rw [add_level]
    simp only [Nat.lt_irrefl, if_false]
    rw [hK n (by omega), ins_mis (h n (by omega)).1 (h n (by omega)).2]
    funext i
    unfold updL
    by_cases e : i = n
    · subst e; simp
    · rw [if_neg e]
      dsimp only
      by_cases e2 : i < n
      · rw [if_pos e2, if_pos (by omega)]
      · rw [if_neg e2, if_neg (by omega)]
theorem runL_congr {how : Int} {L M : Nat → List Fi} : ∀ (m lv : Nat) (s : List Int), (∀ i, i < m → L (lv + i) = M (lv + i)) → runL how L m lv s = runL how M m lv s
  | 0, _, _, _ => rfl
  | m + 1, lv, s, h => by
    have h0 := h 0 (by omega)
    rw [Nat.add_zero] at h0
    have hr := runL_congr (how := how) (L := L) (M := M) m (lv + 1) (runF how lv none s (M lv)).2 (fun i hi => by have := h (i + 1) (by omega); rw [show lv + 1 + i = lv + (i + 1) by omega]; exact this)
    unfold runL
    rw [h0, hr]
theorem cntV_congr {L M : Nat → List Fi} : ∀ m, (∀ i, i < m → L i = M i) → cntV L m = cntV M m
  | 0, _ => rfl
  | m + 1, h => by unfold cntV; rw [cntV_congr m (fun i hi => h i (by omega)), h m (by omega)]
theorem chkE_congr {how : Int} {L M : Nat → List Fi} (h : ∀ i, i < 7 → L i = M i) : chkE how L = chkE how M := by
  unfold chkE
  have hr := runL_congr (how := how) (L := L) (M := M) 7 0 [] (fun i hi => by have := h i hi; rw [Nat.zero_add]; exact this)
  rw [cntV_congr 7 h, hr]
theorem isLv_lt {n : Nat} (h : n < 7) : isLvB (n : Int) = true := by
  unfold isLvB; simp; omega
theorem gonE_of {l : List Gn} (h : ∀ g ∈ l, isLvB g.lv = true) : gonE l = 0 := by
  induction l with
  | nil => rfl
  | cons x l ih => unfold gonE; rw [if_pos (h x (by simp))]; exact ih (fun g hg => h g (by simp [hg]))
theorem addE_of {l : List Ad} (h : ∀ a ∈ l, isLvB a.lv = true ∧ fchk a.f = 0) : addE l = 0 := by
  induction l with
  | nil => rfl
  | cons x l ih =>
    unfold addE
    rw [if_pos (h x (by simp)).1, if_neg (by simp [(h x (by simp)).2])]
    exact ih (fun g hg => h g (by simp [hg]))
theorem betG_mem {L M : Nat → List Fi} : ∀ n, n ≤ 7 → ∀ g ∈ betG L M n, isLvB g.lv = true
  | 0, _, g, hg => by simp [betG] at hg
  | n + 1, hn, g, hg => by
    rw [betG, List.mem_append] at hg
    rcases hg with hg | hg
    · exact betG_mem n (by omega) g hg
    · unfold gonB at hg
      obtain ⟨f, _, rfl⟩ := List.mem_map.1 hg
      exact isLv_lt (by omega)
theorem betA_mem {L M : Nat → List Fi} (hM : ∀ i, i < 7 → ∀ f ∈ M i, fchk f = 0) : ∀ n, n ≤ 7 → ∀ a ∈ betA L M n, isLvB a.lv = true ∧ fchk a.f = 0
  | 0, _, g, hg => by simp [betA] at hg
  | n + 1, hn, g, hg => by
    rw [betA, List.mem_append] at hg
    rcases hg with hg | hg
    · exact betA_mem hM n (by omega) g hg
    · unfold addB at hg
      obtain ⟨f, hf, rfl⟩ := List.mem_map.1 hg
      exact ⟨isLv_lt (by omega), hM n (by omega) f (List.mem_filter.1 hf).1⟩
/-- The edit between two versions makes the first one into the second one. -/
theorem bet_apply {how : Int} {L M : Nat → List Fi} (h1 : chkE how L = 0) (h2 : chkE how M = 0) (h3 : (betG L M 7).length + (betA L M 7).length ≤ 1024)
 :
    ∃ K, appR how L (betE L M) = (0, K) ∧ ∀ i, i < 7 → K i = M i := by
  have eL := fun n hn => chk_each h1 n hn
  have eM := fun n hn => chk_each h2 n hn
  have gL := fun n hn => runF_good (eL n hn).choose_spec
  have gM := fun n hn => runF_good (eM n hn).choose_spec
  have hcan : canE (betE L M) = 0 := by
    have a : gonE (betG L M 7) = 0 := gonE_of (betG_mem 7 (by omega))
    have b : addE (betA L M 7) = 0 := addE_of (betA_mem (fun i hi f hf => ((gM i hi).2.2.2 f hf).1) 7 (by omega))
    unfold canE betE ed0
    dsimp only
    rw [if_neg (by simp), if_neg (by simp), if_neg (by omega), if_neg (by simp [a])]
    exact b
  rw [appR_rest h1 hcan]
  have hg : gonL L (betE L M).gone = some (fun i => if i < 7 then (L i).filter (hasB (M i)) else L i) := by
    show gonL L (betG L M 7) = _
    rw [← List.append_nil (betG L M 7), gon_all 7 [] (fun i hi => (gL i hi).2.2.1)]
    rfl
  rw [hg]
  have ha : addL how (fun i => if i < 7 then (L i).filter (hasB (M i)) else L i) (betE L M).added = fun i => if i < 7 then M i else (if i < 7 then (L i).filter (hasB (M i)) else L i) :=
    add_all 7 (fun i hi => ⟨(gL i hi).2.1, (gM i hi).2.1⟩) _ (fun i hi => by simp [hi])
  unfold restR
  dsimp only
  rw [ha]
  have hc : chkE how (fun i => if i < 7 then M i else (if i < 7 then (L i).filter (hasB (M i)) else L i)) = 0 := by
    rw [chkE_congr (M := M) (fun i hi => by simp [hi])]; exact h2
  rw [if_neg (by simp [hc])]
  exact ⟨_, rfl, fun i hi => by simp [hi]⟩
end Go.Proofs.Ytkmpcheamdadcaa
