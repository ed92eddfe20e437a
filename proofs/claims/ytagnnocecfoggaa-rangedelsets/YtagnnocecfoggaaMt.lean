/-
  Mathematics: fragments of n tombstones have at most n times n numbers.
-/
import Derived.Test.YtagnnocecfoggaaMs
namespace Go.Proofs.Ytagnnocecfoggaa
set_option linter.unusedVariables false
set_option linter.unusedSimpArgs false
set_option linter.unusedSectionVars false
def sumN {α : Type} (f : α → Nat) : List α → Nat
  | [] => 0
  | x :: l => f x + sumN f l
section
variable {α : Type}
theorem sumN_le {f g : α → Nat} {l : List α} (h : ∀ x ∈ l, f x ≤ g x) : sumN f l ≤ sumN g l := by
  induction l with
  | nil => simp [sumN]
  | cons x l ih =>
    have h1 := h x (by simp)
    have h2 := ih (fun y hy => h y (by simp [hy]))
    simp only [sumN]; omega
theorem sumN_add (f g : α → Nat) (l : List α) : sumN (fun x => f x + g x) l = sumN f l + sumN g l := by
  induction l with
  | nil => simp [sumN]
  | cons x l ih => simp only [sumN, ih]; omega
theorem sumN_map {β : Type} (f : β → Nat) (g : α → β) (l : List α) : sumN f (l.map g) = sumN (fun x => f (g x)) l := by
  induction l with
  | nil => rfl
  | cons x l ih => simp only [List.map_cons, sumN, ih]
theorem sumN_ite (p : α → Bool) (l : List α) : sumN (fun x => if p x = true then 1 else 0) l = l.countP p := by
  induction l with
  | nil => rfl
  | cons x l ih => rw [List.countP_cons, sumN, ih]; omega
theorem sumN_swap {β : Type} (r : α → β → Bool) (P : List β) (Y : List α) : sumN (fun p => Y.countP (fun t => r t p)) P = sumN (fun t => P.countP (fun p => r t p)) Y := by
  induction P with
  | nil =>
    simp only [sumN, List.countP_nil]
    induction Y with
    | nil => rfl
    | cons y Y ih => simp only [sumN]; omega
  | cons p P ih =>
    simp only [sumN, ih]
    have : sumN (fun t => (p :: P).countP (fun p => r t p)) Y = sumN (fun t => P.countP (fun p => r t p) + (if r t p = true then 1 else 0)) Y := by
      congr 1; funext t; rw [List.countP_cons]
    rw [this, sumN_add, sumN_ite]; omega
theorem countP_mono' {p q : α → Bool} {l : List α} (h : ∀ x ∈ l, p x = true → q x = true) : l.countP p ≤ l.countP q := List.countP_mono_left h
variable [DecidableEq α]
theorem countP_sub {p : α → Bool} : ∀ {S X : List α}, S.Nodup → (∀ z ∈ S, z ∈ X) → S.countP p ≤ X.countP p := by
  intro S
  induction S with
  | nil => intro X _ _; simp
  | cons z S ih =>
    intro X hn hs
    rw [List.nodup_cons] at hn
    have hz : z ∈ X := hs z (by simp)
    have hp := List.perm_cons_erase hz
    have h1 := ih (X := X.erase z) hn.2 (fun y hy => by
      have hne : y ≠ z := fun e => hn.1 (e ▸ hy)
      exact (List.mem_erase_of_ne hne).2 (hs y (by simp [hy])))
    rw [hp.countP_eq p, List.countP_cons, List.countP_cons]
    omega
/-- Each once. -/
def dd : List α → List α
  | [] => []
  | x :: X => if x ∈ dd X then dd X else x :: dd X
theorem dd_mem {X : List α} {z : α} : z ∈ dd X ↔ z ∈ X := by
  induction X with
  | nil => simp [dd]
  | cons x X ih =>
    unfold dd
    split
    · rename_i h
      rw [ih, List.mem_cons]
      constructor
      · exact .inr
      · rintro (rfl | h2)
        · exact ih.1 h
        · exact h2
    · rw [List.mem_cons, List.mem_cons, ih]
theorem dd_nodup (X : List α) : (dd X).Nodup := by
  induction X with
  | nil => simp [dd]
  | cons x X ih =>
    unfold dd
    split
    · exact ih
    · rename_i h; exact List.nodup_cons.2 ⟨h, ih⟩
theorem dd_count (X : List α) (p : α → Bool) : (dd X).countP p ≤ X.countP p := countP_sub (dd_nodup X) (fun z hz => dd_mem.1 hz)
variable {lt : α → α → Bool}
theorem two_sides (h : STO lt) (x : α) (X : List α) : X.countP (fun y => lt y x) + X.countP (fun y => lt x y) ≤ X.length := by
  induction X with
  | nil => simp
  | cons y X ih =>
    rw [List.countP_cons, List.countP_cons, List.length_cons]
    cases e1 : lt y x
    · cases e2 : lt x y <;> simp <;> omega
    · rw [h.asym e1]; simp; omega
theorem less_sum (h : STO lt) (X : List α) : 2 * sumN (fun y => (dd X).countP (fun k => lt k y)) X + X.length ≤ X.length * X.length := by
  induction X with
  | nil => simp [sumN]
  | cons x X ih =>
    have h2 := two_sides h x X
    have hd := dd_count X (fun k => lt k x)
    have h1 : ∀ y, (dd (x :: X)).countP (fun k => lt k y) ≤ (dd X).countP (fun k => lt k y) + (if lt x y = true then 1 else 0) := by
      intro y
      show (if x ∈ dd X then dd X else x :: dd X).countP _ ≤ _
      split
      · omega
      · rw [List.countP_cons]; omega
    have hx := h1 x
    rw [h.irr] at hx
    have hs := sumN_le (l := X) (fun y _ => h1 y)
    rw [sumN_add, sumN_ite] at hs
    have hs' : sumN (fun y => (dd (x :: X)).countP (fun k => lt k y)) X ≤ sumN (fun y => (dd X).countP (fun k => lt k y)) X + X.countP (fun y => lt x y) := hs
    simp only [sumN, List.length_cons]
    have hm : (X.length + 1) * (X.length + 1) = X.length * X.length + 2 * X.length + 1 := by
      rw [Nat.add_mul, Nat.mul_add]; omega
    simp only [Bool.false_eq_true, if_false, Nat.add_zero] at hx
    rw [hm]
    generalize X.length * X.length = Q at *
    omega
theorem least_sum (h : STO lt) (X : List α) : 2 * sumN (fun y => (dd X).countP (fun k => !lt k y)) X ≤ X.length * X.length + X.length := by
  induction X with
  | nil => simp [sumN]
  | cons x X ih =>
    have h2 := two_sides h x X
    have hm : (X.length + 1) * (X.length + 1) = X.length * X.length + 2 * X.length + 1 := by
      rw [Nat.add_mul, Nat.mul_add]; omega
    simp only [sumN, List.length_cons]
    by_cases hx : x ∈ dd X
    · have e : dd (x :: X) = dd X := by show (if x ∈ dd X then dd X else x :: dd X) = _; rw [if_pos hx]
      rw [e]
      have h1 : (dd X).countP (fun k => !lt k x) ≤ 1 + X.countP (fun y => lt x y) := by
        have hp := List.perm_cons_erase hx
        rw [hp.countP_eq, List.countP_cons]
        have : ((dd X).erase x).countP (fun k => !lt k x) ≤ ((dd X).erase x).countP (fun k => lt x k) := countP_mono' fun k hk hkx => by
          have hkn : k ≠ x := ((dd_nodup X).mem_erase_iff.1 hk).1
          cases e2 : lt x k
          · exact absurd (h.tri _ _ (by simpa using hkx) e2) hkn
          · rfl
        have h3 : ((dd X).erase x).countP (fun k => lt x k) ≤ X.countP (fun y => lt x y) := countP_sub ((dd_nodup X).erase x) (fun z hz => dd_mem.1 (List.mem_of_mem_erase hz))
        split <;> omega
      omega
    · have e : dd (x :: X) = x :: dd X := by show (if x ∈ dd X then dd X else x :: dd X) = _; rw [if_neg hx]
      rw [e]
      have hxX : x ∉ X := fun hh => hx (dd_mem.2 hh)
      have h1 : (x :: dd X).countP (fun k => !lt k x) ≤ 1 + X.countP (fun y => lt x y) := by
        rw [List.countP_cons]
        have : (dd X).countP (fun k => !lt k x) ≤ (dd X).countP (fun k => lt x k) := countP_mono' fun k hk hkx => by
          cases e2 : lt x k
          · exact absurd (h.tri _ _ (by simpa using hkx) e2) (fun e => hx (e ▸ hk))
          · rfl
        have h3 := dd_count X (fun k => lt x k)
        split <;> omega
      have hs : sumN (fun y => (x :: dd X).countP (fun k => !lt k y)) X ≤ sumN (fun y => (dd X).countP (fun k => !lt k y) + (if lt y x = true then 1 else 0)) X := sumN_le fun y hy => by
        rw [List.countP_cons]
        have : (if (!lt x y) = true then 1 else 0) ≤ (if lt y x = true then 1 else 0) := by
          cases e2 : lt y x
          · cases e3 : lt x y
            · exact absurd (h.tri _ _ e3 e2) (fun e => hxX (e ▸ hy))
            · simp
          · split <;> simp
        omega
      rw [sumN_add, sumN_ite] at hs
      omega
end
theorem seqsAt_count (how : Int) (l : List Tm) (k : ByteArray) : (seqsAt how l k).length ≤ l.countP (fun t => ovr how t k) := by
  have H : ∀ (l : List Tm) (o : List Int), (l.foldl (fun o t => if ovr how t k = true then insG gt o t.s else o) o).length ≤ o.length + l.countP (fun t => ovr how t k) := by
    intro l
    induction l with
    | nil => intro o; simp
    | cons t l ih =>
      intro o
      rw [List.foldl_cons, List.countP_cons]
      have := ih (if ovr how t k = true then insG gt o t.s else o)
      have h2 : (if ovr how t k = true then insG gt o t.s else o).length ≤ o.length + (if ovr how t k = true then 1 else 0) := by
        split
        · exact insG_len gt o t.s
        · omega
      omega
  have := H l []
  simpa [seqsAt] using this
theorem cntQ_filter (L : List Fg) (p : Fg → Bool) : cntQ (L.filter p) ≤ cntQ L := by
  induction L with
  | nil => simp [cntQ]
  | cons f L ih =>
    rw [List.filter_cons]
    split
    · simp only [cntQ]; omega
    · simp only [cntQ]; omega
theorem cntQ_map (P : List (ByteArray × ByteArray)) (q : ByteArray → List Int) : cntQ (P.map (fun p => (⟨p.1, p.2, q p.1⟩ : Fg))) = sumN (fun p => (q p.1).length) P := by
  induction P with
  | nil => rfl
  | cons p P ih => simp only [List.map_cons, cntQ, sumN, ih]
theorem frs_count (how : Int) (l : List Tm) : cntQ (frs how l) ≤ l.length * l.length := by
  obtain ⟨ks, km⟩ := keysOf_facts how l
  have hY : (l.filter (lies how)).length ≤ l.length := List.length_filter_le _ _
  generalize hYe : l.filter (lies how) = Y at hY
  have hmem : ∀ t, t ∈ Y ↔ t ∈ l ∧ lies how t = true := fun t => by rw [← hYe, List.mem_filter]
  have hseq : ∀ k, seqsAt how l k = seqsAt how Y k := fun k => by
    obtain ⟨a1, a2⟩ := seqsAt_facts how l k
    obtain ⟨b1, b2⟩ := seqsAt_facts how Y k
    refine strict_ext gt_sto _ _ a1 b1 fun z => ?_
    rw [a2, b2]
    constructor
    · rintro ⟨t, ht, ho, e⟩; exact ⟨t, (hmem t).2 ⟨ht, ovr_lies ho⟩, ho, e⟩
    · rintro ⟨t, ht, ho, e⟩; exact ⟨t, ((hmem t).1 ht).1, ho, e⟩
  have knd : (keysOf how l).Nodup := ks.imp (fun {a b} h e => by subst e; rw [(kl_sto how).irr] at h; cases h)
  have s1 : cntQ (frs how l) ≤ sumN (fun p => Y.countP (fun t => ovr how t p.1)) (pcs (keysOf how l)) := by
    refine Nat.le_trans (cntQ_filter _ _) ?_
    rw [cntQ_map]
    exact sumN_le fun p _ => by rw [hseq]; exact seqsAt_count how Y p.1
  rw [sumN_swap (fun t (p : ByteArray × ByteArray) => ovr how t p.1)] at s1
  have s2 : sumN (fun t => (pcs (keysOf how l)).countP (fun p => ovr how t p.1)) Y ≤ sumN (fun t => (dd (Y.map (fun t => t.b))).countP (fun k => !kl how k t.b) + (dd (Y.map (fun t => t.e))).countP (fun k => kl how k t.e)) Y := by
    refine sumN_le fun t _ => ?_
    have h1 : (pcs (keysOf how l)).countP (fun p => ovr how t p.1) ≤ (keysOf how l).countP (fun k => ovr how t k) := by
      have e : (pcs (keysOf how l)).countP (fun p => ovr how t p.1) = ((pcs (keysOf how l)).map (fun p => p.1)).countP (fun k => ovr how t k) := by rw [List.countP_map]; rfl
      rw [e]
      refine countP_sub ?_ (fun z hz => ?_)
      · exact (pcs_fst ks).imp (fun {a b} h e => by subst e; rw [(kl_sto how).irr] at h; cases h)
      · simp only [List.mem_map] at hz
        obtain ⟨p, hp, rfl⟩ := hz
        exact (pcs_none ks hp).2.1
    have h2 : (keysOf how l).countP (fun k => ovr how t k) ≤ (dd (Y.map (fun t => t.b)) ++ dd (Y.map (fun t => t.e))).countP (fun k => ovr how t k) := countP_sub knd (fun z hz => by
      obtain ⟨u, hu, hl, hz⟩ := (km z).1 hz
      rw [List.mem_append, dd_mem, dd_mem]
      rcases hz with rfl | rfl
      · exact .inl (List.mem_map.2 ⟨u, (hmem u).2 ⟨hu, hl⟩, rfl⟩)
      · exact .inr (List.mem_map.2 ⟨u, (hmem u).2 ⟨hu, hl⟩, rfl⟩))
    rw [List.countP_append] at h2
    have h3 : (dd (Y.map (fun t => t.b))).countP (fun k => ovr how t k) ≤ (dd (Y.map (fun t => t.b))).countP (fun k => !kl how k t.b) := countP_mono' fun k _ hk => by
      simp only [ovr, Bool.and_eq_true] at hk; exact hk.1
    have h4 : (dd (Y.map (fun t => t.e))).countP (fun k => ovr how t k) ≤ (dd (Y.map (fun t => t.e))).countP (fun k => kl how k t.e) := countP_mono' fun k _ hk => by
      simp only [ovr, Bool.and_eq_true] at hk; exact hk.2
    omega
  rw [sumN_add] at s2
  have s3 := least_sum (kl_sto how) (Y.map (fun t => t.b))
  have s4 := less_sum (kl_sto how) (Y.map (fun t => t.e))
  rw [sumN_map, List.length_map] at s3 s4
  have s5 : Y.length * Y.length ≤ l.length * l.length := Nat.mul_le_mul hY hY
  omega
end Go.Proofs.Ytagnnocecfoggaa
