import Derived.Test.YtocanjefonlnaaaDoorV
namespace Go.Proofs.YtocanjefonlnaaaDoor
set_option linter.unusedVariables false
set_option linter.unusedSimpArgs false
theorem tw_lo {α : Type} (f : α → Bool) : ∀ (l : List α) (i : Nat) (a : α), i < (l.takeWhile f).length → l[i]? = some a → f a = true
  | [], i, a, h, _ => by simp at h
  | x :: r, i, a, h, ha => by
    rw [List.takeWhile_cons] at h
    split at h
    · next hx =>
      cases i with
      | zero => simp at ha; rw [← ha]; exact hx
      | succ i => exact tw_lo f r i a (by simpa using h) (by simpa using ha)
    · simp at h
theorem tw_hi {α : Type} (f : α → Bool) : ∀ (l : List α), (∀ (i j : Nat) (a b : α), i ≤ j → l[i]? = some a → l[j]? = some b → f b = true → f a = true) → ∀ (i : Nat) (a : α), (l.takeWhile f).length ≤ i → l[i]? = some a → f a = false
  | [], _, i, a, _, ha => by simp at ha
  | x :: r, hm, i, a, h, ha => by
    rw [List.takeWhile_cons] at h
    split at h
    · next hx =>
      cases i with
      | zero => simp at h
      | succ i => exact tw_hi f r (fun i j a b h1 h2 h3 => hm (i + 1) (j + 1) a b (by omega) (by simpa using h2) (by simpa using h3)) i a (by simpa using h) (by simpa using ha)
    · next hx =>
      cases hf : f a with
      | false => rfl
      | true => exact absurd (hm 0 i x a (Nat.zero_le _) rfl ha hf) hx
theorem tw_le {α : Type} (f : α → Bool) : ∀ l : List α, (l.takeWhile f).length ≤ l.length
  | [] => by simp
  | x :: r => by
    rw [List.takeWhile_cons]
    split
    · have := tw_le f r; simp; exact this
    · simp
theorem cmpH_lt (how : Int) {a b c : ByteArray} (h1 : cmpH how a b < 0) (h2 : cmpH how b c ≤ 0) : cmpH how a c < 0 := by
  have h3 := cmpH_trans how a b c (by omega) h2
  by_cases z : cmpH how a c = 0
  · have := (cmpH_zero how a c).1 z; subst this
    have := cmpH_neg how a b; omega
  · omega
theorem cmpH_lt2 (how : Int) {a b c : ByteArray} (h1 : cmpH how a b ≤ 0) (h2 : cmpH how b c < 0) : cmpH how a c < 0 := by
  have h3 := cmpH_trans how a b c h1 (by omega)
  by_cases z : cmpH how a c = 0
  · have := (cmpH_zero how a c).1 z; subst this
    have := cmpH_neg how a b; omega
  · omega
/-- One order of entries. -/
abbrev olt (how : Int) (a b : Ent) : Prop := ordK how a.u a.s a.k b.u b.s b.k < 0
def SortE (how : Int) (E : List Ent) : Prop := ∀ (i j : Nat) (a b : Ent), i < j → E[i]? = some a → E[j]? = some b → olt how a b
def SortT (how : Int) (R : List Tm) : Prop := ∀ (i j : Nat) (a b : Tm), i < j → R[i]? = some a → R[j]? = some b → tord how a b < 0
theorem cutE_pos {how : Int} {E : List Ent} (h : SortE how E) (U : ByteArray) (S K : Int) : CutE how E U S K (posE how E U S K) := by
  refine ⟨tw_le _ _, fun i e hi he => ?_, fun i e hi he => ?_⟩
  · simpa using tw_lo _ E i e hi he
  · have := tw_hi (fun e => decide (okey how e U S K < 0)) E (fun i j a b hij ha hb hf => ?_) i e hi he
    · simpa using this
    · rcases Nat.lt_or_eq_of_le hij with h1 | h1
      · have := h i j a b h1 ha hb
        have hf' : okey how b U S K < 0 := by simpa using hf
        have := ordK_strict how a.u a.s a.k b.u b.s b.k U S K this (by unfold okey at hf'; omega)
        exact decide_eq_true this
      · subst h1; rw [ha] at hb; cases hb; exact hf
/-- tombstones: ahead. -/
theorem tord_iff (how : Int) (a b : Tm) : tord how a b < 0 ↔ cmpH how a.b b.b < 0 ∨ (a.b = b.b ∧ (cmpH how a.e b.e < 0 ∨ (a.e = b.e ∧ b.s < a.s))) := by
  unfold tord
  by_cases h1 : cmpH how a.b b.b = 0
  · have e1 := (cmpH_zero how a.b b.b).1 h1
    rw [if_neg (by simpa using h1)]
    by_cases h2 : cmpH how a.e b.e = 0
    · have e2 := (cmpH_zero how a.e b.e).1 h2
      rw [if_neg (by simpa using h2)]
      have := cmpI_neg1 b.s a.s
      have := cmpI_cases b.s a.s
      constructor
      · intro h; exact .inr ⟨e1, .inr ⟨e2, by omega⟩⟩
      · rintro (h | ⟨_, h | ⟨_, h⟩⟩)
        · omega
        · omega
        · omega
    · rw [if_pos h2]
      have : a.e ≠ b.e := fun h => h2 ((cmpH_zero how a.e b.e).2 h)
      constructor
      · intro h; exact .inr ⟨e1, .inl h⟩
      · rintro (h | ⟨_, h | ⟨h, _⟩⟩)
        · omega
        · exact h
        · exact absurd h this
  · rw [if_pos h1]
    have : a.b ≠ b.b := fun h => h1 ((cmpH_zero how a.b b.b).2 h)
    constructor
    · intro h; exact .inl h
    · rintro (h | ⟨h, _⟩)
      · exact h
      · exact absurd h this
theorem tord_zero (how : Int) (a b : Tm) : tord how a b = 0 ↔ a = b := by
  unfold tord
  by_cases h1 : cmpH how a.b b.b = 0
  · have e1 := (cmpH_zero how a.b b.b).1 h1
    rw [if_neg (by simpa using h1)]
    by_cases h2 : cmpH how a.e b.e = 0
    · have e2 := (cmpH_zero how a.e b.e).1 h2
      rw [if_neg (by simpa using h2), cmpI_zero]
      obtain ⟨ab, ae, as_⟩ := a
      obtain ⟨bb, be, bs⟩ := b
      simp only at e1 e2 ⊢
      subst e1 e2
      simp
      exact eq_comm
    · rw [if_pos h2]
      constructor
      · intro h; exact absurd h h2
      · rintro rfl; exact absurd ((cmpH_zero how _ _).2 rfl) h2
  · rw [if_pos h1]
    constructor
    · intro h; exact absurd h h1
    · rintro rfl; exact absurd ((cmpH_zero how _ _).2 rfl) h1
theorem tord_trans (how : Int) {a b c : Tm} (h1 : tord how a b < 0) (h2 : tord how b c < 0) : tord how a c < 0 := by
  rw [tord_iff] at *
  rcases h1 with h1 | ⟨e1, h1⟩ <;> rcases h2 with h2 | ⟨e2, h2⟩
  · exact .inl (cmpH_lt how h1 (by omega))
  · exact .inl (e2 ▸ h1)
  · exact .inl (e1 ▸ h2)
  · refine .inr ⟨e1.trans e2, ?_⟩
    rcases h1 with h1 | ⟨e3, h1⟩ <;> rcases h2 with h2 | ⟨e4, h2⟩
    · exact .inl (cmpH_lt how h1 (by omega))
    · exact .inl (e4 ▸ h1)
    · exact .inl (e3 ▸ h2)
    · exact .inr ⟨e3.trans e4, by omega⟩
/-- Of two tombstones that are two one is ahead. -/
theorem tord_or (how : Int) (a b : Tm) (h1 : ¬ tord how a b < 0) (h2 : ¬ a = b) : tord how b a < 0 := by
  rw [tord_iff] at *
  have n1 := cmpH_neg how a.b b.b
  have c1 := cmpH_cases how a.b b.b
  by_cases z1 : cmpH how a.b b.b = 0
  · have e1 := (cmpH_zero how a.b b.b).1 z1
    refine .inr ⟨e1.symm, ?_⟩
    have n2 := cmpH_neg how a.e b.e
    have c2 := cmpH_cases how a.e b.e
    by_cases z2 : cmpH how a.e b.e = 0
    · have e2 := (cmpH_zero how a.e b.e).1 z2
      refine .inr ⟨e2.symm, ?_⟩
      have : ¬ b.s < a.s := fun h => h1 (.inr ⟨e1, .inr ⟨e2, h⟩⟩)
      have : a.s ≠ b.s := fun h => h2 (by
        obtain ⟨ab, ae, as_⟩ := a
        obtain ⟨bb, be, bs⟩ := b
        simp only at e1 e2 h
        subst e1 e2 h; rfl)
      omega
    · have : ¬ cmpH how a.e b.e < 0 := fun h => h1 (.inr ⟨e1, .inl h⟩)
      exact .inl (by omega)
  · have : ¬ cmpH how a.b b.b < 0 := fun h => h1 (.inl h)
    exact .inl (by omega)
theorem cutT_pos {how : Int} {R : List Tm} (h : SortT how R) (x : Tm) : TCut how R x (posT how R x) := by
  refine ⟨tw_le _ _, fun i e hi he => ?_, fun i e hi he => ?_⟩
  · simpa using tw_lo _ R i e hi he
  · have := tw_hi (fun t => decide (tord how t x < 0)) R (fun i j a b hij ha hb hf => ?_) i e hi he
    · simpa using this
    · rcases Nat.lt_or_eq_of_le hij with h1 | h1
      · have hf' : tord how b x < 0 := by simpa using hf
        simpa using tord_trans how (h i j a b h1 ha hb) hf'
      · subst h1; rw [ha] at hb; cases hb; exact hf
/-- Places of a list with one put in. -/
theorem put_way {α : Type} {l : List α} {p : Nat} {x a : α} (hp : p ≤ l.length) {i : Nat} (h : (l.take p ++ x :: l.drop p)[i]? = some a) : (i < p ∧ l[i]? = some a) ∨ (i = p ∧ a = x) ∨ ∃ i', i = i' + 1 ∧ p ≤ i' ∧ l[i']? = some a := by
  rcases Nat.lt_trichotomy i p with h1 | h1 | h1
  · refine .inl ⟨h1, ?_⟩
    rw [List.getElem?_append_left (by simp; omega), List.getElem?_take_of_lt h1] at h
    exact h
  · subst h1
    rw [List.getElem?_append_right (by simp; omega)] at h
    simp [Nat.min_eq_left hp] at h
    exact .inr (.inl ⟨rfl, h.symm⟩)
  · obtain ⟨i', rfl⟩ : ∃ i', i = i' + 1 := ⟨i - 1, by omega⟩
    refine .inr (.inr ⟨i', rfl, by omega, ?_⟩)
    rw [List.getElem?_append_right (by simp; omega)] at h
    simp only [List.length_take, Nat.min_eq_left hp] at h
    rw [show i' + 1 - p = (i' - p) + 1 by omega, List.getElem?_cons_succ, List.getElem?_drop, show p + (i' - p) = i' by omega] at h
    exact h
theorem sortE_put {how : Int} {E : List Ent} (h : SortE how E) (x : Ent) {p : Nat} (hc : CutE how E x.u x.s x.k p) (hn : eisB E p x = false) : SortE how (eins E p x) := by
  have hx : ∀ i e, p ≤ i → E[i]? = some e → olt how x e := by
    intro i e hi he
    have h1 := hc.hi i e hi he
    unfold okey at h1
    have h2 := ordK_neg how e.u e.s e.k x.u x.s x.k
    by_cases z : ordK how e.u e.s e.k x.u x.s x.k = 0
    · exfalso
      obtain ⟨z1, z2, z3⟩ := (ordK_zero _ _ _ _ _ _ _).1 z
      rcases Nat.lt_or_eq_of_le hi with h3 | h3
      · obtain ⟨e0, he0⟩ : ∃ e0, E[p]? = some e0 := ⟨E[p]'(by have := (List.getElem?_eq_some_iff.1 he).1; omega), List.getElem?_eq_getElem _⟩
        have h4 := h p i e0 e h3 he0 he
        have h5 := hc.hi p e0 (Nat.le_refl _) he0
        unfold okey at h5
        have : ordK how e0.u e0.s e0.k x.u x.s x.k < 0 := by rw [← z1, ← z2, ← z3]; exact h4
        exact h5 this
      · subst h3
        unfold eisB at hn
        rw [he] at hn
        simp at hn
        exact hn z1 z2 z3
    · show _ < 0
      omega
  intro i j a b hij ha hb
  unfold eins at ha hb
  rcases put_way hc.le ha with ⟨h1, h2⟩ | ⟨rfl, rfl⟩ | ⟨i', rfl, h1, h2⟩ <;> rcases put_way hc.le hb with ⟨g1, g2⟩ | ⟨rfl, rfl⟩ | ⟨j', rfl, g1, g2⟩
  · exact h i j a b hij h2 g2
  · exact hc.lo i a h1 h2
  · exact h i j' a b (by omega) h2 g2
  · omega
  · omega
  · exact hx j' b g1 g2
  · omega
  · omega
  · exact h i' j' a b (by omega) h2 g2
theorem sortT_put {how : Int} {R : List Tm} (h : SortT how R) (x : Tm) {p : Nat} (hc : TCut how R x p) (hn : tis how R x p = false) : SortT how (tins R p x) := by
  have hx : ∀ i e, p ≤ i → R[i]? = some e → tord how x e < 0 := by
    intro i e hi he
    have h1 := hc.hi i e hi he
    refine tord_or how e x h1 ?_
    rintro rfl
    rcases Nat.lt_or_eq_of_le hi with h3 | h3
    · obtain ⟨e0, he0⟩ : ∃ e0, R[p]? = some e0 := ⟨R[p]'(by have := (List.getElem?_eq_some_iff.1 he).1; omega), List.getElem?_eq_getElem _⟩
      exact hc.hi p e0 (Nat.le_refl _) he0 (h p i e0 e h3 he0 he)
    · subst h3
      unfold tis at hn
      rw [he] at hn
      simp at hn
      exact hn ((tord_zero how e e).2 rfl)
  intro i j a b hij ha hb
  unfold tins at ha hb
  rcases put_way hc.le ha with ⟨h1, h2⟩ | ⟨rfl, rfl⟩ | ⟨i', rfl, h1, h2⟩ <;> rcases put_way hc.le hb with ⟨g1, g2⟩ | ⟨rfl, rfl⟩ | ⟨j', rfl, g1, g2⟩
  · exact h i j a b hij h2 g2
  · exact hc.lo i a h1 h2
  · exact h i j' a b (by omega) h2 g2
  · omega
  · omega
  · exact hx j' b g1 g2
  · omega
  · omega
  · exact h i' j' a b (by omega) h2 g2
end Go.Proofs.YtocanjefonlnaaaDoor
