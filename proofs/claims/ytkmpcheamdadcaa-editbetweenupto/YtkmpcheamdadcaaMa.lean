import Derived.Lib.Bytealg
import Derived.Laws.Cover1
namespace Go.Proofs.Ytkmpcheamdadcaa
open Go.Lib (compareBytes)

theorem cb_cases : ∀ a b : List UInt8, compareBytes a b = -1 ∨ compareBytes a b = 0 ∨ compareBytes a b = 1
  | [], [] => by simp [compareBytes]
  | [], _ :: _ => by simp [compareBytes]
  | _ :: _, [] => by simp [compareBytes]
  | a :: as, b :: bs => by
    have := cb_cases as bs
    unfold compareBytes; split <;> (try split) <;> simp [*]
theorem cb_neg : ∀ a b : List UInt8, compareBytes b a = - compareBytes a b
  | [], [] => by simp [compareBytes]
  | [], _ :: _ => by simp [compareBytes]
  | _ :: _, [] => by simp [compareBytes]
  | a :: as, b :: bs => by
    have ih := cb_neg as bs
    unfold compareBytes
    by_cases h1 : a < b
    · have h2 : ¬ b < a := by rw [UInt8.lt_iff_toNat_lt] at *; omega
      simp [h1, h2]
    · by_cases h2 : b < a
      · simp [h1, h2]
      · simp [h1, h2, ih]
theorem u8_eq {a b : UInt8} (h1 : ¬ a < b) (h2 : ¬ b < a) : a = b := by
  rw [UInt8.lt_iff_toNat_lt] at *
  exact UInt8.toNat_inj.1 (by omega)
theorem cb_zero : ∀ a b : List UInt8, compareBytes a b = 0 ↔ a = b
  | [], [] => by simp [compareBytes]
  | [], _ :: _ => by simp [compareBytes]
  | _ :: _, [] => by simp [compareBytes]
  | a :: as, b :: bs => by
    have ih := cb_zero as bs
    unfold compareBytes
    by_cases h1 : a < b
    · have : a ≠ b := by rintro rfl; rw [UInt8.lt_iff_toNat_lt] at h1; omega
      simp [h1, this]
    · by_cases h2 : b < a
      · have : a ≠ b := by rintro rfl; rw [UInt8.lt_iff_toNat_lt] at h2; omega
        simp [h1, h2, this]
      · rw [if_neg h1, if_neg h2, ih, u8_eq h1 h2]; simp
theorem cb_less : ∀ a b : List UInt8, compareBytes a b = -1 ↔ Op.bytesLess a b = true
  | [], [] => by simp [compareBytes, Op.bytesLess]
  | [], _ :: _ => by simp [compareBytes, Op.bytesLess]
  | _ :: _, [] => by simp [compareBytes, Op.bytesLess]
  | a :: as, b :: bs => by
    have ih := cb_less as bs
    unfold compareBytes Op.bytesLess
    by_cases h1 : a < b
    · simp [h1]
    · by_cases h2 : b < a
      · have : a ≠ b := by rintro rfl; rw [UInt8.lt_iff_toNat_lt] at h2; omega
        simp [h1, h2, this]
      · rw [if_neg h1, if_neg h2, ih, u8_eq h1 h2]; simp
theorem u8_trans {a b c : UInt8} (h1 : a < b) (h2 : b < c) : a < c := by
  rw [UInt8.lt_iff_toNat_lt] at *; omega
/-- One behind the other. -/
theorem cb_trans : ∀ a b c : List UInt8, compareBytes a b ≤ 0 → compareBytes b c ≤ 0 → compareBytes a c ≤ 0
  | [], _, [] => by simp [compareBytes]
  | [], _, _ :: _ => by simp [compareBytes]
  | _ :: _, [], _ => by simp [compareBytes]
  | _ :: _, _ :: _, [] => by simp [compareBytes]
  | a :: as, b :: bs, c :: cs => by
    have ih := cb_trans as bs cs
    unfold compareBytes
    by_cases h1 : a < b
    · by_cases h2 : b < c
      · simp [u8_trans h1 h2]
      · by_cases h3 : c < b
        · simp [h2, h3]
        · have e := u8_eq h2 h3; subst e; simp [h1]
    · by_cases h2 : b < a
      · simp [h1, h2]
      · have e := u8_eq h1 h2; subst e
        by_cases h3 : a < c
        · simp [h3]
        · by_cases h4 : c < a
          · simp [h3, h4]
          · simpa [h1, h3, h4] using ih

def cmpI (a b : Int) : Int := if a < b then -1 else if b < a then 1 else 0
def cmpS (a b : ByteArray) : Int := compareBytes a.data.toList b.data.toList
def cmpH (how : Int) (a b : ByteArray) : Int := if how = 1 then cmpS b a else cmpS a b
/-- The order of keys (user, number, kind). -/
def ordK (how : Int) (u : ByteArray) (s k : Int) (u' : ByteArray) (s' k' : Int) : Int :=
  if cmpH how u u' = 0 then (if cmpI s' s = 0 then cmpI k' k else cmpI s' s) else cmpH how u u'

theorem cmpI_cases (a b : Int) : cmpI a b = -1 ∨ cmpI a b = 0 ∨ cmpI a b = 1 := by unfold cmpI; split <;> (try split) <;> simp
theorem cmpI_zero (a b : Int) : cmpI a b = 0 ↔ a = b := by unfold cmpI; split <;> (try split) <;> simp <;> omega
theorem cmpI_neg (a b : Int) : cmpI b a = - cmpI a b := by unfold cmpI; split <;> (try split) <;> (try split) <;> simp <;> omega
theorem cmpI_neg1 (a b : Int) : cmpI a b = -1 ↔ a < b := by unfold cmpI; split <;> (try split) <;> simp <;> omega
theorem cmpI_one (a b : Int) : cmpI a b = 1 ↔ b < a := by unfold cmpI; split <;> (try split) <;> simp <;> omega

theorem ba_eq {a b : ByteArray} : a.data.toList = b.data.toList ↔ a = b := by
  constructor
  · intro h; cases a; cases b; simp at h; subst h; rfl
  · rintro rfl; rfl
theorem cmpS_cases (a b : ByteArray) : cmpS a b = -1 ∨ cmpS a b = 0 ∨ cmpS a b = 1 := cb_cases _ _
theorem cmpS_neg (a b : ByteArray) : cmpS b a = - cmpS a b := cb_neg _ _
theorem cmpS_zero (a b : ByteArray) : cmpS a b = 0 ↔ a = b := (cb_zero _ _).trans ba_eq
theorem cmpS_less (a b : ByteArray) : cmpS a b = -1 ↔ Op.bytesLess a.toList b.toList = true := by
  rw [ByteArray.toList_eq, ByteArray.toList_eq]; exact cb_less _ _
theorem cmpS_trans (a b c : ByteArray) : cmpS a b ≤ 0 → cmpS b c ≤ 0 → cmpS a c ≤ 0 := cb_trans _ _ _
theorem cmpH_cases (how : Int) (a b : ByteArray) : cmpH how a b = -1 ∨ cmpH how a b = 0 ∨ cmpH how a b = 1 := by
  unfold cmpH; split <;> exact cmpS_cases _ _
theorem cmpH_neg (how : Int) (a b : ByteArray) : cmpH how b a = - cmpH how a b := by
  unfold cmpH; split <;> exact cmpS_neg _ _
theorem cmpH_zero (how : Int) (a b : ByteArray) : cmpH how a b = 0 ↔ a = b := by
  unfold cmpH; split
  · rw [cmpS_zero]; exact eq_comm
  · exact cmpS_zero _ _
theorem cmpH_trans (how : Int) (a b c : ByteArray) : cmpH how a b ≤ 0 → cmpH how b c ≤ 0 → cmpH how a c ≤ 0 := by
  unfold cmpH; split
  · intro h1 h2; exact cmpS_trans _ _ _ h2 h1
  · exact cmpS_trans _ _ _
theorem ordK_cases (how : Int) (u : ByteArray) (s k : Int) (u' : ByteArray) (s' k' : Int) :
    ordK how u s k u' s' k' = -1 ∨ ordK how u s k u' s' k' = 0 ∨ ordK how u s k u' s' k' = 1 := by
  unfold ordK; split
  · split
    · exact cmpI_cases _ _
    · exact cmpI_cases _ _
  · exact cmpH_cases _ _ _
theorem ordK_neg (how : Int) (u : ByteArray) (s k : Int) (u' : ByteArray) (s' k' : Int) :
    ordK how u' s' k' u s k = - ordK how u s k u' s' k' := by
  unfold ordK
  rw [cmpH_neg how u u', cmpI_neg s' s, cmpI_neg k' k]
  have h1 : (-cmpH how u u' = 0) ↔ cmpH how u u' = 0 := by omega
  have h2 : (-cmpI s' s = 0) ↔ cmpI s' s = 0 := by omega
  simp only [h1, h2]
  split
  · split <;> rfl
  · rfl
theorem ordK_zero (how : Int) (u : ByteArray) (s k : Int) (u' : ByteArray) (s' k' : Int) :
    ordK how u s k u' s' k' = 0 ↔ (u = u' ∧ s = s' ∧ k = k') := by
  unfold ordK
  by_cases h1 : cmpH how u u' = 0
  · have e := (cmpH_zero _ _ _).1 h1
    by_cases h2 : cmpI s' s = 0
    · have e2 := (cmpI_zero _ _).1 h2
      rw [if_pos h1, if_pos h2, cmpI_zero]; exact ⟨fun h => ⟨e, e2.symm, h.symm⟩, fun h => h.2.2.symm⟩
    · have : ¬ s = s' := fun h => h2 ((cmpI_zero _ _).2 h.symm)
      simp [h1, h2, this]
  · have : ¬ u = u' := fun h => h1 ((cmpH_zero _ _ _).2 h)
    simp [h1, this]
theorem sk_le (s k s' k' : Int) : (if cmpI s' s = 0 then cmpI k' k else cmpI s' s) ≤ 0 ↔ (s' < s ∨ (s = s' ∧ k' ≤ k)) := by
  have a := cmpI_cases s' s
  have b := cmpI_zero s' s
  have c := cmpI_neg1 s' s
  have d := cmpI_one s' s
  have a' := cmpI_cases k' k
  have b' := cmpI_zero k' k
  have c' := cmpI_neg1 k' k
  have d' := cmpI_one k' k
  split <;> omega
theorem ordK_trans (how : Int) (u : ByteArray) (s k : Int) (u' : ByteArray) (s' k' : Int) (u'' : ByteArray) (s'' k'' : Int)
    (h1 : ordK how u s k u' s' k' ≤ 0) (h2 : ordK how u' s' k' u'' s'' k'' ≤ 0) : ordK how u s k u'' s'' k'' ≤ 0 := by
  by_cases e1 : u = u'
  · subst e1
    by_cases e2 : u = u''
    · subst e2
      have z : cmpH how u u = 0 := (cmpH_zero _ _ _).2 rfl
      unfold ordK at h1 h2 ⊢
      rw [if_pos z, sk_le] at h1 h2 ⊢
      omega
    · have z : ¬ cmpH how u u'' = 0 := fun h => e2 ((cmpH_zero _ _ _).1 h)
      unfold ordK at h2 ⊢
      rw [if_neg z] at h2 ⊢
      exact h2
  · have z : ¬ cmpH how u u' = 0 := fun h => e1 ((cmpH_zero _ _ _).1 h)
    have a1 : cmpH how u u' ≤ 0 := by unfold ordK at h1; simpa [z] using h1
    by_cases e2 : u' = u''
    · subst e2
      unfold ordK; simpa [z] using a1
    · have z2 : ¬ cmpH how u' u'' = 0 := fun h => e2 ((cmpH_zero _ _ _).1 h)
      have a2 : cmpH how u' u'' ≤ 0 := by unfold ordK at h2; simpa [z2] using h2
      have a3 := cmpH_trans how u u' u'' a1 a2
      by_cases e3 : u = u''
      · subst e3
        have := cmpH_neg how u u'
        omega
      · have z3 : ¬ cmpH how u u'' = 0 := fun h => e3 ((cmpH_zero _ _ _).1 h)
        unfold ordK; simpa [z3] using a3
theorem ordK_strict (how : Int) (u : ByteArray) (s k : Int) (u' : ByteArray) (s' k' : Int) (u'' : ByteArray) (s'' k'' : Int)
    (h1 : ordK how u s k u' s' k' < 0) (h2 : ordK how u' s' k' u'' s'' k'' ≤ 0) : ordK how u s k u'' s'' k'' < 0 := by
  have h3 := ordK_trans how u s k u' s' k' u'' s'' k'' (by omega) h2
  by_cases z : ordK how u s k u'' s'' k'' = 0
  · obtain ⟨rfl, rfl, rfl⟩ := (ordK_zero _ _ _ _ _ _ _).1 z
    have := ordK_neg how u s k u' s' k'
    omega
  · omega
end Go.Proofs.Ytkmpcheamdadcaa
