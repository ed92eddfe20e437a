import Derived.Test.YtedmfabonnpblaaMa
import Derived.Laws.Concat
namespace Go.Proofs.Ytedmfabonnpblaa
open Go.Lib (compareBytes)
set_option linter.unusedVariables false
set_option linter.unusedSimpArgs false

/-- a up to its byte i, with that one more. -/
def raiseV (a : ByteArray) (i : Nat) : ByteArray := a.extract 0 i ++ ⟨#[UInt8.ofNat (((a.data.toList.getD i 0).toNat + 1) % 256)]⟩
theorem raise_eq (a : ByteArray) (i : Nat) (h : i < a.size) : a.extract 0 i ++ ⟨#[UInt8.ofNat ((a[i].toNat + 1) % 256)]⟩ = raiseV a i := by
  unfold raiseV
  have e : a.data.toList.getD i 0 = a[i] := by
    rw [List.getD_eq_getElem?_getD, List.getElem?_eq_getElem (by simpa using h)]
    rfl
  rw [e]
/-- How many bytes two lists have in common at their beginnings. -/
def shl : List UInt8 → List UInt8 → Nat
  | x :: xs, y :: ys => if x = y then shl xs ys + 1 else 0
  | _, _ => 0
theorem shl_end : ∀ (k : Nat) (a b : List UInt8), (∀ j, j < k → a[j]? = b[j]?) → k ≤ a.length → k ≤ b.length → (k = a.length ∨ k = b.length ∨ a[k]? ≠ b[k]?) → shl a b = k
  | 0, [], b, _, _, _, _ => by simp [shl]
  | 0, _ :: _, [], _, _, _, _ => by simp [shl]
  | 0, x :: xs, y :: ys, _, _, _, h => by
    have : x ≠ y := by simpa using h
    simp [shl, this]
  | k + 1, [], _, _, h, _, _ => by simp at h
  | k + 1, _ :: _, [], _, _, h, _ => by simp at h
  | k + 1, x :: xs, y :: ys, hj, h1, h2, h => by
    have e : x = y := by simpa using hj 0 (by omega)
    have := shl_end k xs ys (fun j hjk => by simpa using hj (j + 1) (by omega)) (by simpa using h1) (by simpa using h2) (by simpa using h)
    simp [shl, e, this]

theorem ne_test {x y : UInt8} (h : ((x.toNat : Int) != (y.toNat : Int)) = true) : x ≠ y := by
  rintro rfl; simp at h
theorem eq_test {x y : UInt8} (h : ((x.toNat : Int) != (y.toNat : Int)) = false) : x = y := by
  have : (x.toNat : Int) = (y.toNat : Int) := by simpa using h
  exact UInt8.toNat_inj.1 (by omega)
theorem sh_next {a b : List UInt8} {k : Nat} {x y : UInt8} (h : ∀ j, j < k → a[j]? = b[j]?) (ha : a[k]? = some x) (hb : b[k]? = some y) (e : x = y) : ∀ j, j < k + 1 → a[j]? = b[j]? := by
  intro j hj
  by_cases hjk : j < k
  · exact h j hjk
  · obtain rfl : j = k := by omega
    rw [ha, hb, e]
theorem sh_stop {a b : List UInt8} {k : Nat} {x y : UInt8} (ha : a[k]? = some x) (hb : b[k]? = some y) (e : x ≠ y) : a[k]? ≠ b[k]? := by
  rw [ha, hb]; simpa using e


theorem extr (s : ByteArray) (k : Nat) : (s.extract 0 k).data.toList = s.data.toList.take k := by
  cases s with | mk d => simp [ByteArray.extract, ByteArray.copySlice]
theorem dapp (a b : ByteArray) : (a ++ b).data.toList = a.data.toList ++ b.data.toList := by
  obtain ⟨a⟩ := a
  obtain ⟨b⟩ := b
  rw [ByteArray.mk_append_mk]
theorem raise_list (a : ByteArray) (i : Nat) : (raiseV a i).data.toList = a.data.toList.take i ++ [UInt8.ofNat (((a.data.toList.getD i 0).toNat + 1) % 256)] := by
  unfold raiseV; rw [dapp, extr]
theorem raise_size (a : ByteArray) (i : Nat) (h : i < a.size) : (raiseV a i).size ≤ a.size := by
  have e : (raiseV a i).size = (raiseV a i).data.toList.length := by simp
  rw [e, raise_list]; simp; omega
/-- A list is ahead of itself up to i with that byte more. -/
theorem cb_raise : ∀ (l : List UInt8) (i : Nat) (c : UInt8), l[i]? = some c → c.toNat < 255 → compareBytes l (l.take i ++ [UInt8.ofNat (((l.getD i 0).toNat + 1) % 256)]) = -1
  | [], i, c, h, _ => by simp at h
  | x :: xs, 0, c, h, hc => by
    have e : x = c := by simpa using h
    subst e
    have hlt : x < UInt8.ofNat (x.toNat + 1) := by
      rw [UInt8.lt_iff_toNat_lt, UInt8.toNat_ofNat']; omega
    have e2 : (x.toNat + 1) % 256 = x.toNat + 1 := by omega
    simp only [List.take_zero, List.nil_append, List.getD_cons_zero, e2]
    unfold compareBytes; rw [if_pos hlt]
  | x :: xs, i + 1, c, h, hc => by
    have ih := cb_raise xs i c (by simpa using h) hc
    have hx : ¬ x < x := by rw [UInt8.lt_iff_toNat_lt]; omega
    simp only [List.take_succ_cons, List.cons_append, List.getD_cons_succ]
    unfold compareBytes; rw [if_neg hx, if_neg hx]; exact ih
/-- .. and that is ahead of another list whose byte i is greater still. -/
theorem cb_raise_lt : ∀ (l m : List UInt8) (i : Nat) (c d : UInt8), (∀ j, j < i → l[j]? = m[j]?) → l[i]? = some c → m[i]? = some d → c.toNat + 1 < d.toNat → compareBytes (l.take i ++ [UInt8.ofNat (((l.getD i 0).toNat + 1) % 256)]) m = -1
  | [], _, i, c, d, _, h, _, _ => by simp at h
  | _ :: _, [], i, c, d, _, _, h, _ => by simp at h
  | x :: xs, y :: ys, 0, c, d, _, h, h', hc => by
    have e : x = c := by simpa using h
    have e' : y = d := by simpa using h'
    subst e e'
    have hd := y.toNat_lt
    have hlt : UInt8.ofNat (x.toNat + 1) < y := by
      rw [UInt8.lt_iff_toNat_lt, UInt8.toNat_ofNat']; omega
    have e2 : (x.toNat + 1) % 256 = x.toNat + 1 := by omega
    simp only [List.take_zero, List.nil_append, List.getD_cons_zero, e2]
    unfold compareBytes; rw [if_pos hlt]
  | x :: xs, y :: ys, i + 1, c, d, hj, h, h', hc => by
    have e : x = y := by simpa using hj 0 (by omega)
    subst e
    have ih := cb_raise_lt xs ys i c d (fun j hji => by simpa using hj (j + 1) (by omega)) (by simpa using h) (by simpa using h') hc
    have hx : ¬ x < x := by rw [UInt8.lt_iff_toNat_lt]; omega
    simp only [List.take_succ_cons, List.cons_append, List.getD_cons_succ]
    unfold compareBytes; rw [if_neg hx, if_neg hx]; exact ih
/-- What 'less' says of the first byte that differs. -/
theorem less_shl : ∀ (a b : List UInt8), Op.bytesLess a b = true → (∀ j, j < shl a b → a[j]? = b[j]?) ∧ (shl a b = a.length ∨ ∃ c d, a[shl a b]? = some c ∧ b[shl a b]? = some d ∧ c.toNat < d.toNat)
  | [], [], h => by simp [Op.bytesLess] at h
  | [], _ :: _, _ => by simp [shl]
  | _ :: _, [], h => by simp [Op.bytesLess] at h
  | x :: xs, y :: ys, h => by
    unfold Op.bytesLess at h
    by_cases e : x = y
    · subst e
      have hx : ¬ x < x := by rw [UInt8.lt_iff_toNat_lt]; omega
      have h' : Op.bytesLess xs ys = true := by simpa [hx] using h
      obtain ⟨i1, i2⟩ := less_shl xs ys h'
      have es : shl (x :: xs) (x :: ys) = shl xs ys + 1 := by simp [shl]
      rw [es]
      refine ⟨?_, ?_⟩
      · intro j hj
        match j, hj with
        | 0, _ => rfl
        | j + 1, hj => simpa using i1 j (by omega)
      · rcases i2 with i2 | ⟨c, d, h1, h2, h3⟩
        · left; simp [i2]
        · exact .inr ⟨c, d, by simpa using h1, by simpa using h2, h3⟩
    · have hlt : x < y := by simpa [e] using h
      have es : shl (x :: xs) (y :: ys) = 0 := by simp [shl, e]
      rw [es]
      exact ⟨fun j hj => absurd hj (Nat.not_lt_zero _), .inr ⟨x, y, rfl, rfl, UInt8.lt_iff_toNat_lt.1 hlt⟩⟩

/-- Between. -/
def btwV (how : Int) (a b : ByteArray) : ByteArray :=
  if how = 0 ∧ Op.bytesLess a.toList b.toList = true ∧ shl a.data.toList b.data.toList < a.size ∧ (a.data.toList.getD (shl a.data.toList b.data.toList) 0).toNat + 1 < (b.data.toList.getD (shl a.data.toList b.data.toList) 0).toNat
  then raiseV a (shl a.data.toList b.data.toList) else a
/-- After. -/
def aftV (how : Int) (a : ByteArray) : ByteArray :=
  if how = 0 then (match a.data.toList.findIdx? (fun c => decide (c.toNat < 255)) with | some i => raiseV a i | none => a) else a
theorem btwV_no {how : Int} {a b : ByteArray} (h : ¬ (how = 0 ∧ Op.bytesLess a.toList b.toList = true)) : btwV how a b = a := by
  unfold btwV; rw [if_neg (fun x => h ⟨x.1, x.2.1⟩)]
theorem aftV_no {how : Int} {a : ByteArray} (h : ¬ how = 0) : aftV how a = a := by unfold aftV; rw [if_neg h]
theorem aftV_some {how : Int} {a : ByteArray} {k : Nat} {c : UInt8} (h : how = 0) (hj : ∀ j, j < k → ∀ c, a.data.toList[j]? = some c → ¬ c.toNat < 255) (hk : a.data.toList[k]? = some c) (hc : c.toNat < 255) : aftV how a = raiseV a k := by
  unfold aftV; rw [if_pos h]
  have : a.data.toList.findIdx? (fun c => decide (c.toNat < 255)) = some k := by
    obtain ⟨hlt, he⟩ := List.getElem?_eq_some_iff.1 hk
    rw [List.findIdx?_eq_some_iff_getElem]
    refine ⟨hlt, by rw [he]; simpa using hc, fun j hjk => ?_⟩
    have := hj j hjk _ (List.getElem?_eq_getElem (by omega))
    simpa using this
  rw [this]
theorem aftV_none {how : Int} {a : ByteArray} (hj : ∀ j, j < a.size → ∀ c, a.data.toList[j]? = some c → ¬ c.toNat < 255) : aftV how a = a := by
  unfold aftV
  split
  · have : a.data.toList.findIdx? (fun c => decide (c.toNat < 255)) = none := by
      rw [List.findIdx?_eq_none_iff]
      intro x hx
      obtain ⟨j, hjl, rfl⟩ := List.mem_iff_getElem.1 hx
      have := hj j (by simpa using hjl) _ (List.getElem?_eq_getElem hjl)
      simpa using this
    rw [this]
  · rfl
theorem at_some {a : ByteArray} {i : Nat} (h : i < a.size) : ∃ c, a.data.toList[i]? = some c ∧ a.data.toList.getD i 0 = c := by
  have h' : i < a.data.toList.length := by simpa using h
  exact ⟨_, List.getElem?_eq_getElem h', by rw [List.getD_eq_getElem?_getD, List.getElem?_eq_getElem h']; rfl⟩
theorem aftV_size (how : Int) (a : ByteArray) : (aftV how a).size ≤ a.size := by
  unfold aftV
  split
  · split
    · rename_i i hi
      obtain ⟨hlt, _⟩ := List.findIdx?_eq_some_iff_getElem.1 hi
      exact raise_size a i (by simpa using hlt)
    · exact Nat.le_refl _
  · exact Nat.le_refl _
theorem btwV_size (how : Int) (a b : ByteArray) : (btwV how a b).size ≤ a.size := by
  unfold btwV
  split
  · rename_i h; exact raise_size a _ h.2.2.1
  · exact Nat.le_refl _
theorem cmpS_self (a : ByteArray) : cmpS a a = 0 := (cmpS_zero _ _).2 rfl
theorem cmpH_self (how : Int) (a : ByteArray) : cmpH how a a = 0 := (cmpH_zero _ _ _).2 rfl
theorem aftV_cmp (how : Int) (a : ByteArray) : cmpH how a (aftV how a) ≤ 0 := by
  by_cases h : how = 0
  · unfold aftV; rw [if_pos h]
    split
    · rename_i i hi
      obtain ⟨hlt, hc, _⟩ := List.findIdx?_eq_some_iff_getElem.1 hi
      have : cmpS a (raiseV a i) = -1 := by
        unfold cmpS; rw [raise_list]
        exact cb_raise _ _ _ (List.getElem?_eq_getElem hlt) (by simpa using hc)
      unfold cmpH; rw [if_neg (by omega)]; omega
    · rw [cmpH_self]; exact Int.le_refl _
  · rw [aftV_no h, cmpH_self]; exact Int.le_refl _
theorem btwV_cmp (how : Int) (a b : ByteArray) (h : cmpH how a b < 0) : cmpH how a (btwV how a b) ≤ 0 ∧ cmpH how (btwV how a b) b < 0 := by
  unfold btwV
  split
  · rename_i hh
    obtain ⟨h0, h1, h2, h3⟩ := hh
    rw [ByteArray.toList_eq, ByteArray.toList_eq] at h1
    obtain ⟨p, q⟩ := less_shl _ _ h1
    rcases q with q | ⟨c, d, q1, q2, q3⟩
    · rw [q] at h2; simp at h2
    · have g1 : a.data.toList.getD (shl a.data.toList b.data.toList) 0 = c := by rw [List.getD_eq_getElem?_getD, q1]; rfl
      have g2 : b.data.toList.getD (shl a.data.toList b.data.toList) 0 = d := by rw [List.getD_eq_getElem?_getD, q2]; rfl
      rw [g1, g2] at h3
      have hd := d.toNat_lt
      have e1 : cmpS a (raiseV a (shl a.data.toList b.data.toList)) = -1 := by
        unfold cmpS; rw [raise_list]; exact cb_raise _ _ c q1 (by omega)
      have e2 : cmpS (raiseV a (shl a.data.toList b.data.toList)) b = -1 := by
        unfold cmpS; rw [raise_list]; exact cb_raise_lt _ _ _ c d p q1 q2 h3
      unfold cmpH; rw [if_neg (by omega), if_neg (by omega)]; omega
  · rw [cmpH_self]; exact ⟨Int.le_refl _, h⟩
end Go.Proofs.Ytedmfabonnpblaa
