import Derived.Test.YtocanjefonlnaaaDoorY
namespace Go.Proofs.YtocanjefonlnaaaDoor
set_option linter.unusedVariables false
set_option linter.unusedSimpArgs false
/-- The entry that whoever sees up to seq finds. -/
def look (E : List Ent) (key : ByteArray) (seq : Int) : Option Ent := E.find? (fun e => decide (e.u = key ∧ e.s ≤ seq))
def gV (o : Option Ent) (r : Int × Bool) : ByteArray × Int × Bool :=
  match o with
  | some n => if r.2 = true ∧ n.s < r.1 then (⟨#[]⟩, 2, true) else (n.v, n.k, true)
  | none => if r.2 = true then (⟨#[]⟩, 2, true) else (⟨#[]⟩, 0, false)
theorem ordK_same (how : Int) (u : ByteArray) (s k s' k' : Int) : ordK how u s k u s' k' < 0 ↔ s' < s ∨ (s = s' ∧ k' < k) := by
  have z : cmpH how u u = 0 := (cmpH_zero _ _ _).2 rfl
  unfold ordK
  rw [if_pos z]
  have a := cmpI_cases s' s
  have b := cmpI_zero s' s
  have c := cmpI_neg1 s' s
  have a' := cmpI_cases k' k
  have c' := cmpI_neg1 k' k
  split <;> omega
theorem ordK_user {how : Int} {u : ByteArray} {s k : Int} {u' : ByteArray} {s' k' : Int} (h : ordK how u s k u' s' k' ≤ 0) : cmpH how u u' ≤ 0 := by
  unfold ordK at h
  split at h <;> omega
theorem find_first {α : Type} (f : α → Bool) : ∀ (l : List α) (p : Nat) (a : α), l[p]? = some a → f a = true → (∀ i b, i < p → l[i]? = some b → f b = false) → l.find? f = some a
  | [], p, a, h, _, _ => by simp at h
  | x :: r, p, a, h, hf, hb => by
    cases p with
    | zero => simp at h; subst h; simp [List.find?_cons, hf]
    | succ p =>
      have : f x = false := hb 0 x (by omega) rfl
      rw [List.find?_cons, this]
      exact find_first f r p a (by simpa using h) hf (fun i b hi hb' => hb (i + 1) b (by omega) (by simpa using hb'))
/-- What Get tells, by what is found. -/
theorem getV_look {how : Int} {E : List Ent} (hs : SortE how E) (hk : ∀ e ∈ E, 0 ≤ e.k ∧ e.k ≤ 1) (R : List Tm) (key : ByteArray) (seq : Int) :
    getV how E R key seq (posE how E key seq 2) = gV (look E key seq) (ovr how key seq R (0, false)) := by
  have hc := cutE_pos hs key seq 2
  generalize posE how E key seq 2 = p at hc
  have hlow : ∀ i b, i < p → E[i]? = some b → decide (b.u = key ∧ b.s ≤ seq) = false := by
    intro i b hi hb
    have h1 := hc.lo i b hi hb
    simp only [decide_eq_false_iff_not]
    rintro ⟨rfl, h2⟩
    unfold okey at h1
    rw [ordK_same] at h1
    have := hk b (List.mem_of_getElem? hb)
    omega
  unfold getV
  cases e : E[p]? with
  | none =>
    have : look E key seq = none := by
      unfold look
      rw [List.find?_eq_none]
      intro x hx
      obtain ⟨i, hi⟩ := List.mem_iff_getElem?.1 hx
      have : E.length ≤ p := List.getElem?_eq_none_iff.1 e
      have := hlow i x (by have := (List.getElem?_eq_some_iff.1 hi).1; omega) hi
      simpa using this
    rw [this]; rfl
  | some n =>
    have h1 := hc.hi p n (Nat.le_refl _) e
    by_cases hu : n.u = key
    · have hs' : n.s ≤ seq := by
        unfold okey at h1
        rw [hu, ordK_same] at h1
        omega
      have : look E key seq = some n := find_first _ E p n e (by simp [hu, hs']) hlow
      rw [this]
      simp only [gV, if_pos hu]
    · have : look E key seq = none := by
        unfold look
        rw [List.find?_eq_none]
        intro x hx
        obtain ⟨i, hi⟩ := List.mem_iff_getElem?.1 hx
        rcases Nat.lt_or_ge i p with hip | hip
        · have := hlow i x hip hi; simpa using this
        · rcases Nat.lt_or_eq_of_le hip with h2 | h2
          · have h3 := hs p i n x h2 e hi
            intro hx2
            have hx3 : x.u = key ∧ x.s ≤ seq := by simpa using hx2
            -- n stands between the key and x
            have a1 : cmpH how n.u x.u ≤ 0 := ordK_user (s := n.s) (k := n.k) (s' := x.s) (k' := x.k) (Int.le_of_lt h3)
            have a2 : ordK how key seq 2 n.u n.s n.k ≤ 0 := by
              have := ordK_neg how n.u n.s n.k key seq 2
              unfold okey at h1; omega
            have a3 := ordK_user a2
            rw [hx3.1] at a1
            have := cmpH_neg how n.u key
            exact hu ((cmpH_zero how n.u key).1 (by omega))
          · subst h2
            rw [e] at hi; cases hi
            simp [hu]
      rw [this]
      simp only [gV, if_neg hu]
theorem look_eins (E : List Ent) (p : Nat) (x : Ent) (key : ByteArray) (seq : Int) (h : ¬ (x.u = key ∧ x.s ≤ seq)) : look (eins E p x) key seq = look E key seq := by
  unfold look eins
  rw [List.find?_append, List.find?_cons, decide_eq_false h]
  conv => rhs; rw [← List.take_append_drop p E, List.find?_append]
theorem look_top {how : Int} {E : List Ent} {x : Ent} {p : Nat} (hc : CutE how E x.u x.s x.k p) (seq : Int) (h1 : x.s ≤ seq) (h2 : ∀ e ∈ E, e.s < x.s) : look (eins E p x) x.u seq = some x := by
  unfold look eins
  rw [List.find?_append, List.find?_cons, decide_eq_true ⟨rfl, h1⟩]
  have : (E.take p).find? (fun e => decide (e.u = x.u ∧ e.s ≤ seq)) = none := by
    rw [List.find?_eq_none]
    intro e he
    obtain ⟨i, hi⟩ := List.mem_iff_getElem?.1 he
    have hip : i < p := by have := (List.getElem?_eq_some_iff.1 hi).1; simp at this; omega
    rw [List.getElem?_take_of_lt hip] at hi
    have h3 := hc.lo i e hip hi
    intro hh
    have hh' : e.u = x.u ∧ e.s ≤ seq := by simpa using hh
    unfold okey at h3
    rw [hh'.1, ordK_same] at h3
    have := h2 e (List.mem_of_getElem? hi)
    omega
  rw [this]; rfl
/-- A tombstone that lies over a key, for whoever sees up to seq. -/
def ov (how : Int) (key : ByteArray) (seq : Int) (t : Tm) : Bool := decide (cmpH how t.b key ≤ 0 ∧ t.s ≤ seq ∧ cmpH how key t.e < 0)
def mx (how : Int) (key : ByteArray) (seq : Int) : List Tm → Int
  | [] => 0
  | t :: r => if ov how key seq t = true then max t.s (mx how key seq r) else mx how key seq r
theorem mx_nonneg (how : Int) (key : ByteArray) (seq : Int) : ∀ R : List Tm, 0 ≤ mx how key seq R
  | [] => by simp [mx]
  | t :: r => by
    have := mx_nonneg how key seq r
    unfold mx; split <;> omega
theorem mx_app (how : Int) (key : ByteArray) (seq : Int) (l m : List Tm) : mx how key seq (l ++ m) = max (mx how key seq l) (mx how key seq m) := by
  induction l with
  | nil => have := mx_nonneg how key seq m; simp [mx]; omega
  | cons t r ih => simp only [List.cons_append, mx, ih]; split <;> omega
theorem mx_lt (how : Int) (key : ByteArray) (seq s : Int) (hs : 0 < s) : ∀ R : List Tm, (∀ t ∈ R, t.s < s) → mx how key seq R < s
  | [], _ => by simpa [mx] using hs
  | t :: r, h => by
    have h1 := h t (by simp)
    have := mx_lt how key seq s hs r (fun t ht => h t (by simp [ht]))
    unfold mx; split <;> omega
theorem mx_none {how : Int} {key : ByteArray} {seq : Int} : ∀ {R : List Tm}, R.any (ov how key seq) = false → mx how key seq R = 0
  | [], _ => rfl
  | t :: r, h => by
    simp only [List.any_cons, Bool.or_eq_false_iff] at h
    unfold mx
    rw [h.1, mx_none h.2]; rfl
theorem sortT_tail {how : Int} {t : Tm} {r : List Tm} (h : SortT how (t :: r)) : SortT how r := fun i j a b hij ha hb => h (i + 1) (j + 1) a b (by omega) (by simpa using ha) (by simpa using hb)
theorem ovr_mx {how : Int} {key : ByteArray} {seq : Int} : ∀ {R : List Tm}, SortT how R → (∀ t ∈ R, 0 ≤ t.s) → ∀ a : Int × Bool, 0 ≤ a.1 → ovr how key seq R a = (max a.1 (mx how key seq R), a.2 || R.any (ov how key seq))
  | [], _, _, a, ha => by
    obtain ⟨m, b⟩ := a
    have ha' : 0 ≤ m := ha
    simp only [ovr, mx, List.any_nil, Bool.or_false, Prod.mk.injEq, and_true]
    omega
  | t :: r, hs, h0, a, ha => by
    obtain ⟨m, b⟩ := a
    have ha' : 0 ≤ m := ha
    unfold ovr
    by_cases h1 : 0 < cmpH how t.b key
    · rw [if_pos h1]
      have hall : (t :: r).any (ov how key seq) = false := by
        rw [List.any_eq_false]
        intro x hx
        unfold ov
        simp only [decide_eq_true_eq]
        rintro ⟨h2, _, _⟩
        obtain ⟨i, hi⟩ := List.mem_iff_getElem?.1 hx
        cases i with
        | zero => simp at hi; subst hi; omega
        | succ i =>
          have h3 := hs 0 (i + 1) t x (by omega) rfl hi
          rw [tord_iff] at h3
          have h4 : cmpH how t.b x.b ≤ 0 := by
            rcases h3 with h3 | ⟨h3, _⟩
            · omega
            · exact Int.le_of_eq ((cmpH_zero how t.b x.b).2 h3)
          have := cmpH_trans how t.b x.b key h4 h2
          omega
      rw [hall, mx_none hall]
      simp only [Bool.or_false, Prod.mk.injEq, and_true]
      omega
    · rw [if_neg h1]
      have ht := h0 t (by simp)
      by_cases h2 : t.s ≤ seq ∧ cmpH how key t.e < 0
      · rw [if_pos h2, ovr_mx (sortT_tail hs) (fun x hx => h0 x (by simp [hx])) _ (by show 0 ≤ max m t.s; omega)]
        have ho : ov how key seq t = true := by unfold ov; simp only [decide_eq_true_eq]; exact ⟨by omega, h2.1, h2.2⟩
        simp only [mx, ho, if_pos, List.any_cons, Bool.true_or, Bool.or_true, Prod.mk.injEq, and_true]
        omega
      · rw [if_neg h2, ovr_mx (sortT_tail hs) (fun x hx => h0 x (by simp [hx])) _ ha]
        have ho : ov how key seq t = false := by unfold ov; simp only [decide_eq_false_iff_not]; exact fun h => h2 h.2
        simp only [mx, ho, List.any_cons, Bool.false_or]
        rfl
/-- The tombstones over a key. -/
def ovS (how : Int) (key : ByteArray) (seq : Int) (R : List Tm) : Int × Bool := (mx how key seq R, R.any (ov how key seq))
theorem ovr_S {how : Int} {R : List Tm} (hs : SortT how R) (h0 : ∀ t ∈ R, 0 ≤ t.s) (key : ByteArray) (seq : Int) : ovr how key seq R (0, false) = ovS how key seq R := by
  rw [ovr_mx hs h0 _ (Int.le_refl 0)]
  have := mx_nonneg how key seq R
  unfold ovS
  simp only [Bool.false_or, Prod.mk.injEq, and_true]
  omega
theorem ovS_tins (how : Int) (key : ByteArray) (seq : Int) (R : List Tm) (p : Nat) (x : Tm) (h : ov how key seq x = false) : ovS how key seq (tins R p x) = ovS how key seq R := by
  unfold ovS tins
  have e1 : mx how key seq (R.take p ++ x :: R.drop p) = mx how key seq R := by
    rw [mx_app]
    conv => rhs; rw [← List.take_append_drop p R, mx_app]
    simp only [mx, h]; rfl
  have e2 : (R.take p ++ x :: R.drop p).any (ov how key seq) = R.any (ov how key seq) := by
    rw [List.any_append, List.any_cons, h]
    conv => rhs; rw [← List.take_append_drop p R, List.any_append]
    simp
  rw [e1, e2]
theorem ovS_top (how : Int) (key : ByteArray) (seq : Int) (R : List Tm) (p : Nat) (x : Tm) (h : ov how key seq x = true) (hx : 0 < x.s) (h2 : ∀ t ∈ R, t.s < x.s) : ovS how key seq (tins R p x) = (x.s, true) := by
  unfold ovS tins
  have m1 := mx_lt how key seq x.s hx (R.take p) (fun t ht => h2 t (List.mem_of_mem_take ht))
  have m2 := mx_lt how key seq x.s hx (R.drop p) (fun t ht => h2 t (List.mem_of_mem_drop ht))
  have e1 : mx how key seq (R.take p ++ x :: R.drop p) = x.s := by
    rw [mx_app]; simp only [mx, h, if_pos]; omega
  have e2 : (R.take p ++ x :: R.drop p).any (ov how key seq) = true := by
    rw [List.any_append, List.any_cons, h]; simp
  rw [e1, e2]
end Go.Proofs.YtocanjefonlnaaaDoor
