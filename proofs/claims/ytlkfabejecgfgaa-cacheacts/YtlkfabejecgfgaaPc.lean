import Derived.Test.YtlkfabejecgfgaaGc
namespace Go.Proofs.Ytlkfabejecgfgaa
set_option linter.unusedVariables false
set_option linter.unusedSimpArgs false
/-! The sums of a shard. -/
/-- A sum over the entries. -/
def sumN (n : Nat) (g : Nat → Nat) : Nat := ((List.range n).map g).sum
theorem sumN_succ (n : Nat) (g : Nat → Nat) : sumN (n + 1) g = sumN n g + g n := by
  unfold sumN; rw [List.range_succ]; simp
theorem sumN_congr {n : Nat} {g g' : Nat → Nat} (h : ∀ j, j < n → g j = g' j) : sumN n g = sumN n g' := by
  induction n with
  | zero => rfl
  | succ n ih => rw [sumN_succ, sumN_succ, ih (fun j hj => h j (by omega)), h n (by omega)]
/-- One place is turned. -/
theorem sumN_one {n j : Nat} {g g' : Nat → Nat} (hj : j < n) (h : ∀ i, i < n → i ≠ j → g i = g' i) : sumN n g + g' j = sumN n g' + g j := by
  induction n with
  | zero => omega
  | succ n ih =>
    rw [sumN_succ, sumN_succ]
    by_cases c : j = n
    · subst c
      have := sumN_congr (n := j) (g := g) (g' := g') (fun i hi => h i (by omega) (by omega))
      omega
    · have := ih (by omega) (fun i hi hne => h i (by omega) hne)
      have := h n (by omega) (Ne.symm c)
      omega
theorem sumN_le {n b : Nat} {g : Nat → Nat} (h : ∀ j, j < n → g j ≤ b) : sumN n g ≤ n * b := by
  induction n with
  | zero => simp [sumN]
  | succ n ih =>
    rw [sumN_succ, Nat.add_mul]
    have := ih (fun j hj => h j (by omega))
    have := h n (by omega)
    omega
theorem sumN_zero {n : Nat} {g : Nat → Nat} (h : ∀ j, j < n → g j = 0) : sumN n g = 0 := by
  induction n with
  | zero => rfl
  | succ n ih => rw [sumN_succ, ih (fun j hj => h j (by omega)), h n (by omega)]
/-- An entry is there: it has pins, or it is in. -/
def live (x : Xs) (j : Nat) : Bool := decide (0 < (x.at j).pins) || decide (x.f (x.at j).key.data.toList = some j)
def gU (x : Xs) (j : Nat) : Nat := if live x j then (x.at j).chg else 0
def gP (x : Xs) (j : Nat) : Nat := if 0 < (x.at j).pins then (x.at j).chg else 0
/-- What is used and what is pinned are these sums. -/
structure Su (x : Xs) : Prop where
  u : x.us = sumN x.ent.length (gU x)
  p : x.pn = sumN x.ent.length (gP x)
  c : ∀ (j : Nat) (e : En), x.ent[j]? = some e → e.chg < 18446744073709551616
  n : x.ent.length ≤ 9000000000000000000
theorem Su.ub {x : Xs} (h : Su x) : sumN x.ent.length (gU x) < 170141183460469231731687303715884105728 := by
  have := sumN_le (n := x.ent.length) (b := 18446744073709551615) (g := gU x) (fun j hj => by
    unfold gU
    split
    · have := h.c j _ (List.getElem?_eq_getElem hj)
      rw [xat (List.getElem?_eq_getElem hj)]; omega
    · omega)
  have := h.n
  have := Nat.mul_le_mul_right 18446744073709551615 h.n
  omega
theorem Su.pb {x : Xs} (h : Su x) : sumN x.ent.length (gP x) < 170141183460469231731687303715884105728 := by
  have := sumN_le (n := x.ent.length) (b := 18446744073709551615) (g := gP x) (fun j hj => by
    unfold gP
    split
    · have := h.c j _ (List.getElem?_eq_getElem hj)
      rw [xat (List.getElem?_eq_getElem hj)]; omega
    · omega)
  have := Nat.mul_le_mul_right 18446744073709551615 h.n
  omega
section
variable {x : Xs} {j : Nat} {e : En}
theorem at_take (x : Xs) (j i : Nat) : (takeX x j).at i = x.at i := rfl
theorem Su.take (h : Su x) (I : Iv x) (hj : x.ent[j]? = some e) (hf : x.f e.key.data.toList = some j) : Su (takeX x j) := by
  have hjl := (List.getElem?_eq_some_iff.1 hj).1
  have ea := xat hj
  have hce := h.c j e hj
  -- others
  have ho : ∀ i, i < x.ent.length → i ≠ j → gU x i = gU (takeX x j) i := by
    intro i hi hne
    unfold gU live
    rw [at_take]
    have : ((takeX x j).f (x.at i).key.data.toList = some i) ↔ (x.f (x.at i).key.data.toList = some i) := by
      unfold takeX; simp only [ea]
      unfold fput
      split
      · rename_i hk
        rw [hk, hf]
        simp only [Option.some.injEq]
        constructor
        · intro hh; cases hh
        · intro hh; exact absurd hh.symm hne
      · exact Iff.rfl
    simp only [this]
  have h1 := sumN_one (g := gU x) (g' := gU (takeX x j)) hjl ho
  have hgj : gU x j = e.chg := by unfold gU live; rw [ea, hf]; simp
  have hgj' : gU (takeX x j) j = if 0 < e.pins then e.chg else 0 := by
    unfold gU live
    rw [at_take, ea]
    have : (takeX x j).f e.key.data.toList = none := by unfold takeX; simp only [ea]; simp [fput]
    rw [this]; simp
  have hub := h.ub
  refine ⟨?_, h.p, h.c, h.n⟩
  show (takeX x j).us = sumN x.ent.length (gU (takeX x j))
  have hus : (takeX x j).us = if e.pins = 0 then takeT x.us e.chg else x.us := by unfold takeX; simp only [ea]
  rw [hgj, hgj'] at h1
  rw [hus, h.u]
  generalize sumN x.ent.length (gU (takeX x j)) = B at *
  generalize sumN x.ent.length (gU x) = A at *
  by_cases hp : e.pins = 0
  · rw [if_pos hp]
    rw [if_neg (by omega)] at h1
    unfold takeT
    omega
  · rw [if_neg hp]
    rw [if_pos (by omega)] at h1
    omega
theorem Su.room (c r : Nat) : ∀ (n : Nat) (x : Xs), Iv x → Su x → Su (roomX c r n x)
  | 0, x, _, h => h
  | n + 1, x, I, h => by
    unfold roomX
    cases hq : x.q with
    | nil => exact h
    | cons j t =>
      simp only []
      split
      · obtain ⟨e, h1, h2, h3⟩ := I.head (j := j) (by rw [hq]; exact List.mem_cons_self)
        exact Su.room c r n _ (I.take h1 h3) (h.take I h1 h3)
      · exact h
theorem at_lt {x y : Xs} {j : Nat} (h : y.ent[j]? = x.ent[j]?) : y.at j = x.at j := by unfold Xs.at; rw [List.getD_eq_getElem?_getD, List.getD_eq_getElem?_getD, h]
theorem Su.put (h : Su x) (I : Iv x) (k : ByteArray) (v : Value) {c : Nat} (hc : c < 18446744073709551616) (hn : x.ent.length + 1 ≤ 9000000000000000000) : Su (putX x k v c) ∧ (putX x k v c).us + (match x.f k.data.toList with | some j => (if (x.at j).pins = 0 then (x.at j).chg else 0) | none => 0) = x.us + c ∧ (putX x k v c).pn = x.pn + c := by
  -- the state behind the taking out
  have key : ∃ y, Su y ∧ Iv y ∧ y.ent = x.ent ∧ y.f k.data.toList = none ∧ y.us + (match x.f k.data.toList with | some j => (if (x.at j).pins = 0 then (x.at j).chg else 0) | none => 0) = x.us ∧ y.pn = x.pn ∧
      (putX x k v c).ent = x.ent ++ [⟨k, v, c, 1⟩] ∧ (putX x k v c).f = fput y.f k.data.toList (some x.ent.length) ∧ (putX x k v c).us = addT y.us c ∧ (putX x k v c).pn = addT y.pn c := by
    have hent := (I.put k v c).2
    have hn' : (addE x ⟨k, v, c, 0⟩).ent[x.ent.length]? = some ⟨k, v, c, 0⟩ := by unfold addE; simp
    cases hf : x.f k.data.toList with
    | none =>
      refine ⟨x, h, I, rfl, hf, by simp, rfl, hent, ?_, ?_, ?_⟩
      all_goals
        rw [putX_eq]; unfold put1; rw [xat hn']; simp only []
        have : (addE x ⟨k, v, c, 0⟩).f k.data.toList = none := hf
        rw [this]; rfl
    | some j =>
      obtain ⟨e, h1, h2, _⟩ := I.old hf
      have hjl := (List.getElem?_eq_some_iff.1 h1).1
      have hS := h.take I h1 (by rw [h2]; exact hf)
      have hI := I.take h1 (by rw [h2]; exact hf)
      have hat : (addE x ⟨k, v, c, 0⟩).at j = e := xat (get_app h1)
      refine ⟨takeX x j, hS, hI, rfl, ?_, ?_, rfl, hent, ?_, ?_, ?_⟩
      · unfold takeX; simp only [xat h1, h2]; simp [fput]
      · simp only [xat h1]
        have hus : (takeX x j).us = if e.pins = 0 then takeT x.us e.chg else x.us := by unfold takeX; simp only [xat h1]
        rw [hus]
        by_cases hp : e.pins = 0
        · rw [if_pos hp, if_pos hp]
          have hge : e.chg ≤ x.us := by
            rw [h.u]
            have h3 := sumN_one (n := x.ent.length) (j := j) (g := gU x) (g' := fun i => if i = j then 0 else gU x i) hjl (fun i _ hne => by simp [hne])
            have h4 : gU x j = e.chg := by unfold gU live; rw [xat h1, h2, hf]; simp
            simp only [if_true] at h3
            omega
          have := h.ub
          have := h.c j e h1
          rw [← h.u] at *
          unfold takeT
          omega
        · rw [if_neg hp, if_neg hp]; omega
      all_goals
        rw [putX_eq]; unfold put1; rw [xat hn']; simp only []
        have hf' : (addE x ⟨k, v, c, 0⟩).f k.data.toList = some j := hf
        rw [hf']
        simp only []
        unfold takeX
        simp only [hat, xat h1]
        rfl
  obtain ⟨y, hS, hI, he, hfy, hus, hpn, e1, e2, e3, e4⟩ := key
  have hl : (putX x k v c).ent.length = x.ent.length + 1 := by rw [e1]; simp
  have hatl : ∀ i, i < x.ent.length → (putX x k v c).at i = y.at i := fun i hi => at_lt (by rw [e1, he, List.getElem?_append_left hi])
  have hatn : (putX x k v c).at x.ent.length = ⟨k, v, c, 1⟩ := xat (by rw [e1]; simp)
  have gu : sumN (putX x k v c).ent.length (gU (putX x k v c)) = y.us + c := by
    rw [hl, sumN_succ, hS.u, he]
    congr 1
    · refine sumN_congr (fun i hi => ?_)
      unfold gU live
      rw [hatl i hi, e2]
      have hiff : (fput y.f k.data.toList (some x.ent.length) (y.at i).key.data.toList = some i) ↔ (y.f (y.at i).key.data.toList = some i) := by
        unfold fput
        split
        · rename_i hk
          rw [hk, hfy]
          simp only [Option.some.injEq]
          constructor
          · intro hh; omega
          · intro hh; cases hh
        · exact Iff.rfl
      simp only [hiff]
    · unfold gU live
      rw [hatn]; simp
  have gp : sumN (putX x k v c).ent.length (gP (putX x k v c)) = y.pn + c := by
    rw [hl, sumN_succ, hS.p, he]
    congr 1
    · refine sumN_congr (fun i hi => ?_)
      unfold gP
      rw [hatl i hi]
    · unfold gP
      rw [hatn]; simp
  have b1 := hS.ub
  rw [← hS.u] at b1
  have b2 := hS.pb
  rw [← hS.p] at b2
  have f3 : (putX x k v c).us = y.us + c := by rw [e3]; unfold addT; omega
  have f4 : (putX x k v c).pn = y.pn + c := by rw [e4]; unfold addT; omega
  refine ⟨⟨by rw [f3, gu], by rw [f4, gp], ?_, by rw [hl]; exact hn⟩, by rw [f3]; omega, by rw [f4, hpn]⟩
  intro i e hi
  rw [e1] at hi
  by_cases ci : i < x.ent.length
  · rw [List.getElem?_append_left ci] at hi; exact h.c i e hi
  · have : i = x.ent.length := by
      have := (List.getElem?_eq_some_iff.1 hi).1
      simp at this; omega
    subst this
    simp at hi
    subst hi
    exact hc
/-- An entry whose pins are turned. -/
theorem at_set (hj : x.ent[j]? = some e) (a : En) (y : Xs) (hy : y.ent = x.ent.set j a) (i : Nat) : y.at i = if i = j then a else x.at i := by
  by_cases c : i = j
  · subst c
    rw [if_pos rfl]
    exact xat (by rw [hy, List.getElem?_set_self (List.getElem?_eq_some_iff.1 hj).1])
  · rw [if_neg c]
    exact at_lt (by rw [hy, List.getElem?_set_ne (Ne.symm c)])
theorem chg_set (h : Su x) (hj : x.ent[j]? = some e) (p : Nat) : ∀ (i : Nat) (e' : En), (x.ent.set j { e with pins := p })[i]? = some e' → e'.chg < 18446744073709551616 := by
  intro i e' hi
  rw [set_get hj] at hi
  split at hi
  · cases hi; exact (h.c j e hj :)
  · exact h.c i e' hi
theorem Iv.wait (h : Iv x) (hj : x.ent[j]? = some e) (hp : e.pins = 1) (hf : x.f e.key.data.toList = some j) (u : Nat) : Iv { x with ent := x.ent.set j { e with pins := e.pins - 1 }, q := x.q ++ [j], pn := u } := by
  have hnq : j ∉ x.q := fun hh => by
    obtain ⟨e', h1, h2, _⟩ := (h.qe j).1 hh
    rw [hj] at h1; cases h1; omega
  refine ⟨?_, ?_, ?_, by simpa using h.ct⟩
  · refine List.nodup_append.2 ⟨h.nd, by simp, ?_⟩
    rintro a ha b hb rfl
    simp at hb
    subst hb
    exact hnq ha
  · intro i
    simp only [List.mem_append, List.mem_singleton]
    rw [h.qe, set_get hj]
    by_cases c : i = j
    · subst c
      rw [if_pos rfl]
      simp only [or_true, true_iff]
      exact ⟨_, rfl, by simp only []; omega, hf⟩
    · rw [if_neg c]; simp [c]
  · intro k i hi
    simp only [] at hi ⊢
    rw [set_get hj]
    obtain ⟨e', h1, h2⟩ := h.fe k i hi
    by_cases c : i = j
    · subst c
      rw [hj] at h1; cases h1
      rw [if_pos rfl]; exact ⟨_, rfl, h2⟩
    · rw [if_neg c]; exact ⟨e', h1, h2⟩
theorem unpinX_ways (hj : x.ent[j]? = some e) (r : Nat) : (1 < e.pins ∧ unpinX x j r = { x with ent := x.ent.set j { e with pins := e.pins - 1 } }) ∨
    (¬ 1 < e.pins ∧ x.f e.key.data.toList = some j ∧ unpinX x j r = roomX 0 r (x.q ++ [j]).length { x with ent := x.ent.set j { e with pins := e.pins - 1 }, q := x.q ++ [j], pn := takeT x.pn e.chg }) ∨
    (¬ 1 < e.pins ∧ x.f e.key.data.toList ≠ some j ∧ unpinX x j r = { x with ent := x.ent.set j { e with pins := e.pins - 1 }, pn := takeT x.pn e.chg, us := takeT x.us e.chg }) := by
  unfold unpinX
  simp only [xat hj]
  by_cases h1 : 1 < e.pins
  · exact .inl ⟨h1, by rw [if_pos h1]⟩
  · rw [if_neg h1]
    by_cases h2 : x.f e.key.data.toList = some j
    · exact .inr (.inl ⟨h1, h2, by rw [if_pos h2]⟩)
    · exact .inr (.inr ⟨h1, h2, by rw [if_neg h2]⟩)
theorem Su.unpin (h : Su x) (I : Iv x) (hj : x.ent[j]? = some e) (hp : 0 < e.pins) (r : Nat) : Su (unpinX x j r) := by
  have hjl := (List.getElem?_eq_some_iff.1 hj).1
  have hce := h.c j e hj
  have b1 := h.ub
  have b2 := h.pb
  have ea := xat hj
  have gu0 : gU x j = e.chg := by unfold gU live; rw [ea]; simp [hp]
  have gp0 : gP x j = e.chg := by unfold gP; rw [ea]; simp [hp]
  -- all y with these entries and this map
  have H : ∀ y : Xs, y.ent = x.ent.set j { e with pins := e.pins - 1 } → y.f = x.f →
      sumN x.ent.length (gU x) + (if 1 < e.pins ∨ x.f e.key.data.toList = some j then e.chg else 0) = sumN x.ent.length (gU y) + e.chg ∧
      sumN x.ent.length (gP x) + (if 1 < e.pins then e.chg else 0) = sumN x.ent.length (gP y) + e.chg := by
    intro y hy hyf
    have hat := at_set hj _ y hy
    constructor
    · have h1 := sumN_one (g := gU x) (g' := gU y) hjl (fun i hi hne => by
        unfold gU live
        rw [hat i, if_neg hne, hyf])
      have h2 : gU y j = if 1 < e.pins ∨ x.f e.key.data.toList = some j then e.chg else 0 := by
        unfold gU live
        rw [hat j, if_pos rfl, hyf]
        simp only [Bool.or_eq_true, decide_eq_true_eq]
        have : (0 < e.pins - 1 ∨ x.f e.key.data.toList = some j) ↔ (1 < e.pins ∨ x.f e.key.data.toList = some j) := by
          constructor
          · rintro (a | a)
            · exact .inl (by omega)
            · exact .inr a
          · rintro (a | a)
            · exact .inl (by omega)
            · exact .inr a
        simp only [this]
      rw [h2, gu0] at h1; exact h1
    · have h1 := sumN_one (g := gP x) (g' := gP y) hjl (fun i hi hne => by
        unfold gP
        rw [hat i, if_neg hne])
      have h2 : gP y j = if 1 < e.pins then e.chg else 0 := by
        unfold gP
        rw [hat j, if_pos rfl]
        simp only []
        by_cases c : 1 < e.pins
        · rw [if_pos c, if_pos (by omega)]
        · rw [if_neg c, if_neg (by omega)]
      rw [h2, gp0] at h1; exact h1
  have hxu := h.u
  have hxp := h.p
  have M : ∀ y : Xs, y.ent = x.ent.set j { e with pins := e.pins - 1 } → y.f = x.f → (y.us = if 1 < e.pins ∨ x.f e.key.data.toList = some j then x.us else takeT x.us e.chg) → (y.pn = if 1 < e.pins then x.pn else takeT x.pn e.chg) → Su y := by
    intro y hy hyf h3 h4
    obtain ⟨h1, h2⟩ := H y hy hyf
    have hl : y.ent.length = x.ent.length := by rw [hy]; simp
    refine ⟨?_, ?_, by rw [hy]; exact chg_set h hj _, by rw [hl]; exact h.n⟩
    · rw [hl, h3]
      generalize sumN x.ent.length (gU y) = B at *
      generalize sumN x.ent.length (gU x) = A at *
      by_cases c : 1 < e.pins ∨ x.f e.key.data.toList = some j
      · rw [if_pos c]; rw [if_pos c] at h1; omega
      · rw [if_neg c]; rw [if_neg c] at h1; unfold takeT; omega
    · rw [hl, h4]
      generalize sumN x.ent.length (gP y) = B at *
      generalize sumN x.ent.length (gP x) = A at *
      by_cases c : 1 < e.pins
      · rw [if_pos c]; rw [if_pos c] at h2; omega
      · rw [if_neg c]; rw [if_neg c] at h2; unfold takeT; omega
  rcases unpinX_ways hj r with ⟨w1, w2⟩ | ⟨w1, w2, w3⟩ | ⟨w1, w2, w3⟩
  · rw [w2]
    exact M _ rfl rfl (by rw [if_pos (.inl w1)]) (by rw [if_pos w1])
  · rw [w3]
    exact Su.room 0 r _ _ (I.wait hj (by omega) w2 _) (M _ rfl rfl (by rw [if_pos (.inr w2)]) (by rw [if_neg w1]))
  · rw [w3]
    exact M _ rfl rfl (by rw [if_neg (by rintro (a | a); exact w1 a; exact w2 a)]) (by rw [if_neg w1])
theorem Su.pin (h : Su x) (hj : x.ent[j]? = some e) (hf : x.f e.key.data.toList = some j) : Su (pinX x j) := by
  have hjl := (List.getElem?_eq_some_iff.1 hj).1
  have hce := h.c j e hj
  have b2 := h.pb
  have ea := xat hj
  have he : (pinX x j).ent = x.ent.set j { e with pins := e.pins + 1 } := by unfold pinX; simp only [ea]
  have hyf : (pinX x j).f = x.f := rfl
  have hat := at_set hj _ (pinX x j) he
  have h1 : sumN x.ent.length (gU x) = sumN x.ent.length (gU (pinX x j)) := by
    refine sumN_congr (fun i hi => ?_)
    unfold gU live
    rw [hat i, hyf]
    by_cases c : i = j
    · subst c; rw [if_pos rfl, ea, hf]; simp
    · rw [if_neg c]
  have h2 := sumN_one (g := gP x) (g' := gP (pinX x j)) hjl (fun i hi hne => by
    unfold gP
    rw [hat i, if_neg hne])
  have h3 : gP (pinX x j) j = e.chg := by unfold gP; rw [hat j, if_pos rfl]; simp
  have h4 : gP x j = if 0 < e.pins then e.chg else 0 := by unfold gP; rw [ea]
  have hpn : (pinX x j).pn = if e.pins = 0 then addT x.pn e.chg else x.pn := by unfold pinX; simp only [ea]
  have hl : (pinX x j).ent.length = x.ent.length := by rw [he]; simp
  refine ⟨?_, ?_, ?_, by rw [hl]; exact h.n⟩
  · rw [hl, ← h1, ← h.u]; rfl
  · rw [hl, hpn, h.p]
    rw [h3, h4] at h2
    generalize sumN x.ent.length (gP (pinX x j)) = B at *
    generalize sumN x.ent.length (gP x) = A at *
    by_cases c : e.pins = 0
    · rw [if_pos c]; rw [if_neg (by omega)] at h2; unfold addT; omega
    · rw [if_neg c]; rw [if_pos (by omega)] at h2; omega
  · rw [he]; exact chg_set h hj _
end
end Go.Proofs.Ytlkfabejecgfgaa
