import Derived.Test.YtlkfabejecgfgaaPc
namespace Go.Proofs.Ytlkfabejecgfgaa
set_option linter.unusedVariables false
set_option linter.unusedSimpArgs false
theorem tol_mono {a b : Nat} (h : a ≤ b) : tolT a ≤ tolT b := by unfold tolT; split <;> split <;> omega
theorem tol_plus (c u : Nat) : plusT c (tolT u) = tolT (u + c) := by
  unfold plusT tolT
  split <;> split <;> split <;> omega
section
variable {x : Xs} {j : Nat} {e : En}
theorem take_us (h : Su x) (hj : x.ent[j]? = some e) (hf : x.f e.key.data.toList = some j) : (takeX x j).us ≤ x.us := by
  have hjl := (List.getElem?_eq_some_iff.1 hj).1
  have hus : (takeX x j).us = if e.pins = 0 then takeT x.us e.chg else x.us := by unfold takeX; simp only [xat hj]
  rw [hus]
  split
  · have hge : e.chg ≤ x.us := by
      rw [h.u]
      have h3 := sumN_one (n := x.ent.length) (j := j) (g := gU x) (g' := fun i => if i = j then 0 else gU x i) hjl (fun i _ hne => by simp [hne])
      have h4 : gU x j = e.chg := by unfold gU live; rw [xat hj, hf]; simp
      simp only [if_true] at h3
      omega
    have := h.ub
    have := h.c j e hj
    rw [← h.u] at *
    unfold takeT
    omega
  · omega
/-- Behind the making of room. -/
theorem room_done (c r : Nat) : ∀ (n : Nat) (x : Xs), Iv x → Su x → x.q.length ≤ n → (roomX c r n x).us ≤ x.us ∧ ((roomX c r n x).q = [] ∨ excX (roomX c r n x) c r = false)
  | 0, x, I, h, hq => ⟨Nat.le_refl _, .inl (List.length_eq_zero_iff.1 (show x.q.length = 0 by omega))⟩
  | n + 1, x, I, h, hq => by
    unfold roomX
    cases hx : x.q with
    | nil => exact ⟨Nat.le_refl _, .inl hx⟩
    | cons j t =>
      simp only []
      by_cases he : excX x c r = true
      · rw [if_pos he]
        obtain ⟨e, h1, h2, h3⟩ := I.head (j := j) (by rw [hx]; exact List.mem_cons_self)
        have hql : (takeX x j).q.length ≤ n := by
          have : (takeX x j).q = t := by unfold takeX; simp only [xat h1, if_pos h2]; rw [hx]; simp
          rw [this]; rw [hx] at hq; simp at hq; omega
        obtain ⟨a1, a2⟩ := room_done c r n (takeX x j) (I.take h1 h3) (h.take I h1 h3) hql
        exact ⟨Nat.le_trans a1 (take_us h h1 h3), a2⟩
      · rw [if_neg he]
        exact ⟨Nat.le_refl _, .inr (by simpa using he)⟩
theorem exc_le {c r : Nat} (h : excX x c r = false) : tolT (x.us + c) ≤ r := by
  unfold excX at h
  have := of_decide_eq_false h
  rw [tol_plus] at this
  omega
/-- No more is used than there is room, where something waits. -/
def Jw (x : Xs) (r : Nat) : Prop := x.q ≠ [] → tolT x.us ≤ r
theorem putX_q (I : Iv x) (k : ByteArray) (v : Value) (c : Nat) (h : x.q = []) : (putX x k v c).q = [] := by
  have hn' : (addE x ⟨k, v, c, 0⟩).ent[x.ent.length]? = some ⟨k, v, c, 0⟩ := by unfold addE; simp
  rw [putX_eq]; unfold put1; rw [xat hn']; simp only []
  cases hf : (addE x ⟨k, v, c, 0⟩).f k.data.toList with
  | none => exact h
  | some j =>
    have : (addE x ⟨k, v, c, 0⟩).q = [] := h
    simp only []
    unfold takeX
    simp only [this]
    split <;> simp
theorem put_j (I : Iv x) (h : Su x) (k : ByteArray) (v : Value) {c r : Nat} (hc : c < 18446744073709551616) (hn : x.ent.length + 1 ≤ 9000000000000000000) (hd : x.q = [] ∨ excX x c r = false) : Jw (putX x k v c) r ∧ (excX x c r = false → tolT (putX x k v c).us ≤ r) := by
  obtain ⟨_, h2, _⟩ := h.put I k v hc hn
  have hle : (putX x k v c).us ≤ x.us + c := by omega
  have h3 : excX x c r = false → tolT (putX x k v c).us ≤ r := fun he => Nat.le_trans (tol_mono hle) (exc_le he)
  refine ⟨fun hq => ?_, h3⟩
  rcases hd with hd | hd
  · exact absurd (putX_q I k v c hd) hq
  · exact h3 hd
theorem unpin_j (I : Iv x) (h : Su x) (hj : x.ent[j]? = some e) (hp : 0 < e.pins) {r : Nat} (hJ : Jw x r) : Jw (unpinX x j r) r ∧ (tolT x.us ≤ r → tolT (unpinX x j r).us ≤ r) := by
  have hjl := (List.getElem?_eq_some_iff.1 hj).1
  have hSu := h.unpin I hj hp r
  rcases unpinX_ways hj r with ⟨w1, w2⟩ | ⟨w1, w2, w3⟩ | ⟨w1, w2, w3⟩
  · rw [w2]; exact ⟨hJ, fun h => h⟩
  · rw [w3]
    -- the state that waits
    have hS : Su { x with ent := x.ent.set j { e with pins := e.pins - 1 }, q := x.q ++ [j], pn := takeT x.pn e.chg } := by
      have h1 := sumN_one (n := x.ent.length) (j := j) (g := gP x) (g' := gP { x with ent := x.ent.set j { e with pins := e.pins - 1 }, q := x.q ++ [j], pn := takeT x.pn e.chg }) hjl (fun i hi hne => by
        unfold gP
        rw [at_set hj _ { x with ent := x.ent.set j { e with pins := e.pins - 1 }, q := x.q ++ [j], pn := takeT x.pn e.chg } rfl i, if_neg hne])
      have h2 : gP x j = e.chg := by unfold gP; rw [xat hj]; simp [hp]
      have h3 : gP { x with ent := x.ent.set j { e with pins := e.pins - 1 }, q := x.q ++ [j], pn := takeT x.pn e.chg } j = 0 := by
        unfold gP
        rw [at_set hj _ { x with ent := x.ent.set j { e with pins := e.pins - 1 }, q := x.q ++ [j], pn := takeT x.pn e.chg } rfl j, if_pos rfl]
        simp only []
        rw [if_neg (by omega)]
      have h4 : sumN x.ent.length (gU x) = sumN x.ent.length (gU { x with ent := x.ent.set j { e with pins := e.pins - 1 }, q := x.q ++ [j], pn := takeT x.pn e.chg }) := by
        refine sumN_congr (fun i hi => ?_)
        unfold gU live
        rw [at_set hj _ { x with ent := x.ent.set j { e with pins := e.pins - 1 }, q := x.q ++ [j], pn := takeT x.pn e.chg } rfl i]
        by_cases c : i = j
        · subst c; rw [if_pos rfl, xat hj, w2]; simp [w2]
        · rw [if_neg c]
      have b2 := h.pb
      have hce := h.c j e hj
      have hxp := h.p
      rw [h2, h3] at h1
      refine ⟨?_, ?_, chg_set h hj _, by simpa using h.n⟩
      · simp only [List.length_set]
        rw [← h4, ← h.u]
      · simp only [List.length_set]
        generalize sumN x.ent.length (gP { x with ent := x.ent.set j { e with pins := e.pins - 1 }, q := x.q ++ [j], pn := takeT x.pn e.chg }) = B at *
        generalize sumN x.ent.length (gP x) = A at *
        unfold takeT
        omega
    obtain ⟨a1, a2⟩ := room_done 0 r _ _ (I.wait hj (by omega) w2 (takeT x.pn e.chg)) hS (Nat.le_refl _)
    refine ⟨fun hq => ?_, fun hh => Nat.le_trans (tol_mono a1) hh⟩
    rcases a2 with a2 | a2
    · exact absurd a2 hq
    · have := exc_le a2
      simpa using this
  · rw [w3]
    have hle : takeT x.us e.chg ≤ x.us := by
      have hge : e.chg ≤ x.us := by
        rw [h.u]
        have h3 := sumN_one (n := x.ent.length) (j := j) (g := gU x) (g' := fun i => if i = j then 0 else gU x i) hjl (fun i _ hne => by simp [hne])
        have h4 : gU x j = e.chg := by unfold gU live; rw [xat hj]; simp [hp]
        simp only [if_true] at h3
        omega
      have := h.ub
      rw [← h.u] at *
      unfold takeT
      omega
    exact ⟨fun hq => Nat.le_trans (tol_mono hle) (hJ hq), fun hh => Nat.le_trans (tol_mono hle) hh⟩
/-- Where nothing is pinned. -/
theorem none_pinned (I : Iv x) (h : Su x) {r : Nat} (hJ : Jw x r) (h0 : ∀ (j : Nat) (e : En), x.ent[j]? = some e → e.pins = 0) : x.pn = 0 ∧ tolT x.us ≤ r := by
  constructor
  · rw [h.p]
    refine sumN_zero (fun j hj => ?_)
    unfold gP
    have := h0 j _ (List.getElem?_eq_getElem hj)
    rw [xat (List.getElem?_eq_getElem hj), this]; simp
  · by_cases hq : x.q = []
    · have : x.us = 0 := by
        rw [h.u]
        refine sumN_zero (fun j hj => ?_)
        unfold gU
        split
        · rename_i hl
          exfalso
          have hg := List.getElem?_eq_getElem hj
          unfold live at hl
          rw [xat hg, h0 j _ hg] at hl
          simp at hl
          have := (I.qe j).2 ⟨_, hg, h0 j _ hg, hl⟩
          rw [hq] at this; cases this
        · rfl
      rw [this]; simp [tolT]
    · exact hJ hq
end
/-- A cache of which the sums hold; the first a pins are gone, the others are there. -/
structure Rm (s : Cs) (a : Nat) : Prop where
  su : ∀ (i : Nat) (x : Xs), s.xs[i]? = some x → Su x
  jj : ∀ (i : Nat) (x : Xs), s.xs[i]? = some x → Jw x s.r
  sr : s.st = true → ∀ (i : Nat) (x : Xs), s.xs[i]? = some x → tolT x.us ≤ s.r
  al : a ≤ s.P.length
  ps : ∀ (p : Nat) (o : Option (Nat × Nat)), s.P[p]? = some o → (o = none ↔ p < a)
theorem Rm.setx {s : Cs} {a a' : Nat} (h : Rm s a) {i : Nat} {x x' : Xs} {P' : List (Option (Nat × Nat))} (hi : s.xs[i]? = some x) (h1 : Su x') (h2 : Jw x' s.r) (h3 : s.st = true → tolT x'.us ≤ s.r) (h4 : a' ≤ P'.length) (h5 : ∀ (p : Nat) (o : Option (Nat × Nat)), P'[p]? = some o → (o = none ↔ p < a')) : Rm { s with xs := s.xs.set i x', P := P' } a' := by
  refine ⟨?_, ?_, ?_, h4, h5⟩
  · intro b y hy
    simp only [xget hi] at hy
    split at hy
    · cases hy; exact h1
    · exact h.su b y hy
  · intro b y hy
    simp only [xget hi] at hy
    split at hy
    · cases hy; exact h2
    · exact h.jj b y hy
  · intro hst b y hy
    simp only [xget hi] at hy
    split at hy
    · cases hy; exact h3 hst
    · exact h.sr hst b y hy
theorem Rm.put {s : Cs} {a : Nat} (h : Rm s a) (c : Ci s) (k : ByteArray) (v : Value) {ch : Nat} (hc : ch < 18446744073709551616) (hP : s.P.length + 1 ≤ 9000000000000000000) : Rm (putC s k v ch).2.2 a := by
  unfold putC
  split
  · exact h
  · have hi := c.ix k.data.toList
    have I := c.iv _ _ hi
    have S := h.su _ _ hi
    obtain ⟨I1, he1⟩ := Iv.room ch s.r (s.x (s.ix k.data.toList)).q.length _ I
    have S1 := Su.room ch s.r (s.x (s.ix k.data.toList)).q.length _ I S
    obtain ⟨a1, a2⟩ := room_done ch s.r _ _ I S (Nat.le_refl _)
    have hX : roomX ch s.r (s.x (s.ix k.data.toList)).q.length (s.x (s.ix k.data.toList)) = s.rm (s.ix k.data.toList) ch := rfl
    rw [hX] at I1 he1 S1 a1 a2
    have hel := c.el _ _ hi
    split
    · refine h.setx (P' := s.P) hi S1 (fun hq => ?_) (fun hst => Nat.le_trans (tol_mono a1) (h.sr hst _ _ hi)) h.al h.ps
      rcases a2 with a2 | a2
      · exact absurd a2 hq
      · exact Nat.le_trans (tol_mono (Nat.le_add_right _ ch)) (exc_le a2)
    · rename_i hex
      obtain ⟨S2, _, _⟩ := S1.put I1 k v hc (by rw [he1]; omega)
      obtain ⟨J2, E2⟩ := put_j I1 S1 k v (r := s.r) hc (by rw [he1]; omega) a2
      refine h.setx (P' := s.P ++ [some (s.ix k.data.toList, (s.rm (s.ix k.data.toList) ch).ent.length)]) hi S2 J2 (fun hst => E2 ?_) (by have := h.al; simp; omega) ?_
      · rw [hst, Bool.true_and] at hex
        simpa using hex
      · intro p o hp
        by_cases cp : p < s.P.length
        · rw [List.getElem?_append_left cp] at hp; exact h.ps p o hp
        · have : p = s.P.length := by
            have := (List.getElem?_eq_some_iff.1 hp).1
            simp at this; omega
          subst this
          simp at hp
          subst hp
          have := h.al
          simp; omega
theorem Rm.free {s : Cs} {a : Nat} (h : Rm s a) (c : Ci s) (ha : a < s.P.length) : (freeC s ((a : Int) + 1)).1 = 0 ∧ Rm (freeC s ((a : Int) + 1)).2 (a + 1) := by
  obtain ⟨o, ho⟩ : ∃ o, s.P[a]? = some o := ⟨_, List.getElem?_eq_getElem ha⟩
  have hne : o ≠ none := fun e => by
    have := (h.ps a o ho).1 e
    omega
  obtain ⟨ij, rfl⟩ := Option.ne_none_iff_exists'.1 hne
  obtain ⟨i, j⟩ := ij
  have hpin : s.pin ((a : Int) + 1) = some (i, j) := by
    unfold Cs.pin
    rw [if_pos (by omega), show ((a : Int) + 1 - 1).toNat = a by omega, List.getD_eq_getElem?_getD, ho]; rfl
  obtain ⟨x, hx, hj⟩ := c.pr i j (List.mem_of_getElem? ho)
  obtain ⟨e, he⟩ : ∃ e, x.ent[j]? = some e := ⟨_, List.getElem?_eq_getElem hj⟩
  have hpos : 0 < e.pins := by rw [c.pc i x j e hx he]; exact List.count_pos_iff.2 (List.mem_of_getElem? ho)
  have I := c.iv i x hx
  have S := h.su i x hx
  obtain ⟨J2, E2⟩ := unpin_j I S he hpos (h.jj i x hx)
  unfold freeC
  rw [hpin]
  have exi : s.x i = x := xs_get hx
  simp only [exi]
  refine ⟨trivial, h.setx (s := s) (P' := s.P.set ((a : Int) + 1 - 1).toNat none) hx (S.unpin I he hpos s.r) J2 (fun hst => E2 (h.sr hst i x hx)) (by simp; omega) ?_⟩
  intro p o hp
  rw [show ((a : Int) + 1 - 1).toNat = a by omega] at hp
  by_cases cp : p = a
  · subst cp
    rw [List.getElem?_set_self ha] at hp
    cases hp
    simp
  · rw [List.getElem?_set_ne (Ne.symm cp)] at hp
    rw [h.ps p o hp]
    omega
theorem Rm.new {n room : Nat} {st : Bool} : Rm (newC n room st) 0 := by
  have hs : Su x0 := ⟨rfl, rfl, fun j e hj => by simp [x0] at hj, by simp [x0]⟩
  refine ⟨fun i x hx => ?_, fun i x hx => ?_, fun _ i x hx => ?_, Nat.zero_le _, fun p o hp => by simp [newC] at hp⟩
  · obtain ⟨rfl, _⟩ := rep_get hx; exact hs
  · obtain ⟨rfl, _⟩ := rep_get hx; exact fun hq => absurd rfl hq
  · obtain ⟨rfl, _⟩ := rep_get hx; simp [x0, tolT]
theorem sumU_bd {l : List Xs} {r : Nat} (h : ∀ x ∈ l, tolT x.us ≤ r) : sumU l ≤ l.length * r := by
  unfold sumU
  have key : ∀ (l : List Xs) (b : Nat), (∀ x ∈ l, tolT x.us ≤ r) → l.foldl (fun n x => plusT n (tolT x.us)) b ≤ b + l.length * r := by
    intro l
    induction l with
    | nil => intro b _; simp
    | cons x l ih =>
      intro b h
      simp only [List.foldl_cons, List.length_cons]
      have h1 := ih (plusT b (tolT x.us)) (fun y hy => h y (List.mem_cons_of_mem _ hy))
      have h2 := h x List.mem_cons_self
      have h3 : plusT b (tolT x.us) ≤ b + tolT x.us := by unfold plusT tolT; split <;> split <;> omega
      rw [Nat.add_mul]
      omega
  have := key l 0 h
  omega
theorem sumP_0 {l : List Xs} (h : ∀ x ∈ l, x.pn = 0) : sumP l = 0 := by
  unfold sumP
  induction l with
  | nil => rfl
  | cons x l ih =>
    simp only [List.foldl_cons]
    rw [h x List.mem_cons_self]
    exact ih (fun y hy => h y (List.mem_cons_of_mem _ hy))
theorem Rm.strict {s : Cs} {a : Nat} (h : Rm s a) (hst : s.st = true) {room : Nat} (hr : s.r = room / s.xs.length) : sumU s.xs ≤ room := by
  have := sumU_bd (l := s.xs) (r := s.r) (fun x hx => by
    obtain ⟨i, hi⟩ := List.getElem?_of_mem hx
    exact h.sr hst i x hi)
  rw [hr] at this
  exact Nat.le_trans this (Nat.mul_div_le _ _)
theorem Rm.all {s : Cs} (h : Rm s s.P.length) (c : Ci s) {room : Nat} (hr : s.r = room / s.xs.length) : sumP s.xs = 0 ∧ sumU s.xs ≤ room := by
  have h0 : ∀ x ∈ s.xs, x.pn = 0 ∧ tolT x.us ≤ s.r := by
    intro x hx
    obtain ⟨i, hi⟩ := List.getElem?_of_mem hx
    refine none_pinned (c.iv i x hi) (h.su i x hi) (h.jj i x hi) (fun j e hj => ?_)
    rw [c.pc i x j e hi hj]
    refine List.count_eq_zero.2 (fun hm => ?_)
    obtain ⟨p, hp⟩ := List.getElem?_of_mem hm
    have := (h.ps p _ hp).2 (List.getElem?_eq_some_iff.1 hp).1
    cases this
  refine ⟨sumP_0 (fun x hx => (h0 x hx).1), ?_⟩
  have := sumU_bd (l := s.xs) (r := s.r) (fun x hx => (h0 x hx).2)
  rw [hr] at this
  exact Nat.le_trans this (Nat.mul_div_le _ _)
end Go.Proofs.Ytlkfabejecgfgaa
