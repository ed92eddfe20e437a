import Derived.Test.YtlkfabejecgfgaaFh
namespace Go.Proofs.Ytlkfabejecgfgaa
set_option linter.unusedVariables false
set_option linter.unusedSimpArgs false
theorem Ci.setx {s : Cs} (c : Ci s) {i : Nat} {x x' : Xs} (hi : s.xs[i]? = some x) {P' : List (Option (Nat × Nat))} (I : Iv x')
    (ha : ∀ (j : Nat) (e : En), x'.ent[j]? = some e → shd s.xs.length e.key.data.toList = i ∧ e.pins = P'.count (some (i, j)))
    (hb : ∀ i' j, i' ≠ i → P'.count (some (i', j)) = s.P.count (some (i', j)))
    (hc : ∀ i' j, some (i', j) ∈ P' → i' = i ∧ j < x'.ent.length ∨ i' ≠ i ∧ some (i', j) ∈ s.P) (hd : x'.ent.length ≤ P'.length) (he : s.P.length ≤ P'.length) : Ci { s with xs := s.xs.set i x', P := P' } := by
  refine ⟨by simpa using c.n1, by simpa using c.n2, c.rb, ?_, ?_, ?_, ?_, ?_⟩
  · intro a y hy
    simp only [xget hi] at hy
    split at hy
    · cases hy; exact I
    · exact c.iv a y hy
  · intro a y j e hy hj
    simp only [xget hi] at hy
    split at hy
    · rename_i e1; cases hy; subst e1; exact (ha j e hj).2
    · rename_i e1
      simp only []
      rw [hb a j e1]; exact c.pc a y j e hy hj
  · intro a j hj
    simp only [xget hi]
    rcases hc a j hj with ⟨e1, h2⟩ | ⟨e1, h2⟩
    · rw [if_pos e1]; exact ⟨x', rfl, h2⟩
    · rw [if_neg e1]; exact c.pr a j h2
  · intro a y j e hy hj
    simp only [xget hi, List.length_set] at hy ⊢
    split at hy
    · rename_i e1; cases hy; subst e1; exact (ha j e hj).1
    · exact c.ks a y j e hy hj
  · intro a y hy
    simp only [xget hi] at hy ⊢
    split at hy
    · cases hy; exact hd
    · exact Nat.le_trans (c.el a y hy) he
theorem Ci.setx0 {s : Cs} (c : Ci s) {i : Nat} {x x' : Xs} (hi : s.xs[i]? = some x) (I : Iv x') (he : x'.ent = x.ent) : Ci (s.setx i x') := by
  refine c.setx (P' := s.P) hi I ?_ (fun _ _ _ => rfl) ?_ (by rw [he]; exact c.el i x hi) (Nat.le_refl _)
  · intro j e hj
    rw [he] at hj
    exact ⟨c.ks i x j e hi hj, c.pc i x j e hi hj⟩
  · intro a j hj
    by_cases e1 : a = i
    · subst e1
      obtain ⟨y, h1, h2⟩ := c.pr a j hj
      rw [hi] at h1; cases h1
      exact .inl ⟨rfl, by rw [he]; exact h2⟩
    · exact .inr ⟨e1, hj⟩
theorem count_snoc (P : List (Option (Nat × Nat))) (a b : Nat × Nat) : (P ++ [some a]).count (some b) = P.count (some b) + (if a = b then 1 else 0) := by
  rw [List.count_append]
  by_cases e : a = b
  · subst e; simp
  · simp [e, List.count_cons]
theorem Ci.drop {s : Cs} (c : Ci s) (k : List UInt8) : Ci (dropC s k).2 := by
  unfold dropC
  have hi := c.ix k
  cases hf : (s.x (s.ix k)).f k with
  | none => exact c
  | some j =>
    obtain ⟨e, h1, h2, _⟩ := (c.iv _ _ hi).old hf
    exact c.setx0 hi ((c.iv _ _ hi).take h1 (by rw [h2]; exact hf)) rfl
theorem Ci.getc {s : Cs} (c : Ci s) (k : List UInt8) : Ci (getC s k).2.2.2 := by
  unfold getC
  have hi := c.ix k
  cases hf : (s.x (s.ix k)).f k with
  | none => exact c
  | some j =>
    obtain ⟨e, h1, h2, _⟩ := (c.iv _ _ hi).old hf
    obtain ⟨I, he⟩ := (c.iv _ _ hi).pin h1 (by rw [h2]; exact hf)
    refine c.setx (P' := s.P ++ [some (s.ix k, j)]) hi I ?_ ?_ ?_ ?_ (by simp)
    · intro j' e' hj
      rw [he, set_get h1] at hj
      rw [count_snoc]
      split at hj
      · rename_i e1
        cases hj; subst e1
        refine ⟨(c.ks _ _ _ e hi h1 :), ?_⟩
        simp only [if_true]
        rw [c.pc _ _ _ _ hi h1]
      · rename_i e1
        refine ⟨c.ks _ _ _ _ hi hj, ?_⟩
        rw [if_neg (by simp; omega)]
        exact c.pc _ _ _ _ hi hj
    · intro i' j' hne
      rw [count_snoc, if_neg (by simp; omega)]; rfl
    · intro i' j' hm
      have hl : (pinX (s.x (s.ix k)) j).ent.length = (s.x (s.ix k)).ent.length := by rw [he]; simp
      rcases List.mem_append.1 hm with hm | hm
      · by_cases e1 : i' = s.ix k
        · obtain ⟨y, h3, h4⟩ := c.pr i' j' hm
          rw [e1, hi] at h3; cases h3
          exact .inl ⟨e1, by rw [hl]; exact h4⟩
        · exact .inr ⟨e1, hm⟩
      · simp at hm
        exact .inl ⟨hm.1, by rw [hl, hm.2]; exact (List.getElem?_eq_some_iff.1 h1).1⟩
    · have := c.el _ _ hi
      rw [he]; simp; omega
theorem Ci.putc {s : Cs} (c : Ci s) (k : ByteArray) (v : Value) (ch : Nat) : Ci (putC s k v ch).2.2 := by
  unfold putC
  split
  · exact c
  · have hi := c.ix k.data.toList
    obtain ⟨I1, he1⟩ := Iv.room ch s.r (s.x (s.ix k.data.toList)).q.length _ (c.iv _ _ hi)
    have hX : roomX ch s.r (s.x (s.ix k.data.toList)).q.length (s.x (s.ix k.data.toList)) = s.rm (s.ix k.data.toList) ch := rfl
    rw [hX] at I1 he1
    split
    · exact c.setx0 hi I1 he1
    · obtain ⟨I2, he2⟩ := I1.put k v ch
      have hnm : some (s.ix k.data.toList, (s.rm (s.ix k.data.toList) ch).ent.length) ∉ s.P := fun hm => by
        obtain ⟨y, h3, h4⟩ := c.pr _ _ hm
        rw [hi] at h3; cases h3
        rw [he1] at h4; omega
      have hel := c.el _ _ hi
      refine c.setx (P' := s.P ++ [some (s.ix k.data.toList, (s.rm (s.ix k.data.toList) ch).ent.length)]) hi I2 ?_ ?_ ?_ ?_ (by simp)
      · intro j e hj
        rw [he2] at hj
        rw [count_snoc]
        by_cases cj : j < (s.rm (s.ix k.data.toList) ch).ent.length
        · rw [List.getElem?_append_left cj, he1] at hj
          refine ⟨c.ks _ _ _ _ hi hj, ?_⟩
          rw [if_neg (by simp; omega)]
          exact c.pc _ _ _ _ hi hj
        · have e1 : j = (s.rm (s.ix k.data.toList) ch).ent.length := by
            have := (List.getElem?_eq_some_iff.1 hj).1
            simp at this; omega
          subst e1
          simp at hj
          subst hj
          refine ⟨rfl, ?_⟩
          rw [if_pos rfl, List.count_eq_zero.2 hnm]
      · intro i' j' hne
        rw [count_snoc, if_neg (by simp; omega)]; rfl
      · intro i' j' hm
        rcases List.mem_append.1 hm with hm | hm
        · by_cases e1 : i' = s.ix k.data.toList
          · obtain ⟨y, h3, h4⟩ := c.pr i' j' hm
            rw [e1, hi] at h3; cases h3
            exact .inl ⟨e1, by rw [he2, he1]; simp; omega⟩
          · exact .inr ⟨e1, hm⟩
        · simp at hm
          exact .inl ⟨hm.1, by rw [he2, hm.2]; simp⟩
      · rw [he2, he1]; simp; omega
theorem count_set {P : List (Option (Nat × Nat))} {m : Nat} {a : Nat × Nat} (h : P[m]? = some (some a)) (b : Nat × Nat) : (P.set m none).count (some b) = P.count (some b) - (if a = b then 1 else 0) := by
  have hm := (List.getElem?_eq_some_iff.1 h).1
  have e := (List.getElem?_eq_some_iff.1 h).2
  rw [List.count_set hm, e]
  by_cases c : a = b
  · subst c; simp
  · simp [c]
theorem Ci.freec {s : Cs} (c : Ci s) (p : Int) : Ci (freeC s p).2 := by
  unfold freeC
  cases hp : s.pin p with
  | none => exact c
  | some ij =>
    obtain ⟨i, j⟩ := ij
    obtain ⟨hp1, hpl, hpg⟩ := pin_I64 hp
    obtain ⟨x, hx, hj⟩ := c.pr i j (List.mem_of_getElem? hpg)
    have exi : s.x i = x := xs_get hx
    simp only [exi]
    obtain ⟨e, he⟩ : ∃ e, x.ent[j]? = some e := ⟨_, List.getElem?_eq_getElem hj⟩
    have hpc := c.pc i x j e hx he
    have hpos : 0 < e.pins := by rw [hpc]; exact List.count_pos_iff.2 (List.mem_of_getElem? hpg)
    obtain ⟨I, hE⟩ := (c.iv i x hx).unpin he hpos s.r
    refine c.setx (P' := s.P.set (p - 1).toNat none) hx I ?_ ?_ ?_ ?_ (by simp)
    · intro j' e' hj'
      rw [hE, set_get he] at hj'
      rw [count_set hpg]
      split at hj'
      · rename_i e1
        cases hj'; subst e1
        refine ⟨(c.ks _ _ _ e hx he :), ?_⟩
        simp only [if_true]
        rw [hpc]
      · rename_i e1
        refine ⟨c.ks _ _ _ _ hx hj', ?_⟩
        rw [if_neg (by simp; omega)]
        exact c.pc _ _ _ _ hx hj'
    · intro i' j' hne
      rw [count_set hpg, if_neg (by simp; omega)]; rfl
    · intro i' j' hm
      have hm' : some (i', j') ∈ s.P := by
        rcases List.mem_or_eq_of_mem_set hm with h1 | h1
        · exact h1
        · cases h1
      have hl : (unpinX x j s.r).ent.length = x.ent.length := by rw [hE]; simp
      by_cases e1 : i' = i
      · obtain ⟨y, h3, h4⟩ := c.pr i' j' hm'
        rw [e1, hx] at h3; cases h3
        exact .inl ⟨e1, by rw [hl]; exact h4⟩
      · exact .inr ⟨e1, hm'⟩
    · have := c.el _ _ hx
      rw [hE]; simp; omega
theorem Ci.roomc {s : Cs} (c : Ci s) {room : Nat} (hr : room < 18446744073709551616) : Ci (roomC s room) := by
  have hg : ∀ (i : Nat) (y : Xs), (roomC s room).xs[i]? = some y → ∃ x, s.xs[i]? = some x ∧ y = rmX (room / s.xs.length) x := by
    intro i y hy
    unfold roomC at hy
    simp only [List.getElem?_map] at hy
    cases hx : s.xs[i]? with
    | none => rw [hx] at hy; cases hy
    | some x => rw [hx] at hy; exact ⟨x, rfl, (by simpa using hy.symm)⟩
  have hlen : (roomC s room).xs.length = s.xs.length := by unfold roomC; simp
  refine ⟨by rw [hlen]; exact c.n1, by rw [hlen]; exact c.n2, Nat.lt_of_le_of_lt (Nat.div_le_self _ _) hr, ?_, ?_, ?_, ?_, ?_⟩
  · intro i y hy
    obtain ⟨x, hx, rfl⟩ := hg i y hy
    exact (Iv.room 0 _ _ x (c.iv i x hx)).1
  · intro i y j e hy hj
    obtain ⟨x, hx, rfl⟩ := hg i y hy
    rw [rm_ent _ (c.iv i x hx)] at hj
    exact c.pc i x j e hx hj
  · intro i j hm
    obtain ⟨x, hx, hj⟩ := c.pr i j hm
    refine ⟨rmX (room / s.xs.length) x, ?_, by rw [rm_ent _ (c.iv i x hx)]; exact hj⟩
    unfold roomC; simp only [List.getElem?_map, hx]; rfl
  · intro i y j e hy hj
    obtain ⟨x, hx, rfl⟩ := hg i y hy
    rw [rm_ent _ (c.iv i x hx)] at hj
    rw [hlen]
    exact c.ks i x j e hx hj
  · intro i y hy
    obtain ⟨x, hx, rfl⟩ := hg i y hy
    rw [rm_ent _ (c.iv i x hx)]
    exact c.el i x hx
theorem Ci.new {n room : Nat} {st : Bool} (h1 : 1 ≤ n) (h2 : n ≤ 64) (hr : room < 18446744073709551616) : Ci (newC n room st) := by
  refine ⟨by simpa [newC] using h1, by simpa [newC] using h2, Nat.lt_of_le_of_lt (Nat.div_le_self _ _) hr, ?_, ?_, ?_, ?_, ?_⟩
  · intro i x hx; obtain ⟨rfl, _⟩ := rep_get hx; exact iv0
  · intro i x j e hx hj; obtain ⟨rfl, _⟩ := rep_get hx; simp [x0] at hj
  · intro i j hm; simp [newC] at hm
  · intro i x j e hx hj; obtain ⟨rfl, _⟩ := rep_get hx; simp [x0] at hj
  · intro i x hx; obtain ⟨rfl, _⟩ := rep_get hx; simp [x0]
end Go.Proofs.Ytlkfabejecgfgaa
