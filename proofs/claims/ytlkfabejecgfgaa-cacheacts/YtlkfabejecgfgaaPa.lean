import Derived.Test.YtlkfabejecgfgaaB
namespace Go.Proofs.Ytlkfabejecgfgaa
set_option linter.unusedVariables false
set_option linter.unusedSimpArgs false
/-! What holds of a shard, whatever was done. -/
structure Iv (x : Xs) : Prop where
  nd : x.q.Nodup
  qe : ∀ j, j ∈ x.q ↔ ∃ e, x.ent[j]? = some e ∧ e.pins = 0 ∧ x.f e.key.data.toList = some j
  fe : ∀ k j, x.f k = some j → ∃ e, x.ent[j]? = some e ∧ e.key.data.toList = k
  ct : x.cnt ≤ x.ent.length
theorem xat {x : Xs} {j : Nat} {e : En} (h : x.ent[j]? = some e) : x.at j = e := by unfold Xs.at; rw [List.getD_eq_getElem?_getD, h]; rfl
theorem nd_mem_erase {q : List Nat} (hn : q.Nodup) {i j : Nat} : i ∈ q.erase j ↔ i ≠ j ∧ i ∈ q := by
  rw [hn.mem_erase_iff]
section
variable {x : Xs} {j : Nat} {e : En}
theorem Iv.take (h : Iv x) (hj : x.ent[j]? = some e) (hf : x.f e.key.data.toList = some j) : Iv (takeX x j) := by
  have ea := xat hj
  refine ⟨?_, ?_, ?_, ?_⟩
  · unfold takeX; simp only []; split
    · exact h.nd.erase _
    · exact h.nd
  · intro i
    unfold takeX; simp only [ea]
    constructor
    · intro hi
      have hi' : i ∈ x.q ∧ i ≠ j := by
        split at hi
        · have := (nd_mem_erase h.nd).1 hi; exact ⟨this.2, this.1⟩
        · rename_i hp
          refine ⟨hi, ?_⟩
          rintro rfl
          obtain ⟨e', h1, h2, _⟩ := (h.qe i).1 hi
          rw [hj] at h1; cases h1; exact hp h2
      obtain ⟨e', h1, h2, h3⟩ := (h.qe i).1 hi'.1
      refine ⟨e', h1, h2, ?_⟩
      unfold fput
      rw [if_neg]
      · exact h3
      · intro hk
        rw [hk, hf] at h3
        cases h3
        exact hi'.2 rfl
    · rintro ⟨e', h1, h2, h3⟩
      unfold fput at h3
      split at h3
      · cases h3
      · rename_i hk
        have hi : i ∈ x.q := (h.qe i).2 ⟨e', h1, h2, h3⟩
        have hne : i ≠ j := by
          rintro rfl
          rw [hj] at h1; cases h1; exact hk rfl
        split
        · exact (nd_mem_erase h.nd).2 ⟨hne, hi⟩
        · exact hi
  · intro k i hi
    unfold takeX at hi; simp only [ea] at hi
    unfold fput at hi
    split at hi
    · cases hi
    · exact h.fe k i hi
  · have := h.ct
    unfold takeX; simp only []; omega
theorem take_ent (x : Xs) (j : Nat) : (takeX x j).ent = x.ent := rfl
theorem Iv.head (h : Iv x) (hj : j ∈ x.q) : ∃ e, x.ent[j]? = some e ∧ e.pins = 0 ∧ x.f e.key.data.toList = some j := (h.qe j).1 hj
theorem Iv.room (c r : Nat) : ∀ (n : Nat) (x : Xs), Iv x → Iv (roomX c r n x) ∧ (roomX c r n x).ent = x.ent
  | 0, x, h => ⟨h, rfl⟩
  | n + 1, x, h => by
    unfold roomX
    cases hq : x.q with
    | nil => exact ⟨h, rfl⟩
    | cons j t =>
      simp only []
      split
      · obtain ⟨e, h1, h2, h3⟩ := h.head (j := j) (by rw [hq]; exact List.mem_cons_self)
        exact Iv.room c r n _ (h.take h1 h3)
      · exact ⟨h, rfl⟩
theorem Iv.old (h : Iv x) {k : List UInt8} (hf : x.f k = some j) : ∃ e, x.ent[j]? = some e ∧ e.key.data.toList = k ∧ (e.pins = 0 → j ∈ x.q) := by
  obtain ⟨e, h1, h2⟩ := h.fe k j hf
  exact ⟨e, h1, h2, fun hp => (h.qe j).2 ⟨e, h1, hp, by rw [h2]; exact hf⟩⟩
/-- One more entry, in no map and no queue. -/
def addE (x : Xs) (e : En) : Xs := { x with ent := x.ent ++ [e] }
theorem get_app {l : List En} {e : En} {i : Nat} {e' : En} (h : l[i]? = some e') : (l ++ [e])[i]? = some e' := by
  rw [List.getElem?_append_left (List.getElem?_eq_some_iff.1 h).1]; exact h
theorem Iv.add (h : Iv x) (e : En) : Iv (addE x e) := by
  refine ⟨h.nd, ?_, ?_, ?_⟩
  · intro i
    unfold addE; simp only []
    rw [h.qe]
    constructor
    · rintro ⟨e', h1, h2, h3⟩; exact ⟨e', get_app h1, h2, h3⟩
    · rintro ⟨e', h1, h2, h3⟩
      obtain ⟨e2, h4, h5⟩ := h.fe _ _ h3
      rw [get_app h4] at h1
      cases h1
      exact ⟨_, h4, h2, h3⟩
  · intro k i hi
    obtain ⟨e', h1, h2⟩ := h.fe k i hi
    exact ⟨e', get_app h1, h2⟩
  · have := h.ct; unfold addE; simp only [List.length_append, List.length_cons, List.length_nil]; omega
theorem putX_eq (x : Xs) (k : ByteArray) (v : Value) (c : Nat) : putX x k v c = put1 (addE x ⟨k, v, c, 0⟩) x.ent.length := rfl
theorem Iv.put (h : Iv x) (k : ByteArray) (v : Value) (c : Nat) : Iv (putX x k v c) ∧ (putX x k v c).ent = x.ent ++ [⟨k, v, c, 1⟩] := by
  have hA := h.add ⟨k, v, c, 0⟩
  have hn : (addE x ⟨k, v, c, 0⟩).ent[x.ent.length]? = some ⟨k, v, c, 0⟩ := by unfold addE; simp
  have hq : x.ent.length ∉ x.q := fun hh => by
    obtain ⟨e', h1, _⟩ := (h.qe _).1 hh
    have := (List.getElem?_eq_some_iff.1 h1).1
    omega
  rw [putX_eq]
  -- the state behind the taking out
  have key : ∃ y, Iv y ∧ y.ent = x.ent ++ [⟨k, v, c, 0⟩] ∧ x.ent.length ∉ y.q ∧ y.f k.data.toList = none ∧ y.cnt ≤ x.ent.length ∧ put1 (addE x ⟨k, v, c, 0⟩) x.ent.length = { y with ent := y.ent.set x.ent.length ⟨k, v, c, 1⟩, f := fput y.f k.data.toList (some x.ent.length), cnt := y.cnt + 1, us := addT y.us c, pn := addT y.pn c } := by
    cases hf : x.f k.data.toList with
    | none =>
      refine ⟨addE x ⟨k, v, c, 0⟩, hA, rfl, hq, hf, h.ct, ?_⟩
      unfold put1; rw [xat hn]; simp only []
      have : (addE x ⟨k, v, c, 0⟩).f k.data.toList = none := hf
      rw [this]
    | some j =>
      have hf' : (addE x ⟨k, v, c, 0⟩).f k.data.toList = some j := hf
      obtain ⟨e', h1, h2, _⟩ := hA.old hf'
      have hI := hA.take h1 (by rw [h2]; exact hf')
      refine ⟨takeX (addE x ⟨k, v, c, 0⟩) j, hI, rfl, ?_, ?_, ?_, ?_⟩
      · intro hh
        obtain ⟨e2, h3, _, h5⟩ := (hI.qe _).1 hh
        rw [take_ent, hn] at h3
        cases h3
        unfold takeX at h5
        simp only [xat h1, h2] at h5
        simp [fput] at h5
      · unfold takeX; simp only [xat h1, h2]; simp [fput]
      · have := h.ct
        unfold takeX addE; simp only []; omega
      · unfold put1; rw [xat hn]; simp only []
        rw [hf']
  obtain ⟨y, hI, he, hqy, hfy, hct, hp⟩ := key
  rw [hp]
  have hset : y.ent.set x.ent.length ⟨k, v, c, 1⟩ = x.ent ++ [⟨k, v, c, 1⟩] := by rw [he]; simp
  refine ⟨⟨hI.nd, ?_, ?_, ?_⟩, hset⟩
  · intro i
    simp only [hset]
    rw [hI.qe, he]
    constructor
    · rintro ⟨e', h1, h2, h3⟩
      by_cases c1 : i = x.ent.length
      · subst c1
        exact absurd ((hI.qe _).2 ⟨e', by rw [he]; exact h1, h2, h3⟩) hqy
      · have hl : i < x.ent.length := by
          have := (List.getElem?_eq_some_iff.1 h1).1
          simp at this; omega
        rw [List.getElem?_append_left hl] at h1 ⊢
        refine ⟨e', h1, h2, ?_⟩
        unfold fput
        rw [if_neg]
        · exact h3
        · intro hk; rw [hk, hfy] at h3; cases h3
    · rintro ⟨e', h1, h2, h3⟩
      by_cases c1 : i = x.ent.length
      · subst c1
        simp at h1
        subst h1
        cases h2
      · have hl : i < x.ent.length := by
          have := (List.getElem?_eq_some_iff.1 h1).1
          simp at this; omega
        rw [List.getElem?_append_left hl] at h1 ⊢
        refine ⟨e', h1, h2, ?_⟩
        unfold fput at h3
        split at h3
        · cases h3; exact absurd rfl c1
        · exact h3
  · intro k' i hi
    simp only [hset]
    simp only [] at hi
    unfold fput at hi
    split at hi
    · rename_i hk
      cases hi
      exact ⟨⟨k, v, c, 1⟩, by simp, hk.symm⟩
    · obtain ⟨e', h1, h2⟩ := hI.fe k' i hi
      rw [he] at h1
      by_cases c1 : i = x.ent.length
      · subst c1
        simp at h1
        subst h1
        exact absurd h2.symm (by assumption)
      · have hl : i < x.ent.length := by
          have := (List.getElem?_eq_some_iff.1 h1).1
          simp at this; omega
        rw [List.getElem?_append_left hl] at h1 ⊢
        exact ⟨e', h1, h2⟩
  · simp only [hset, List.length_append, List.length_cons, List.length_nil]; omega
theorem set_get {l : List En} {i j : Nat} {e a : En} (hj : l[j]? = some e) : (l.set j a)[i]? = if i = j then some a else l[i]? := by
  by_cases c : i = j
  · subst c; rw [if_pos rfl, List.getElem?_set_self (List.getElem?_eq_some_iff.1 hj).1]
  · rw [if_neg c, List.getElem?_set_ne (Ne.symm c)]
theorem Iv.pin (h : Iv x) (hj : x.ent[j]? = some e) (hf : x.f e.key.data.toList = some j) : Iv (pinX x j) ∧ (pinX x j).ent = x.ent.set j { e with pins := e.pins + 1 } := by
  have ea := xat hj
  have he : (pinX x j).ent = x.ent.set j { e with pins := e.pins + 1 } := by unfold pinX; simp only [ea]
  refine ⟨⟨?_, ?_, ?_, ?_⟩, he⟩
  · unfold pinX; simp only []; split
    · exact h.nd.erase _
    · exact h.nd
  · intro i
    rw [he]
    have hq : (i ∈ (pinX x j).q) ↔ (i ≠ j ∧ i ∈ x.q) := by
      unfold pinX; simp only [ea]
      split
      · exact nd_mem_erase h.nd
      · rename_i hp
        constructor
        · intro hi
          refine ⟨?_, hi⟩
          rintro rfl
          obtain ⟨e', h1, h2, _⟩ := (h.qe i).1 hi
          rw [hj] at h1; cases h1; exact hp h2
        · exact fun hi => hi.2
    rw [hq, h.qe, set_get hj]
    by_cases c : i = j
    · subst c
      simp
    · rw [if_neg c]; simp [c]
      unfold pinX; simp
  · intro k i hi
    rw [he, set_get hj]
    obtain ⟨e', h1, h2⟩ := h.fe k i hi
    by_cases c : i = j
    · subst c
      rw [hj] at h1; cases h1
      rw [if_pos rfl]; exact ⟨_, rfl, h2⟩
    · rw [if_neg c]; exact ⟨e', h1, h2⟩
  · rw [he]
    have := h.ct
    unfold pinX; simp only [List.length_set]; exact this
theorem Iv.unpin (h : Iv x) (hj : x.ent[j]? = some e) (hp : 0 < e.pins) (r : Nat) : Iv (unpinX x j r) ∧ (unpinX x j r).ent = x.ent.set j { e with pins := e.pins - 1 } := by
  have ea := xat hj
  have hnq : j ∉ x.q := fun hh => by
    obtain ⟨e', h1, h2, _⟩ := (h.qe j).1 hh
    rw [hj] at h1; cases h1; omega
  have fe' : ∀ k i, x.f k = some i → ∃ e', (x.ent.set j { e with pins := e.pins - 1 })[i]? = some e' ∧ e'.key.data.toList = k := by
    intro k i hi
    rw [set_get hj]
    obtain ⟨e', h1, h2⟩ := h.fe k i hi
    by_cases c : i = j
    · subst c
      rw [hj] at h1; cases h1
      rw [if_pos rfl]; exact ⟨_, rfl, h2⟩
    · rw [if_neg c]; exact ⟨e', h1, h2⟩
  have ct' : x.cnt ≤ (x.ent.set j { e with pins := e.pins - 1 }).length := by rw [List.length_set]; exact h.ct
  unfold unpinX
  simp only [ea]
  split
  · rename_i hp1
    refine ⟨⟨h.nd, ?_, fe', ct'⟩, rfl⟩
    intro i
    simp only []
    rw [h.qe, set_get hj]
    by_cases c : i = j
    · subst c
      rw [if_pos rfl]
      constructor
      · rintro ⟨e', h1, h2, _⟩; rw [hj] at h1; cases h1; omega
      · rintro ⟨e', h1, h2, _⟩; cases h1; simp only [] at h2; omega
    · rw [if_neg c]
  · split
    · rename_i hp1 hf
      have hI : Iv { ent := x.ent.set j { e with pins := e.pins - 1 }, f := x.f, cnt := x.cnt, q := x.q ++ [j], us := x.us, pn := takeT x.pn e.chg } := by
        refine ⟨?_, ?_, fe', ct'⟩
        · refine List.nodup_append.2 ⟨h.nd, by simp, ?_⟩
          rintro a ha b hb rfl
          simp at hb
          subst hb
          exact hnq ha
        · intro i
          simp only [List.mem_append, List.mem_singleton]
          rw [h.qe, set_get hj]
          by_cases c : i = j
          · subst c
            rw [if_pos rfl]
            simp only [or_true, true_iff]
            exact ⟨_, rfl, by simp only []; omega, hf⟩
          · rw [if_neg c]; simp [c]
      exact Iv.room 0 r _ _ hI
    · rename_i hp1 hf
      refine ⟨⟨h.nd, ?_, fe', ct'⟩, rfl⟩
      intro i
      simp only []
      rw [h.qe, set_get hj]
      by_cases c : i = j
      · subst c
        rw [if_pos rfl]
        constructor
        · rintro ⟨e', h1, h2, _⟩; rw [hj] at h1; cases h1; omega
        · rintro ⟨e', h1, h2, h3⟩; cases h1; exact absurd h3 hf
      · rw [if_neg c]
end
end Go.Proofs.Ytlkfabejecgfgaa
