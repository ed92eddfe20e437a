/-
  Mathematics: what was split can be joined, and what was joined is split again as it was.
-/
import Derived.Test.YtagnnocecfoggaaMt
import Derived.Test.YtagnnocecfoggaaMs
namespace Go.Proofs.Ytagnnocecfoggaa
set_option linter.unusedVariables false
set_option linter.unusedSimpArgs false
theorem chkE_all {l : List Tm} (h : chkE l = 0) : ∀ t ∈ l, t.s ≤ 72057594037927935 ∧ longB t.b t.e = false := by
  induction l with
  | nil => simp
  | cons x l ih =>
    simp only [chkE] at h
    split at h
    · omega
    · split at h
      · omega
      · rename_i h1 h2
        intro t ht
        rcases List.mem_cons.1 ht with rfl | ht
        · exact ⟨by omega, by simpa using h2⟩
        · exact ih h t ht
theorem chkE_of {l : List Tm} (h : ∀ t ∈ l, t.s ≤ 72057594037927935 ∧ longB t.b t.e = false) : chkE l = 0 := by
  induction l with
  | nil => rfl
  | cons x l ih =>
    obtain ⟨h1, h2⟩ := h x (by simp)
    simp only [chkE]
    rw [if_neg (by omega), if_neg (by simp [h2])]
    exact ih fun t ht => h t (by simp [ht])
theorem frs_mem {how : Int} {l : List Tm} {f : Fg} (h : f ∈ frs how l) : f.b ∈ keysOf how l ∧ f.e ∈ keysOf how l ∧ f.q = seqsAt how l f.b := by
  simp only [frs, List.mem_filter, List.mem_map] at h
  obtain ⟨⟨⟨p1, p2⟩, hp, rfl⟩, _⟩ := h
  unfold pcs at hp
  obtain ⟨h1, h2⟩ := List.of_mem_zip hp
  exact ⟨h1, List.mem_of_mem_tail h2, rfl⟩
theorem frs_short {how : Int} {l : List Tm} (h : chkE l = 0) {f : Fg} (hf : f ∈ frs how l) : longB f.b f.e = false ∧ ∀ s ∈ f.q, s ≤ 72057594037927935 := by
  obtain ⟨h1, h2, h3⟩ := frs_mem hf
  have hk : ∀ z ∈ keysOf how l, z.size ≤ 1024 := fun z hz => by
    obtain ⟨t, ht, _, e⟩ := ((keysOf_facts how l).2 z).1 hz
    have := (chkE_all h t ht).2
    simp only [longB, Bool.or_eq_false_iff, decide_eq_false_iff_not] at this
    rcases e with rfl | rfl <;> omega
  constructor
  · have a := hk _ h1
    have b := hk _ h2
    simp only [longB, Bool.or_eq_false_iff, decide_eq_false_iff_not]
    omega
  · intro s hs
    rw [h3] at hs
    obtain ⟨t, ht, _, rfl⟩ := ((seqsAt_facts how l f.b).2 s).1 hs
    exact (chkE_all h t ht).1
theorem frs_can {how : Int} {l : List Tm} (h : splE how l = 0) : jnE how (frs how l) = 0 := by
  obtain ⟨h1, h2, h3⟩ := splE_len h
  have hF := frs_frs how l
  have hm : manyB (frs how l) = false := by
    unfold manyB
    simp only [Bool.or_eq_false_iff, decide_eq_false_iff_not, List.any_eq_false, Bool.not_eq_true]
    refine ⟨⟨?_, fun f hf => (frs_short h3 hf).1⟩, ?_⟩
    · have := frs_len how l; omega
    · have := frs_count how l
      have : l.length * l.length ≤ 1024 * 1024 := Nat.mul_le_mul h1 h1
      omega
  have hc : canB how (frs how l) = true := canB_yes ⟨fun i f hf => hF.be f (List.mem_of_getElem? hf), fun i f hf => ⟨hF.ne f (List.mem_of_getElem? hf), fun x hx => (frs_short h3 (List.mem_of_getElem? hf)).2 x (List.mem_of_getElem? hx), fun k x y hx hy => by
      obtain ⟨k1, rfl⟩ := List.getElem?_eq_some_iff.1 hx
      obtain ⟨k2, rfl⟩ := List.getElem?_eq_some_iff.1 hy
      have := List.pairwise_iff_getElem.1 (hF.fall f (List.mem_of_getElem? hf)) k (k + 1) k1 k2 (by omega)
      simpa [gt] using this⟩, fun i f g hf hg => by
      obtain ⟨k1, rfl⟩ := List.getElem?_eq_some_iff.1 hf
      obtain ⟨k2, rfl⟩ := List.getElem?_eq_some_iff.1 hg
      exact List.pairwise_iff_getElem.1 hF.up i (i + 1) k1 k2 (by omega)⟩
  unfold jnE
  rw [hm, h2, hc]
  simp
theorem frs_jl {how : Int} {l : List Tm} (h : splE how l = 0) : jL how (frs how l) = jnT (frs how l) := by
  unfold jL; rw [if_pos (frs_can h)]
theorem spl_again {how : Int} {l : List Tm} (h : splE how l = 0) : (splE how (jnT (frs how l)) = 2 ∧ sL how (jnT (frs how l)) = [] ∧ 1024 < (jnT (frs how l)).length) ∨ (splE how (jnT (frs how l)) = 0 ∧ sL how (jnT (frs how l)) = frs how l) := by
  obtain ⟨h1, h2, h3⟩ := splE_len h
  have hF := frs_frs how l
  by_cases hl : 1024 < (jnT (frs how l)).length
  · left
    have e : splE how (jnT (frs how l)) = 2 := by unfold splE; rw [if_pos h2, if_pos hl]
    refine ⟨e, ?_, hl⟩
    unfold sL
    rw [e]; rfl
  · right
    have e : splE how (jnT (frs how l)) = 0 := by
      unfold splE
      rw [if_pos h2, if_neg hl]
      refine chkE_of fun t ht => ?_
      obtain ⟨f, hf, e1, e2, e3⟩ := jnT_mem.1 ht
      obtain ⟨a, b⟩ := frs_short h3 hf
      rw [e1, e2]
      exact ⟨b _ e3, a⟩
    refine ⟨e, ?_⟩
    unfold sL
    rw [if_pos e]
    exact frs_again ⟨hF.be, hF.up⟩ hF.ne hF.fall
theorem jl_le (how : Int) (L : List Fg) : (jL how L).length ≤ 1048576 := by
  unfold jL
  split
  · rename_i h
    rw [jnT_len]
    have hm : manyB L = false := by
      cases e : manyB L
      · rfl
      · unfold jnE at h; rw [if_pos e] at h; omega
    unfold manyB at hm
    simp only [Bool.or_eq_false_iff, decide_eq_false_iff_not] at hm
    omega
  · simp
theorem sl_le (how : Int) (l : List Tm) : (sL how l).length ≤ 2048 ∧ ∀ f ∈ sL how l, f.q.length ≤ 1024 := by
  unfold sL
  split
  · rename_i h
    obtain ⟨h1, _, _⟩ := splE_len h
    exact ⟨by have := frs_len how l; omega, fun f hf => by have := frs_q how l f hf; omega⟩
  · exact ⟨by simp, by simp⟩
end Go.Proofs.Ytagnnocecfoggaa
