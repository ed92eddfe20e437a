/-
  Families in order, each once: sorted and then thinned, or put in one by one.
-/
import Derived.Test.YtkpijoogaicodaaGq
import Derived.Lib.SlicesCompact
namespace Go.Proofs.Ytkpijoogaicodaa
open Go.RowKit Go.Lib
set_option linter.unusedVariables false
set_option linter.unusedSimpArgs false
theorem strict_ext : ∀ (l1 l2 : List Int), l1.Pairwise (· < ·) → l2.Pairwise (· < ·) → (∀ x, x ∈ l1 ↔ x ∈ l2) → l1 = l2 := by
  intro l1
  induction l1 with
  | nil =>
    intro l2 _ _ h
    cases l2 with
    | nil => rfl
    | cons y l2 => have := (h y).2 (by simp); simp at this
  | cons x l1 ih =>
    intro l2 h1 h2 h
    cases l2 with
    | nil => have := (h x).1 (by simp); simp at this
    | cons y l2 =>
      rw [List.pairwise_cons] at h1 h2
      have exy : x = y := by
        have a := (h x).1 (by simp)
        have b := (h y).2 (by simp)
        simp only [List.mem_cons] at a b
        rcases a with a | a
        · exact a
        · rcases b with b | b
          · exact b.symm
          · have := h1.1 y b; have := h2.1 x a; omega
      subst exy
      rw [ih l2 h1.2 h2.2 (fun z => ?_)]
      constructor
      · intro hz
        have := (h z).1 (by simp [hz])
        simp only [List.mem_cons] at this
        rcases this with e | this
        · have := h1.1 z hz; omega
        · exact this
      · intro hz
        have := (h z).2 (by simp [hz])
        simp only [List.mem_cons] at this
        rcases this with e | this
        · have := h2.1 z hz; omega
        · exact this
theorem plc_split (o : List Int) (x : Int) : o.take (plc o x) = o.takeWhile (fun y => decide (y < x)) ∧ o.drop (plc o x) = o.dropWhile (fun y => decide (y < x)) := by
  unfold plc
  induction o with
  | nil => simp
  | cons y o ih =>
    by_cases h : y < x
    · simp [List.takeWhile_cons, List.dropWhile_cons, h, ih.1, ih.2]
    · simp [List.takeWhile_cons, List.dropWhile_cons, h]
theorem insU_mem {o : List Int} {x : Int} (z : Int) : z ∈ insU o x ↔ z = x ∨ z ∈ o := by
  unfold insU
  have e := List.take_append_drop (plc o x) o
  split
  · rename_i h
    have hm : x ∈ o := List.mem_of_getElem? h
    constructor
    · exact .inr
    · rintro (rfl | h) <;> assumption
  · have : z ∈ o ↔ z ∈ o.take (plc o x) ∨ z ∈ o.drop (plc o x) := by rw [← List.mem_append, e]
    rw [this]
    simp only [List.mem_append, List.mem_singleton]
    constructor
    · rintro ((h | h) | h)
      · exact .inr (.inl h)
      · exact .inl h
      · exact .inr (.inr h)
    · rintro (h | h | h)
      · exact .inl (.inr h)
      · exact .inl (.inl h)
      · exact .inr h
theorem drop_ge {o : List Int} {x : Int} (h : o.Pairwise (· < ·)) : ∀ z ∈ o.dropWhile (fun y => decide (y < x)), x ≤ z := by
  induction o with
  | nil => simp
  | cons y o ih =>
    rw [List.pairwise_cons] at h
    by_cases hy : y < x
    · simpa [List.dropWhile_cons, hy] using ih h.2
    · intro z hz
      simp [List.dropWhile_cons, hy] at hz
      rcases hz with rfl | hz
      · omega
      · have := h.1 z hz; omega
theorem take_lt {o : List Int} {x : Int} : ∀ z ∈ o.takeWhile (fun y => decide (y < x)), z < x := fun z hz => by
  have := List.all_takeWhile (l := o) (p := fun y => decide (y < x))
  have := List.all_eq_true.1 this z hz
  simpa using this
theorem insU_strict {o : List Int} {x : Int} (h : o.Pairwise (· < ·)) : (insU o x).Pairwise (· < ·) := by
  unfold insU
  split
  · exact h
  · rename_i hx
    have e := List.take_append_drop (plc o x) o
    have hp := h
    rw [← e, List.pairwise_append] at hp
    obtain ⟨s1, s2⟩ := plc_split o x
    have hge : ∀ z ∈ o.drop (plc o x), x < z := fun z hz => by
      have h1 := drop_ge h z (s2 ▸ hz)
      rcases Int.lt_or_eq_of_le h1 with h2 | h2
      · exact h2
      · exfalso
        subst h2
        -- the first of what is dropped is x
        cases hd : o.drop (plc o x) with
        | nil => rw [hd] at hz; simp at hz
        | cons y t =>
          have hy : x ≤ y := drop_ge h y (by rw [← s2, hd]; simp)
          have hh : o[plc o x]? = some y := by
            have := List.getElem?_drop (xs := o) (i := plc o x) (j := 0)
            rw [hd] at this
            simpa using this.symm
          rw [hd] at hz hp
          rw [List.mem_cons] at hz
          rcases hz with rfl | hz
          · exact hx hh
          · have := (List.pairwise_cons.1 hp.2.1).1 x hz; omega
    rw [List.append_assoc, List.pairwise_append]
    refine ⟨hp.1, ?_, fun a ha b hb => ?_⟩
    · simp only [List.singleton_append, List.pairwise_cons]
      exact ⟨hge, hp.2.1⟩
    · simp only [List.singleton_append, List.mem_cons] at hb
      have hax : a < x := take_lt a (s1 ▸ ha)
      rcases hb with rfl | hb
      · exact hax
      · have := hge b hb; omega
theorem famI_facts (l : List Rec) : (famI l).Pairwise (· < ·) ∧ ∀ z, z ∈ famI l ↔ z ∈ l.map (·.fam) := by
  have H : ∀ (l : List Rec) (o : List Int), o.Pairwise (· < ·) → (l.foldl (fun o r => insU o r.fam) o).Pairwise (· < ·) ∧ ∀ z, z ∈ l.foldl (fun o r => insU o r.fam) o ↔ z ∈ o ∨ z ∈ l.map (·.fam) := by
    intro l
    induction l with
    | nil => intro o h; exact ⟨h, fun z => by simp⟩
    | cons r l ih =>
      intro o h
      obtain ⟨h1, h2⟩ := ih (insU o r.fam) (insU_strict h)
      refine ⟨h1, fun z => ?_⟩
      rw [List.foldl_cons, h2 z, insU_mem]
      simp only [List.map_cons, List.mem_cons]
      constructor
      · rintro ((h | h) | h)
        · exact .inr (.inl h)
        · exact .inl h
        · exact .inr (.inr h)
      · rintro (h | h | h)
        · exact .inl (.inr h)
        · exact .inl (.inl h)
        · exact .inr h
  obtain ⟨h1, h2⟩ := H l [] List.Pairwise.nil
  exact ⟨h1, fun z => by rw [famI, h2 z]; simp⟩
theorem thin_facts (d : Array Int) (hs : ∀ i j, i ≤ j → j < d.size → d[i]! ≤ d[j]!) : ∀ m, m ≤ d.size → (compactUpTo d m).Pairwise (· < ·) ∧ (∀ z, z ∈ compactUpTo d m ↔ ∃ j, j < m ∧ d[j]! = z) := by
  intro m
  induction m with
  | zero => intro _; exact ⟨by simp [compactUpTo], fun z => by simp [compactUpTo]⟩
  | succ m ih =>
    intro hm
    obtain ⟨h1, h2⟩ := ih (by omega)
    rw [compactUpTo_succ]
    by_cases hk : keeps d m = true
    · rw [if_pos hk]
      have hlt : ∀ z ∈ compactUpTo d m, z < d[m]! := fun z hz => by
        obtain ⟨j, hj, rfl⟩ := (h2 z).1 hz
        have hne : d[m]! ≠ d[m - 1]! := by
          simp [keeps] at hk
          omega
        have a := hs j (m - 1) (by omega) (by omega)
        have b := hs (m - 1) m (by omega) (by omega)
        omega
      refine ⟨List.pairwise_append.2 ⟨h1, by simp, fun a ha b hb => by simp at hb; rw [hb]; exact hlt a ha⟩, fun z => ?_⟩
      rw [List.mem_append, h2 z]
      simp only [List.mem_singleton]
      constructor
      · rintro (⟨j, hj, e⟩ | rfl)
        · exact ⟨j, by omega, e⟩
        · exact ⟨m, by omega, rfl⟩
      · rintro ⟨j, hj, e⟩
        by_cases hjm : j = m
        · subst hjm; exact .inr e.symm
        · exact .inl ⟨j, by omega, e⟩
    · rw [if_neg hk]
      simp only [List.append_nil]
      refine ⟨h1, fun z => ?_⟩
      rw [h2 z]
      constructor
      · rintro ⟨j, hj, e⟩; exact ⟨j, by omega, e⟩
      · rintro ⟨j, hj, e⟩
        by_cases hjm : j = m
        · subst hjm
          simp [keeps] at hk
          exact ⟨j - 1, by omega, by rw [← hk.2]; exact e⟩
        · exact ⟨j, by omega, e⟩
theorem thin_fam (l : List Rec) (zs : List Int) (hz : zs = (l.map (·.fam)).mergeSort (fun x y => decide (x ≤ y))) : compactUpTo zs.toArray zs.length = famI l := by
  have hp : zs.Perm (l.map (·.fam)) := hz ▸ List.mergeSort_perm _ _
  have hsorted : zs.Pairwise (fun x y => decide (x ≤ y) = true) := by
    rw [hz]
    exact List.pairwise_mergeSort (fun a b c h1 h2 => by simp at *; omega) (fun a b => by simp; omega) _
  have hs : ∀ i j, i ≤ j → j < zs.toArray.size → zs.toArray[i]! ≤ zs.toArray[j]! := fun i j hij hj => by
    simp at hj
    rw [show zs.toArray[i]! = zs[i]'(by omega) by simp [show i < zs.length by omega], show zs.toArray[j]! = zs[j] by simp [hj]]
    rcases Nat.lt_or_ge i j with h | h
    · have := List.pairwise_iff_getElem.1 hsorted i j (by omega) hj h
      simpa using this
    · have : i = j := by omega
      subst this; exact Int.le_refl _
  obtain ⟨h1, h2⟩ := thin_facts zs.toArray hs zs.length (by simp)
  obtain ⟨h3, h4⟩ := famI_facts l
  refine strict_ext _ _ h1 h3 fun z => ?_
  rw [h2 z, h4 z, ← hp.mem_iff]
  constructor
  · rintro ⟨j, hj, e⟩
    rw [← e]
    simp [hj]
  · intro h
    obtain ⟨j, hj, e⟩ := List.getElem_of_mem h
    exact ⟨j, hj, by simp [hj, e]⟩
end Go.Proofs.Ytkpijoogaicodaa
