import Derived.Test.YtkdjahgndkdnhaaC
namespace Go.Proofs.Ytkdjahgndkdnhaa
set_option linter.unusedVariables false
set_option linter.unusedSimpArgs false
/-! Mathematics: a list sorted by a number that no two share. -/
def insS (f : Nat → Int) (x : Nat) : List Nat → List Nat
  | [] => [x]
  | y :: l => if f x < f y then x :: y :: l else y :: insS f x l
def sortS (f : Nat → Int) : List Nat → List Nat
  | [] => []
  | x :: l => insS f x (sortS f l)
theorem insS_perm (f : Nat → Int) (x : Nat) (l : List Nat) : (insS f x l).Perm (x :: l) := by
  induction l with
  | nil => exact List.Perm.refl _
  | cons y l ih =>
    simp only [insS]
    split
    · exact List.Perm.refl _
    · exact (ih.cons y).trans (List.Perm.swap x y l)
theorem sortS_perm (f : Nat → Int) (l : List Nat) : (sortS f l).Perm l := by
  induction l with
  | nil => exact List.Perm.refl _
  | cons x l ih => exact (insS_perm f x _).trans (ih.cons x)
theorem insS_sorted {f : Nat → Int} {x : Nat} {l : List Nat} (h : l.Pairwise (fun a b => f a ≤ f b)) : (insS f x l).Pairwise (fun a b => f a ≤ f b) := by
  induction l with
  | nil => simp [insS]
  | cons y l ih =>
    obtain ⟨h1, h2⟩ := List.pairwise_cons.1 h
    simp only [insS]
    split
    · rename_i hlt
      refine List.pairwise_cons.2 ⟨fun z hz => ?_, h⟩
      rcases List.mem_cons.1 hz with rfl | hz
      · omega
      · have := h1 z hz; omega
    · rename_i hlt
      refine List.pairwise_cons.2 ⟨fun z hz => ?_, ih h2⟩
      rcases List.mem_cons.1 ((insS_perm f x l).mem_iff.1 hz) with rfl | hz
      · omega
      · exact h1 z hz
theorem sortS_sorted (f : Nat → Int) (l : List Nat) : (sortS f l).Pairwise (fun a b => f a ≤ f b) := by
  induction l with
  | nil => exact List.Pairwise.nil
  | cons x l ih => exact insS_sorted ih
/-- Two sorted lists of the same members are one, where no two members share a number. -/
theorem sorted_one {f : Nat → Int} : ∀ {a b : List Nat}, a.Perm b → a.Pairwise (fun x y => f x ≤ f y) → b.Pairwise (fun x y => f x ≤ f y) → (∀ x ∈ a, ∀ y ∈ a, f x = f y → x = y) → a = b
  | [], b, h, _, _, _ => by rw [List.Perm.nil_eq h]
  | x :: a, [], h, _, _, _ => by have := h.length_eq; simp at this
  | x :: a, y :: b, h, ha, hb, hi => by
    obtain ⟨a1, a2⟩ := List.pairwise_cons.1 ha
    obtain ⟨b1, b2⟩ := List.pairwise_cons.1 hb
    have hxy : x = y := by
      have m1 : x ∈ y :: b := h.mem_iff.1 (by simp)
      have m2 : y ∈ x :: a := h.mem_iff.2 (by simp)
      rcases List.mem_cons.1 m1 with e | m1
      · exact e
      · rcases List.mem_cons.1 m2 with e | m2
        · exact e.symm
        · exact hi x (by simp) y (List.mem_cons_of_mem _ m2) (by have := a1 y m2; have := b1 x m1; omega)
    subst hxy
    rw [sorted_one ((List.perm_cons x).1 h) a2 b2 (fun u hu v hv => hi u (List.mem_cons_of_mem _ hu) v (List.mem_cons_of_mem _ hv))]
end Go.Proofs.Ytkdjahgndkdnhaa
