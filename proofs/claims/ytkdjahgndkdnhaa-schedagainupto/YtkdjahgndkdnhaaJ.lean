import Derived.Test.YtkdjahgndkdnhaaC
namespace Go.Proofs.Ytkdjahgndkdnhaa
set_option linter.unusedVariables false
set_option linter.unusedSimpArgs false
/-! Mathematics: numbers of tasks behind a step; turns. -/
theorem nums_iff {q : Tk → Bool} {i : Nat} {l : List Tk} {x : Nat} : x ∈ nums q i l ↔ ∃ j t, x = i + j ∧ l[j]? = some t ∧ q t = true := by
  induction l generalizing i with
  | nil => simp [nums]
  | cons t l ih =>
    constructor
    · intro h
      simp only [nums] at h
      split at h
      · rename_i hq
        rcases List.mem_cons.1 h with rfl | h
        · exact ⟨0, t, by omega, rfl, hq⟩
        · obtain ⟨j, t', rfl, h1, h2⟩ := ih.1 h
          exact ⟨j + 1, t', by omega, by simpa using h1, h2⟩
      · obtain ⟨j, t', rfl, h1, h2⟩ := ih.1 h
        exact ⟨j + 1, t', by omega, by simpa using h1, h2⟩
    · rintro ⟨j, t', rfl, h1, h2⟩
      cases j with
      | zero =>
        simp at h1
        subst h1
        simp [nums, h2]
      | succ j =>
        have := (ih (i := i + 1)).2 ⟨j, t', by omega, by simpa using h1, h2⟩
        simp only [nums]
        split
        · exact List.mem_cons_of_mem _ this
        · exact this
theorem nums_set_same {q : Tk → Bool} {i n : Nat} {l : List Tk} {t t' : Tk} (h : l[n]? = some t) (e : q t' = q t) : nums q i (l.set n t') = nums q i l := by
  induction l generalizing i n with
  | nil => simp at h
  | cons x l ih =>
    cases n with
    | zero =>
      simp at h
      subst h
      simp [nums, e]
    | succ n =>
      simp only [List.set_cons_succ, nums]
      rw [ih (by simpa using h)]
theorem nums_set_len {q : Tk → Bool} {i n : Nat} {l : List Tk} {t t' : Tk} (h : l[n]? = some t) (e : q t = true) (e' : q t' = false) : (nums q i (l.set n t')).length + 1 = (nums q i l).length := by
  induction l generalizing i n with
  | nil => simp at h
  | cons x l ih =>
    cases n with
    | zero =>
      simp at h
      subst h
      simp [nums, e, e']
    | succ n =>
      simp only [List.set_cons_succ, nums]
      have := ih (i := i + 1) (n := n) (by simpa using h)
      split
      · simp only [List.length_cons]; omega
      · omega
theorem nums_set_mem {q : Tk → Bool} {n x : Nat} {l : List Tk} {t' : Tk} (e' : q t' = false) (h : x ∈ nums q 0 (l.set n t')) : x ≠ n ∧ x ∈ nums q 0 l := by
  obtain ⟨j, t, hj, h1, h2⟩ := nums_iff.1 h
  have hx : x = j := by omega
  subst hx
  rw [List.getElem?_set] at h1
  split at h1
  · split at h1
    · cases h1; rw [e'] at h2; cases h2
    · cases h1
  · rename_i hne
    exact ⟨fun e => hne e.symm, nums_iff.2 ⟨x, t, by omega, h1, h2⟩⟩
/-- How long ago the place p was picked, if it was. -/
def gap (m p a : Nat) : Nat := (a + m - 1 - p) % m + 1
theorem gap_le {m p a : Nat} (hm : 0 < m) : gap m p a ≤ m := by
  have := Nat.mod_lt (a + m - 1 - p) hm
  unfold gap; omega
theorem gap_next {m p a : Nat} (hp : p < m) (h : a % m ≠ p) : gap m p (a + 1) = gap m p a + 1 := by
  unfold gap
  have e : a + 1 + m - 1 - p = (a + m - 1 - p) + 1 := by omega
  rw [e]
  have h1 := Nat.mod_lt (a + m - 1 - p) (show 0 < m by omega)
  by_cases hh : (a + m - 1 - p) % m + 1 = m
  · exfalso
    apply h
    have h2 : (a + m - 1 - p + 1) % m = 0 := by
      rw [Nat.add_mod]
      by_cases h1m : m = 1
      · subst h1m; omega
      · rw [Nat.mod_eq_of_lt (show 1 < m by omega), hh]; simp
    have e2 : a + m - 1 - p + 1 = a + (m - p) := by omega
    rw [e2] at h2
    have h3 : (a + (m - p) + p) % m = p := by
      rw [Nat.add_mod, h2, Nat.zero_add, Nat.mod_mod, Nat.mod_eq_of_lt hp]
    have e3 : a + (m - p) + p = a + m := by omega
    rw [e3, Nat.add_mod_right] at h3
    exact h3
  · have : (a + m - 1 - p + 1) % m = (a + m - 1 - p) % m + 1 := by
      rw [Nat.add_mod]
      by_cases h1m : m = 1
      · subst h1m; omega
      · rw [Nat.mod_eq_of_lt (show 1 < m by omega), Nat.mod_eq_of_lt (by omega)]
    omega
theorem gap_lt {m p a : Nat} (hp : p < m) (h : a % m ≠ p) : gap m p a + 1 ≤ m := by
  have := gap_next hp h
  have := gap_le (m := m) (p := p) (a := a + 1) (by omega)
  omega
/-- Nobody waits too long. -/
def Fair (n : Nat) (L : List Nat) (last : Nat → Nat) (a : Nat) : Prop := L.length ≤ n ∧ ∀ p i, L[p]? = some i → a ≤ last i + n * (n - L.length) + gap L.length p a
theorem Fair.bound {n : Nat} {L : List Nat} {last : Nat → Nat} {a : Nat} (h : Fair n L last a) {i : Nat} (hi : i ∈ L) : a ≤ last i + n * n := by
  obtain ⟨p, hp⟩ := List.mem_iff_getElem?.1 hi
  have h1 := h.2 p i hp
  have hl : p < L.length := (List.getElem?_eq_some_iff.1 hp).1
  have h2 := gap_le (m := L.length) (p := p) (a := a) (by omega)
  have h3 : n * (n - L.length) + L.length ≤ n * n := by
    obtain ⟨d, hd⟩ : ∃ d, n = L.length + d := ⟨n - L.length, by have := h.1; omega⟩
    have : n - L.length = d := by omega
    rw [this]
    have : n * n = n * d + n * L.length := by rw [← Nat.mul_add]; congr 1; omega
    have : L.length ≤ n * L.length := Nat.le_mul_of_pos_left _ (by omega)
    omega
  omega
theorem Fair.same {n : Nat} {L : List Nat} {last : Nat → Nat} {a x : Nat} (h : Fair n L last a) (hx : L[a % L.length]? = some x) : Fair n L (fun i => if i = x then a else last i) (a + 1) := by
  refine ⟨h.1, fun p i hp => ?_⟩
  have hl : p < L.length := (List.getElem?_eq_some_iff.1 hp).1
  by_cases e : i = x
  · subst e
    simp only [if_true]
    unfold gap
    omega
  · simp only [e, if_false]
    have hne : a % L.length ≠ p := by
      rintro rfl
      rw [hp] at hx
      exact e (by simpa using hx)
    rw [gap_next hl hne]
    have := h.2 p i hp
    omega
theorem Fair.less {n : Nat} {L L' : List Nat} {last : Nat → Nat} {a x : Nat} (h : Fair n L last a) (hx : L[a % L.length]? = some x) (hlen : L'.length + 1 = L.length) (hm : ∀ i, i ∈ L' → i ≠ x ∧ i ∈ L) : Fair n L' (fun i => if i = x then a else last i) (a + 1) := by
  have hn := h.1
  refine ⟨by omega, fun p i hp => ?_⟩
  obtain ⟨e, hi⟩ := hm i (List.mem_of_getElem? hp)
  simp only [e, if_false]
  obtain ⟨p0, hp0⟩ := List.mem_iff_getElem?.1 hi
  have hl : p0 < L.length := (List.getElem?_eq_some_iff.1 hp0).1
  have hne : a % L.length ≠ p0 := by
    rintro rfl
    rw [hp0] at hx
    exact e (by simpa using hx)
  have h1 := gap_lt hl hne
  have h2 := h.2 p0 i hp0
  have h3 : n * (n - L'.length) = n * (n - L.length) + n := by
    have : n - L'.length = (n - L.length) + 1 := by omega
    rw [this, Nat.mul_add, Nat.mul_one]
  rw [h3]
  omega
theorem Fair.begin {n : Nat} {L : List Nat} {last : Nat → Nat} (h : L.length ≤ n) : Fair n L last 0 := ⟨h, fun p i _ => by omega⟩
/-- How many steps are left. -/
def left : List Nat → List Nat → Nat
  | e :: es, d :: ds => (e + 1 - d) + left es ds
  | _, _ => 0
theorem left_le : ∀ (es ds : List Nat), (∀ e ∈ es, e < 256) → left es ds ≤ 256 * es.length
  | [], ds, _ => by simp [left]
  | e :: es, [], _ => by simp [left]
  | e :: es, d :: ds, h => by
    have h1 := h e (by simp)
    have h2 := left_le es ds (fun x hx => h x (List.mem_cons_of_mem _ hx))
    simp only [left, List.length_cons]
    omega
theorem left_set : ∀ (es ds : List Nat) (n e d : Nat), es[n]? = some e → ds[n]? = some d → d ≤ e → left es (ds.set n (d + 1)) + 1 = left es ds
  | [], ds, n, e, d, h, _, _ => by simp at h
  | e0 :: es, [], n, e, d, _, h, _ => by simp at h
  | e0 :: es, d0 :: ds, 0, e, d, h1, h2, h3 => by
    simp at h1 h2
    subst h1 h2
    simp only [List.set_cons_zero, left]
    omega
  | e0 :: es, d0 :: ds, n + 1, e, d, h1, h2, h3 => by
    have := left_set es ds n e d (by simpa using h1) (by simpa using h2) h3
    simp only [List.set_cons_succ, left]
    omega
end Go.Proofs.Ytkdjahgndkdnhaa
