/-
  Mathematics of places.
-/
import Derived.Test.YtbnllobofndckaaPq
import Derived.Test.YtbnllobofndckaaBm
namespace Go.Proofs.Ytbnllobofndckaa
open Go.RowKit
set_option linter.unusedVariables false
set_option linter.unusedSimpArgs false
theorem wn_succ (r n : Nat) : wn r (n + 1) = wn r n + (if n % r = 0 then 1 else 0) := rfl
theorem wn_mono (r : Nat) {i n : Nat} (h : i ≤ n) : wn r i ≤ wn r n := by
  induction n with
  | zero => rw [show i = 0 by omega]; exact Nat.le_refl _
  | succ n ih =>
    by_cases e : i = n + 1
    · rw [e]; exact Nat.le_refl _
    · have h1 := ih (by omega)
      rw [wn_succ]
      omega
theorem bt_lt (r : Nat) (l : List Ent) {i n : Nat} (h : i < n) : (bt r l i).length < (bt r l n).length := by
  obtain ⟨t, ht⟩ := bt_pre r l n (i + 1) h
  rw [ht, List.length_append]
  have e : bt r l (i + 1) = bt r l i ++ wA r l i := rfl
  rw [e, List.length_append]
  have := wA_ne r l i
  omega
/-- At a whole one stands its place. -/
theorem pI_here (r : Nat) (l : List Ent) : ∀ (n i : Nat), i < n → i % r = 0 → (pI r l n)[wn r i]? = some (bt r l i).length
  | 0, i, h, _ => by omega
  | n + 1, i, h, hr => by
    unfold pI
    by_cases e : i = n
    · subst e
      rw [List.getElem?_append_right (by rw [pI_len]; exact Nat.le_refl _), pI_len, if_pos hr, Nat.sub_self]; rfl
    · have ih := pI_here r l n i (by omega) hr
      rw [List.getElem?_append_left (List.getElem?_eq_some_iff.1 ih).1]; exact ih
/-- Elsewhere the next place is further on. -/
theorem pI_next (r : Nat) (l : List Ent) : ∀ (n i x : Nat), i ≤ n → i % r ≠ 0 → (pI r l n)[wn r i]? = some x → (bt r l i).length < x
  | 0, i, x, h, hr, hx => by simp [pI] at hx
  | n + 1, i, x, h, hr, hx => by
    unfold pI at hx
    rcases Nat.lt_or_ge (wn r i) (wn r n) with hlt | hge
    · rw [List.getElem?_append_left (by rw [pI_len]; exact hlt)] at hx
      by_cases e : i = n + 1
      · subst e
        have := wn_mono r (show n ≤ n + 1 by omega)
        omega
      · exact pI_next r l n i x (by omega) hr hx
    · rw [List.getElem?_append_right (by rw [pI_len]; exact hge), pI_len] at hx
      by_cases hn : n % r = 0
      · rw [if_pos hn] at hx
        have hi : i < n ∨ i = n + 1 := by
          rcases Nat.lt_or_ge i n with h1 | h1
          · exact .inl h1
          · by_cases e : i = n
            · subst e; exact absurd hn hr
            · right; omega
        rcases hi with hi | hi
        · cases hk : wn r i - wn r n with
          | zero =>
            rw [hk] at hx
            simp at hx
            subst hx
            exact bt_lt r l hi
          | succ m => rw [hk] at hx; simp at hx
        · subst hi
          have : wn r (n + 1) = wn r n + 1 := by
            show wn r n + (if n % r = 0 then 1 else 0) = _
            rw [if_pos hn]
          rw [this] at hx
          simp at hx
      · rw [if_neg hn] at hx
        simp at hx
/-- The places of a block. -/
def plc (r : Nat) (l : List Ent) : List Nat := if l.length = 0 then [0] else pI r l l.length
theorem plc_head (r : Nat) (l : List Ent) : (plc r l)[0]? = some 0 := by
  unfold plc
  split
  · rfl
  · have := pI_here r l l.length 0 (by omega) (Nat.zero_mod r)
    exact this
theorem plc_len (r : Nat) (hr : 1 ≤ r) (l : List Ent) : (plc r l).length = max ((l.length + r - 1) / r) 1 := by
  unfold plc
  split
  · next h => rw [h, Nat.zero_add, Nat.div_eq_of_lt (by omega)]; rfl
  · next h =>
    rw [pI_len, ← wn_div r hr, Nat.max_eq_left (wn_pos r _ (by omega))]
theorem wr8_plc (r : Nat) (l : List Ent) : wr8 r l = bt r l l.length ++ pbs (plc r l) ++ byts 4 ((plc r l).length : Nat) := by
  unfold wr8 plc
  by_cases h : l.length = 0
  · rw [if_pos h, if_pos h, if_pos h]; simp [pbs]
  · rw [if_neg h, if_neg h, if_neg h, pI_len]
    rw [← pI_pl r l l.length]
theorem plc_bd {r : Nat} {l : List Ent} (hb : (bt r l l.length).length ≤ 4194304) : ∀ x ∈ plc r l, x ≤ 4194304 := by
  intro x hx
  unfold plc at hx
  split at hx
  · simp at hx; omega
  · have key : ∀ n, n ≤ l.length → ∀ x ∈ pI r l n, x ≤ 4194304 := by
      intro n
      induction n with
      | zero => intro _ x hx; simp [pI] at hx
      | succ n ih =>
        intro hn x hx
        unfold pI at hx
        rcases List.mem_append.1 hx with hx | hx
        · exact ih (by omega) x hx
        · split at hx
          · simp at hx
            subst hx
            have := bt_lt r l (show n < l.length by omega)
            omega
          · simp at hx
    exact key _ (Nat.le_refl _) x hx
/-- What is left of the places at an entry. -/
theorem plc_step {r : Nat} (hr : 1 ≤ r) {l : List Ent} {i : Nat} (hi : i < l.length) :
    (i % r = 0 ∧ ∃ t, (plc r l).drop (wn r i) = (bt r l i).length :: t ∧ (plc r l).drop (wn r (i + 1)) = t) ∨ (i % r ≠ 0 ∧ (plc r l).drop (wn r (i + 1)) = (plc r l).drop (wn r i) ∧ ∀ x t, (plc r l).drop (wn r i) = x :: t → (bt r l i).length < x) := by
  have hp : plc r l = pI r l l.length := by unfold plc; rw [if_neg (by omega)]
  rw [hp]
  by_cases h : i % r = 0
  · left
    refine ⟨h, ?_⟩
    have h1 := pI_here r l l.length i hi h
    obtain ⟨hlt, he⟩ := List.getElem?_eq_some_iff.1 h1
    refine ⟨(pI r l l.length).drop (wn r i + 1), by rw [List.drop_eq_getElem_cons hlt, he], ?_⟩
    show List.drop (wn r i + (if i % r = 0 then 1 else 0)) _ = _
    rw [if_pos h]
  · right
    refine ⟨h, ?_, fun x t hx => ?_⟩
    · show List.drop (wn r i + (if i % r = 0 then 1 else 0)) _ = _
      rw [if_neg h]; rfl
    · refine pI_next r l l.length i x (by omega) h ?_
      have h2 : ((pI r l l.length).drop (wn r i))[0]? = some x := by rw [hx]; rfl
      rw [List.getElem?_drop] at h2
      simpa using h2
theorem plc_end {r : Nat} {l : List Ent} (h : l.length ≠ 0) : (plc r l).drop (wn r l.length) = [] := by
  unfold plc
  rw [if_neg h, List.drop_eq_nil_of_le (by rw [pI_len]; exact Nat.le_refl _)]
end Go.Proofs.Ytbnllobofndckaa
