import Derived.Test.YtocanjefonlnaaaDoorHf
import Derived.Test.YtocanjefonlnaaaDoorHd
namespace Go.Proofs.YtocanjefonlnaaaDoor
open Go.RowKit
set_option linter.unusedVariables false
set_option linter.unusedSimpArgs false
/-- The table behind k of the records, numbered by f. -/
def runG (how : Int) (l : List Rec) (f : Nat → Int) : Nat → Ms
  | 0 => st0
  | k + 1 => match l[k]? with
    | some r => (addM how (runG how l f k) (f k) r.kind r.key r.val).2
    | none => runG how l f k
theorem runG_step (how : Int) (l : List Rec) (f : Nat → Int) (k : Nat) (r : Rec) (h : l[k]? = some r) : runG how l f (k + 1) = (addM how (runG how l f k) (f k) r.kind r.key r.val).2 := by rw [runG, h]
theorem runG_inv (how : Int) (l : List Rec) (f : Nat → Int) (hf : ∀ k, 0 ≤ f k) : ∀ k, Inv how (runG how l f k)
  | 0 => inv_nil how
  | k + 1 => by
    have ih := runG_inv how l f hf k
    unfold runG
    split
    · exact inv_add ih (hf k) _ _ _
    · exact ih
/-- The numbers of entries are those that were given. -/
theorem runG_seq (how : Int) (l : List Rec) (f : Nat → Int) (m : Int) (hf : ∀ k, 0 ≤ f k ∧ f k ≤ m) : ∀ k, ∀ e ∈ (runG how l f k).E, 0 ≤ e.s ∧ e.s ≤ m
  | 0 => fun e he => by simp [runG, st0] at he
  | k + 1 => by
    have ih := runG_seq how l f m hf k
    unfold runG
    split
    · next r _ =>
      intro e he
      rcases addM_way how (runG how l f k) (f k) r.kind r.key r.val with ⟨e2, _⟩ | ⟨_, _, _, _, e2⟩ | ⟨_, _, _, _, e2⟩
      · rw [e2] at he; exact ih e he
      · rw [e2] at he; exact ih e he
      · rw [e2] at he
        rcases eins_mem he with rfl | he
        · exact hf k
        · exact ih e he
    · exact ih
/-- From the least key on: all. -/
theorem cut_least {L : List Nd} {top : Int} (h : ∀ n ∈ L, 0 ≤ n.e.s ∧ n.e.s ≤ top) (hk : ∀ n ∈ L, 0 ≤ n.e.k ∧ n.e.k ≤ 1) : Cut 0 L ⟨#[]⟩ top 2 0 := by
  refine ⟨Nat.zero_le _, fun i n hi => by omega, fun i n _ hn hlt => ?_⟩
  have hm := List.mem_of_getElem? hn
  have h1 := h n hm
  have h2 := hk n hm
  unfold okey at hlt
  by_cases hu : n.e.u = ⟨#[]⟩
  · rw [hu, ordK_same] at hlt; omega
  · unfold ordK at hlt
    have hz : ¬ cmpH 0 n.e.u ⟨#[]⟩ = 0 := fun z => hu ((cmpH_zero _ _ _).1 z)
    rw [if_neg hz] at hlt
    have : cmpH 0 n.e.u ⟨#[]⟩ = cmpS n.e.u ⟨#[]⟩ := by unfold cmpH; rw [if_neg (by omega)]
    rw [this] at hlt
    unfold cmpS at hlt
    cases e : n.e.u.data.toList with
    | nil => rw [e] at hlt; simp [Go.Lib.compareBytes] at hlt
    | cons x r => rw [e] at hlt; simp [Go.Lib.compareBytes] at hlt
/-- Whether an entry's user is not above a key. -/
def upU (U : ByteArray) (e : Ent) : Bool := decide (cmpS e.u U ≤ 0)
theorem okey_up (U : ByteArray) (e : Ent) (h : 0 ≤ e.s) (hk : 0 ≤ e.k) : okey 0 e U 0 0 ≤ 0 ↔ cmpS e.u U ≤ 0 := by
  have hc : cmpH 0 e.u U = cmpS e.u U := by unfold cmpH; rw [if_neg (by omega)]
  unfold okey ordK
  rw [hc]
  by_cases hz : cmpS e.u U = 0
  · rw [if_pos hz]
    have a := cmpI_cases 0 e.s
    have b := cmpI_one 0 e.s
    have c := cmpI_one 0 e.k
    have d := cmpI_cases 0 e.k
    split <;> omega
  · rw [if_neg hz]
/-- The entries that are not behind (U, 0, 0): those whose user is not above U. -/
theorem take_up {L : List Nd} (hs : SortE 0 (L.map (·.e))) (h : ∀ n ∈ L, 0 ≤ n.e.s) (hk : ∀ n ∈ L, 0 ≤ n.e.k) (U : ByteArray) (p : Nat) (hc : Cut 0 L U 0 0 p) : (L.take (bhd L p U 0 0)).map (·.e) = (L.map (·.e)).filter (upU U) := by
  have hle := bhd_le hc
  have hlo : ∀ (i : Nat) (n : Nd), i < bhd L p U 0 0 → L[i]? = some n → cmpS n.e.u U ≤ 0 := by
    intro i n hi hn
    have hm := List.mem_of_getElem? hn
    rw [← okey_up U n.e (h n hm) (hk n hm)]
    rcases Nat.lt_or_ge i p with h1 | h1
    · exact Int.le_of_lt (hc.lo i n h1 hn)
    · unfold bhd at hi
      split at hi
      · next hK =>
        have : i = p := by omega
        subst this
        unfold isK at hK
        rw [hn] at hK
        simp at hK
        unfold okey
        exact Int.le_of_eq ((ordK_zero _ _ _ _ _ _ _).2 hK)
      · omega
  have hhi : ∀ (i : Nat) (n : Nd), bhd L p U 0 0 ≤ i → L[i]? = some n → ¬ cmpS n.e.u U ≤ 0 := by
    intro i n hi hn hcm
    have hm := List.mem_of_getElem? hn
    rw [← okey_up U n.e (h n hm) (hk n hm)] at hcm
    have hpi : p ≤ i := by unfold bhd at hi; split at hi <;> omega
    have h1 := hc.hi i n hpi hn
    have hz : okey 0 n.e U 0 0 = 0 := by omega
    have hz' := hz
    unfold okey at hz
    obtain ⟨z1, z2, z3⟩ := (ordK_zero _ _ _ _ _ _ _).1 hz
    rcases Nat.lt_or_eq_of_le hpi with h2 | h2
    · obtain ⟨n0, hn0⟩ : ∃ n0, L[p]? = some n0 := ⟨L[p]'(by have := (List.getElem?_eq_some_iff.1 hn).1; omega), List.getElem?_eq_getElem _⟩
      have h3 := hs p i n0.e n.e h2 (by rw [List.getElem?_map, hn0]; rfl) (by rw [List.getElem?_map, hn]; rfl)
      have h4 := hc.hi p n0 (Nat.le_refl _) hn0
      unfold okey at h4
      have h5 : ordK 0 n0.e.u n0.e.s n0.e.k n.e.u n.e.s n.e.k < 0 := h3
      rw [z1, z2, z3] at h5
      exact h4 h5
    · subst h2
      have : isK L p U 0 0 = true := by unfold isK; rw [hn]; simp [z1, z2, z3]
      unfold bhd at hi
      rw [if_pos this] at hi
      omega
  generalize bhd L p U 0 0 = q at *
  have e : L.map (·.e) = (L.take q).map (·.e) ++ (L.drop q).map (·.e) := by rw [← List.map_append, List.take_append_drop]
  rw [e, List.filter_append]
  have e1 : ((L.take q).map (·.e)).filter (upU U) = (L.take q).map (·.e) := by
    rw [List.filter_eq_self]
    intro x hx
    obtain ⟨n, hn, rfl⟩ := List.mem_map.1 hx
    obtain ⟨i, hi⟩ := List.mem_iff_getElem?.1 hn
    have hiq : i < q := by have := (List.getElem?_eq_some_iff.1 hi).1; simp at this; omega
    rw [List.getElem?_take_of_lt hiq] at hi
    unfold upU
    exact decide_eq_true (hlo i n hiq hi)
  have e2 : ((L.drop q).map (·.e)).filter (upU U) = [] := by
    rw [List.filter_eq_nil_iff]
    intro x hx
    obtain ⟨n, hn, rfl⟩ := List.mem_map.1 hx
    obtain ⟨i, hi⟩ := List.mem_iff_getElem?.1 hn
    rw [List.getElem?_drop] at hi
    unfold upU
    simpa using hhi (q + i) n (by omega) hi
  rw [e1, e2, List.append_nil]
end Go.Proofs.YtocanjefonlnaaaDoor
