/-
  What Build says of its entries; the example of the document.
-/
import Derived.Test.YtbnllobofndckaaOp
namespace Go.Proofs.Ytbnllobofndckaa
open Go.RowKit
set_option linter.unusedVariables false
set_option linter.unusedSimpArgs false
theorem srt_of {how r : Int} {l : List Ent} (h : bldE how r l = 0) (hs : ∀ e ∈ l, 0 ≤ e.s) : Srt how l ∧ 1 ≤ r ∧ r ≤ 1024 ∧ (wr8 r.toNat l).length ≤ 4194304 ∧ bldB how r l = wr8 r.toNat l := by
  have hB : bldB how r l = wr8 r.toNat l := by unfold bldB; rw [if_pos h]
  unfold bldE at h
  split at h
  · cases h
  · next h1 =>
    split at h
    · next h2 => exact absurd h h2
    · next h2 =>
      split at h
      · next h3 => exact absurd h h3
      · next h3 =>
        split at h
        · cases h
        · next h4 =>
          have h2' : cntE r l.length = 0 := by simpa using h2
          have h3' : bldF how l = 0 := by simpa using h3
          have hc : 1 ≤ r ∧ r ≤ 1024 ∧ l.length ≤ 65536 := by
            unfold cntE at h2'
            split at h2'
            · omega
            · split at h2' <;> omega
          refine ⟨⟨by simpa using h1, fit_bld h3' hs, fun k p e hp he => ?_, hc.2.2⟩, hc.1, hc.2.1, by omega, hB⟩
          have hk := (List.getElem?_eq_some_iff.1 he).1
          have hz := frm_zero h3' (k + 1) (Nat.zero_le _) (by omega)
          unfold erB at hz
          rw [he] at hz
          simp only at hz
          split at hz
          · split at hz
            · cases hz
            · next ho =>
              have e1 : ordB how l (k + 1) = (match l[k]?, l[k + 1]? with | some p, some e => decide (0 ≤ ordE how p e) | _, _ => false) := rfl
              rw [e1, hp, he] at ho
              simp only [decide_eq_true_eq] at ho
              omega
          · next hn => exact absurd hz hn
theorem app_bd {l m : List Int} (h : ∀ n ∈ l, 0 ≤ n ∧ n < 256) (k : ∀ n ∈ m, 0 ≤ n ∧ n < 256) : ∀ n ∈ l ++ m, 0 ≤ n ∧ n < 256 := fun n hn => by
  rcases List.mem_append.1 hn with h1 | h1
  · exact h n h1
  · exact k n h1
theorem vL_bd : ∀ (f : Nat) (x : Int), 0 ≤ x → x < 256 * 128 ^ f → ∀ n ∈ vL f x, 0 ≤ n ∧ n < 256
  | 0, x, hx, hl, n, hn => by simp [vL] at hn; omega
  | f + 1, x, hx, hl, n, hn => by
    unfold vL at hn
    split at hn
    · simp at hn; omega
    · rcases List.mem_cons.1 hn with rfl | hn
      · omega
      · refine vL_bd f _ (by omega) ?_ n hn
        rw [Int.pow_succ] at hl
        generalize (128 : Int) ^ f = q at hl ⊢
        omega
theorem vL10 (x : Nat) (h : x ≤ 1099511627776) : ∀ n ∈ vL 10 (x : Int), 0 ≤ n ∧ n < 256 := vL_bd 10 x (by omega) (by omega)
theorem kA_len {l : List Ent} (hf : Fit l) (i : Nat) : (kA l i).length ≤ 1032 := by
  unfold kA
  split
  · next e he => exact (kb_len (hf e (List.mem_of_getElem? he)).1).1
  · simp
theorem vA_len {l : List Ent} (hf : Fit l) (i : Nat) : (vA l i).size ≤ 16384 := by
  unfold vA
  split
  · next e he => exact (hf e (List.mem_of_getElem? he)).2.2
  · show (0 : Nat) ≤ _; omega
theorem wA_bd {r : Nat} {l : List Ent} (hf : Fit l) (i : Nat) : ∀ n ∈ wA r l i, 0 ≤ n ∧ n < 256 := by
  have h1 := kA_len hf i
  have h2 := vA_len hf i
  have h3 := cA_le r l i
  unfold wA pcB
  exact app_bd (app_bd (app_bd (app_bd (vL10 _ (by omega)) (vL10 _ (by rw [List.length_drop]; omega))) (vL10 _ (by omega))) (fun n hn => kA_bd l i n (List.mem_of_mem_drop hn))) (sb_bd _)
theorem bt_bd {r : Nat} {l : List Ent} (hf : Fit l) : ∀ i, ∀ n ∈ bt r l i, 0 ≤ n ∧ n < 256
  | 0 => by simp [bt]
  | i + 1 => app_bd (bt_bd hf i) (wA_bd hf i)
theorem wr8_bd {r : Nat} {l : List Ent} (hf : Fit l) : ∀ n ∈ wr8 r l, 0 ≤ n ∧ n < 256 := by
  rw [wr8_plc]
  refine app_bd (app_bd (bt_bd hf _) (fun n hn => ?_)) (byts_bd _ _)
  obtain ⟨x, _, hx⟩ := List.mem_flatMap.1 hn
  exact byts_bd _ _ n hx
/-- The document's first example. -/
def ex8 : List Ent := [⟨⟨#[97]⟩, 9, 1, ⟨#[120]⟩⟩, ⟨⟨#[97, 98]⟩, 9, 1, ⟨#[121]⟩⟩]
def wt8 : ByteArray := ⟨#[0, 9, 1, 97, 1, 9, 0, 0, 0, 0, 0, 0, 120, 1, 9, 1, 98, 1, 9, 0, 0, 0, 0, 0, 0, 121, 0, 0, 0, 0, 1, 0, 0, 0]⟩
set_option maxRecDepth 100000 in
theorem ex_err : bldE 0 16 ex8 = 0 := by kernel_rfl
set_option maxRecDepth 100000 in
theorem ex_sb : sb wt8 = wr8 16 ex8 := by kernel_rfl
end Go.Proofs.Ytbnllobofndckaa
