/-
  A table that came and went: mathematics.
-/
import Derived.Test.YtkmpcheamdadcaaYd
import Derived.Test.YtkmpcheamdadcaaVp
namespace Go.Proofs.Ytkmpcheamdadcaa
open Go.RowKit
set_option linter.unusedVariables false
set_option linter.unusedSimpArgs false
theorem updL_updL (L : Nat → List Fi) (n : Nat) (l m : List Fi) : updL (updL L n l) n m = updL L n m := by
  funext i; unfold updL; split <;> rfl
theorem updL_id (L : Nat → List Fi) (n : Nat) : updL L n (L n) = L := by
  funext i; unfold updL; split
  · next h => rw [h]
  · rfl
theorem tdel_tins (l : List Fi) (i : Nat) (t : Fi) (h : i ≤ l.length) : tdel (tins l i t) i = l := by
  unfold tdel tins
  have h1 : (l.take i).length = i := by rw [List.length_take]; omega
  rw [List.take_left' h1, List.drop_append, h1, List.drop_of_length_le (by rw [h1]; omega), show i + 1 - i = 1 by omega]
  simp
/-- Numbers ahead in a level are others. -/
theorem runF_ahead {how : Int} {lv : Nat} {f : Fi} {Y : List Fi} : ∀ {X : List Fi} {p : Option Fi} {s : List Int}, (runF how lv p s (X ++ f :: Y)).1 = 0 → f.num ∉ s ∧ ∀ x ∈ X, x.num ≠ f.num
  | [], p, s, h => by
    simp only [List.nil_append, runF] at h
    split at h
    · next hb => exact absurd h hb
    · next hb =>
      have hb' : badF how lv p s f = 0 := by simpa using hb
      refine ⟨fun hm => ?_, fun x hx => by simp at hx⟩
      unfold badF at hb'
      split at hb'
      · next h1 => exact h1 hb'
      · first
          | (rw [if_pos hm] at hb'; cases hb')
          | omega
  | x :: X, p, s, h => by
    simp only [List.cons_append, runF] at h
    split at h
    · next hb => exact absurd h hb
    · obtain ⟨h1, h2⟩ := runF_ahead h
      refine ⟨fun hm => h1 (List.mem_append_left _ hm), fun y hy => ?_⟩
      rcases List.mem_cons.1 hy with rfl | hy
      · intro e; exact h1 (by rw [← e]; simp)
      · exact h2 y hy
theorem runL_each {how : Int} {L : Nat → List Fi} : ∀ {m lv : Nat} {s : List Int}, runL how L m lv s = 0 → ∀ j, j < m → ∃ s', (runF how (lv + j) none s' (L (lv + j))).1 = 0
  | 0, _, _, _, j, hj => by omega
  | m + 1, lv, s, h, j, hj => by
    unfold runL at h
    split at h
    · next hb => exact absurd h hb
    · next hb =>
      cases j with
      | zero => exact ⟨s, by simpa using hb⟩
      | succ j =>
        obtain ⟨s', h'⟩ := runL_each h j (by omega)
        exact ⟨s', by rw [show lv + (j + 1) = lv + 1 + j by omega]; exact h'⟩
theorem chk_each {how : Int} {L : Nat → List Fi} (h : chkE how L = 0) (n : Nat) (hn : n < 7) : ∃ s, (runF how n none s (L n)).1 = 0 := by
  unfold chkE at h
  split at h
  · split at h
    · cases h
    · obtain ⟨s, hs⟩ := runL_each h n hn
      rw [Nat.zero_add] at hs
      exact ⟨s, hs⟩
  · cases h
theorem findIdx_mid {p : Fi → Bool} {f : Fi} {Y : List Fi} (hf : p f = true) : ∀ {X : List Fi}, (∀ x ∈ X, p x = false) → (X ++ f :: Y).findIdx p = X.length
  | [], _ => by simp [List.findIdx_cons, hf]
  | x :: X, h => by
    rw [List.cons_append, List.findIdx_cons, h x (by simp), findIdx_mid hf (fun y hy => h y (by simp [hy]))]
    rfl
theorem findIdx_tins {how : Int} {n : Nat} {s : List Int} {l : List Fi} {i : Nat} {f : Fi} (hi : i ≤ l.length) (h : (runF how n none s (tins l i f)).1 = 0) : (tins l i f).findIdx (numB f.num) = i := by
  unfold tins at h ⊢
  have h2 := (runF_ahead h).2
  rw [findIdx_mid (by simp [numB]) (fun x hx => by simpa [numB] using h2 x hx), List.length_take]
  omega
/-- The edit that adds a table, and the one that takes it away. -/
def addEd (a : Ad) : Ed := ⟨0, false, false, ⟨#[]⟩, 0, false, false, false, 0, 0, 0, [], [a]⟩
def gonEd (a : Ad) : Ed := ⟨0, false, false, ⟨#[]⟩, 0, false, false, false, 0, 0, 0, [⟨a.lv, a.f.num⟩], []⟩
/-- What came and went is as if it had not been. -/
theorem back_same {how : Int} {L : Nat → List Fi} {a : Ad} (h : (appR how L (addEd a)).1 = 0) : appR how (appR how L (addEd a)).2 (gonEd a) = (0, L) := by
  by_cases hc1 : chkE how L = 0
  · by_cases hc2 : canE (addEd a) = 0
    · obtain ⟨hz1, hz2, hz3⟩ := canE_zero hc2
      obtain ⟨n, hn, hn7⟩ := isLv_nat (hz2 a (by simp [addEd]))
      rw [appR_rest hc1 hc2] at h ⊢
      have hg : gonL L (addEd a).gone = some L := rfl
      rw [hg] at h ⊢
      obtain ⟨lv, f⟩ := a
      dsimp only at hn
      subst hn
      have ha : addL how L (addEd ⟨n, f⟩).added = updL L n (tins (L n) ((L n).findIdx (behB how n f)) f) := addL_cons how L n f []
      unfold restR at h ⊢
      dsimp only at h ⊢
      rw [ha] at h ⊢
      have hI : (L n).findIdx (behB how n f) ≤ (L n).length := List.findIdx_le_length
      generalize (L n).findIdx (behB how n f) = I at *
      by_cases hc3 : chkE how (updL L n (tins (L n) I f)) = 0
      · rw [if_neg (by simp [hc3])]
        have hcg : canE (gonEd ⟨n, f⟩) = 0 := by
          unfold canE gonEd
          simp [gonE, addE, isLvB]
          omega
        rw [appR_rest hc3 hcg]
        have hgo : gonL (updL L n (tins (L n) I f)) (gonEd ⟨n, f⟩).gone = some L := by
          show gonL _ [⟨(n : Int), f.num⟩] = _
          rw [gonL_cons, updL_same]
          obtain ⟨s, hs⟩ := chk_each hc3 n hn7
          rw [updL_same] at hs
          rw [findIdx_tins hI hs, if_pos (by rw [tins_len _ _ _ hI]; omega), tdel_tins _ _ _ hI, updL_updL, updL_id]
          rfl
        rw [hgo]
        show (if chkE how L ≠ 0 then (chkE how L, fun _ => []) else (0, L)) = _
        rw [if_neg (by simp [hc1])]
      · rw [if_pos hc3] at h; exact absurd h hc3
    · unfold appR at h
      rw [if_neg (by simp [hc1]), if_pos hc2] at h
      exact absurd h hc2
  · unfold appR at h
    rw [if_pos hc1] at h
    exact absurd h hc1
end Go.Proofs.Ytkmpcheamdadcaa
