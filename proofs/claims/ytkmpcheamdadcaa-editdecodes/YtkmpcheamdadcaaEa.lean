/-
  The bytes of an edit are bytes; what is written and read again is the same.
-/
import Derived.Test.YtkmpcheamdadcaaDp
import Derived.Test.YtkmpcheamdadcaaZo
namespace Go.Proofs.Ytkmpcheamdadcaa
open Go.RowKit
set_option linter.unusedVariables false
set_option linter.unusedSimpArgs false
theorem vL_byt : ∀ (f : Nat) (m : Int), 0 ≤ m → m < 256 * 128 ^ f → Byt (vL f m)
  | 0, m, h, h1 => by
    intro c hc
    simp [vL] at hc
    subst hc
    simp at h1
    omega
  | f + 1, m, h, h1 => by
    intro c hc
    by_cases hm : m < 128
    · rw [vL_last _ m hm] at hc
      simp at hc
      subst hc
      omega
    · rw [vL_more f m (by omega)] at hc
      rcases List.mem_cons.1 hc with rfl | hc
      · omega
      · refine vL_byt f (m / 128) (by omega) ?_ c hc
        rw [Int.pow_succ, ← Int.mul_assoc] at h1
        generalize (256 : Int) * 128 ^ f = x at *
        omega
theorem v10_byt (m : Int) (h : 0 ≤ m) (h1 : m < 18446744073709551616) : Byt (vL 10 m) := vL_byt 10 m h (by
  have : (256 : Int) * 128 ^ 10 = 302231454903657293676544 := by decide
  rw [this]; omega)
theorem Byt.app {l m : List Int} (h : Byt l) (k : Byt m) : Byt (l ++ m) := fun c hc => by
  rcases List.mem_append.1 hc with h1 | h1
  · exact h c h1
  · exact k c h1
theorem Byt.nil : Byt [] := fun c hc => by cases hc
theorem Byt.one {n : Int} (h : 0 ≤ n ∧ n < 256) : Byt [n] := fun c hc => by simp at hc; subst hc; exact h
theorem nbs_byt : ∀ {l : List Int}, (∀ n ∈ l, 0 ≤ n ∧ n < 18446744073709551616) → Byt (nbs l)
  | [], _ => Byt.nil
  | n :: l, h => (v10_byt n (h n (List.mem_cons_self ..)).1 (h n (List.mem_cons_self ..)).2).app (nbs_byt (fun x hx => h x (List.mem_cons_of_mem _ hx)))
theorem txs_byt : ∀ {l : List ByteArray}, (∀ s ∈ l, s.size ≤ 100000) → Byt (txs l)
  | [], _ => Byt.nil
  | s :: l, h => ((v10_byt _ (by omega) (by have := h s (List.mem_cons_self ..); omega)).app (sb_bd s)).app (txs_byt (fun x hx => h x (List.mem_cons_of_mem _ hx)))
theorem kt_byt {k : Ky} (h : k.u.size ≤ 100000) : Byt (kt k) := (v10_byt _ (by omega) (by have := kb_len k; omega)).app (kb_bd k)
theorem gnBs_byt : ∀ {l : List Gn}, (∀ g ∈ l, 0 ≤ g.lv ∧ g.lv < 7) → (∀ g ∈ l, 0 ≤ g.num ∧ g.num < 18446744073709551616) → Byt (gnBs l)
  | [], _, _ => Byt.nil
  | g :: l, h, k => by
    refine Byt.app (Byt.app (Byt.one (by decide)) (nbs_byt ?_)) (gnBs_byt (fun x hx => h x (List.mem_cons_of_mem _ hx)) (fun x hx => k x (List.mem_cons_of_mem _ hx)))
    intro n hn
    simp at hn
    rcases hn with rfl | rfl
    · have := h g (List.mem_cons_self ..); omega
    · exact k g (List.mem_cons_self ..)
theorem adBs_byt : ∀ {l : List Ad}, (∀ a ∈ l, AOk a) → (∀ a ∈ l, FOk a.f) → Byt (adBs l)
  | [], _, _ => Byt.nil
  | a :: l, h, k => by
    refine Byt.app (Byt.app (Byt.app (Byt.one (by decide)) (nbs_byt ?_)) ((kt_byt (Nat.le_trans (h a (List.mem_cons_self ..)).sm.size (by decide))).app (kt_byt (Nat.le_trans (h a (List.mem_cons_self ..)).la.size (by decide))))) (adBs_byt (fun x hx => h x (List.mem_cons_of_mem _ hx)) (fun x hx => k x (List.mem_cons_of_mem _ hx)))
    intro n hn
    have hf := k a (List.mem_cons_self ..)
    simp at hn
    rcases hn with rfl | rfl | rfl | rfl | rfl
    · have := (h a (List.mem_cons_self ..)).lv; omega
    · exact hf.num
    · exact hf.size
    · exact hf.ents
    · exact hf.rngs
theorem one_byt {n : Int} (h : 0 ≤ n ∧ n < 18446744073709551616) : Byt (nbs [n]) := nbs_byt (fun x hx => by simp at hx; subst hx; exact h)
theorem if_byt {c : Bool} {l : List Int} (h : c = true → Byt l) : Byt (if c = true then l else []) := by
  cases c
  · exact Byt.nil
  · exact h rfl
theorem encB_byt {e : Ed} (hc : CanEd e) (ho : EOk e) : Byt (encB e) := by
  unfold encB eB6 eB5 eB4 eB3 eB2 eB1
  refine Byt.app (Byt.app (Byt.app (Byt.app (Byt.app (Byt.app (Byt.app (Byt.app (Byt.one (by decide)) (one_byt (by have := ho.fam; omega))) ?_) ?_) ?_) ?_) ?_) (gnBs_byt hc.g ho.gn)) (adBs_byt hc.a ho.ad)
  · exact if_byt fun hm => Byt.app (Byt.app (Byt.one (by decide)) (one_byt (by rcases (hc.mak hm).2.2 with h | h <;> rw [h] <;> decide))) (txs_byt (fun s hs => by simp at hs; subst hs; have := (hc.mak hm).2.1; omega))
  · exact if_byt fun _ => Byt.one (by decide)
  · exact if_byt fun _ => Byt.app (Byt.one (by decide)) (one_byt ho.log)
  · exact if_byt fun _ => Byt.app (Byt.one (by decide)) (one_byt ho.next)
  · exact if_byt fun _ => Byt.app (Byt.one (by decide)) (one_byt ho.seq)
theorem sameB_plain {e : Ed} : sameB (plainE e) e = true := by
  rw [sameB_iff]
  obtain ⟨fam, ma, dr, name, how, hl, hn, hs, log, next, seq, gone, added⟩ := e
  unfold plainE
  cases ma <;> cases hl <;> cases hn <;> cases hs <;> rfl
end Go.Proofs.Ytkmpcheamdadcaa
