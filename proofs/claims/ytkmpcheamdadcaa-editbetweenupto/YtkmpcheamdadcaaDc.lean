/-
  The bytes of an edit.
  Numbers of varying length: what is written is read, what is read was written so.
  The reader without memory: what an edit's bytes tell.
  The reader in memory: a box with what is left and the edit's cells; must f77, take f99, varint f78.
-/
import Derived.Test.YtkmpcheamdadcaaZc
import Derived.Test.YtkmpcheamdadcaaVp
import Derived.Test.YtkmpcheamdadcaaRv
namespace Go.Proofs.Ytkmpcheamdadcaa
open Go.RowKit
set_option linter.unusedVariables false
set_option linter.unusedSimpArgs false
/-- Numbers in their ranges. -/
structure EOk (e : Ed) : Prop where
  fam : 0 ≤ e.fam ∧ e.fam < 4294967296
  how : -9223372036854775808 ≤ e.how ∧ e.how ≤ 9223372036854775807
  log : 0 ≤ e.log ∧ e.log < 18446744073709551616
  next : 0 ≤ e.next ∧ e.next < 18446744073709551616
  seq : 0 ≤ e.seq ∧ e.seq < 18446744073709551616
  gn : ∀ g ∈ e.gone, 0 ≤ g.num ∧ g.num < 18446744073709551616
  gl : ∀ g ∈ e.gone, -9223372036854775808 ≤ g.lv ∧ g.lv ≤ 9223372036854775807
  ad : ∀ a ∈ e.added, FOk a.f
  al : ∀ a ∈ e.added, -9223372036854775808 ≤ a.lv ∧ a.lv ≤ 9223372036854775807
theorem isLvB_iff {n : Int} : isLvB n = true ↔ 0 ≤ n ∧ n < 7 := by simp [isLvB]
theorem gonE_iff {l : List Gn} : gonE l = 0 ↔ ∀ g ∈ l, 0 ≤ g.lv ∧ g.lv < 7 := by
  induction l with
  | nil => simp [gonE]
  | cons g l ih =>
    unfold gonE
    by_cases h : isLvB g.lv = true
    · rw [if_pos h, ih]
      simp [isLvB_iff.1 h]
    · rw [if_neg h]
      simp
      intro h1 h2
      exact absurd (isLvB_iff.2 ⟨h1, h2⟩) h
structure AOk (a : Ad) : Prop where
  lv : 0 ≤ a.lv ∧ a.lv < 7
  sm : kOk a.f.sm
  la : kOk a.f.la
theorem addE_iff {l : List Ad} : addE l = 0 ↔ ∀ a ∈ l, AOk a := by
  induction l with
  | nil => simp [addE]
  | cons a l ih =>
    unfold addE
    by_cases h : isLvB a.lv = true
    · rw [if_pos h]
      unfold fchk
      by_cases h1 : checkV a.f.sm.u a.f.sm.s a.f.sm.k = 0
      · by_cases h2 : checkV a.f.la.u a.f.la.s a.f.la.k = 0
        · simp only [h1, h2, ne_eq, not_true_eq_false, if_false, ih, List.mem_cons, forall_eq_or_imp]
          exact ⟨fun h' => ⟨⟨isLvB_iff.1 h, h1, h2⟩, h'⟩, fun h' => h'.2⟩
        · simp only [h1, h2, ne_eq, not_true_eq_false, if_false, not_false_eq_true, if_true, List.mem_cons, forall_eq_or_imp, false_iff]
          exact fun h' => h2 h'.1.la
      · simp only [h1, ne_eq, not_false_eq_true, if_true, List.mem_cons, forall_eq_or_imp, false_iff]
        exact fun h' => h1 h'.1.sm
    · rw [if_neg h]
      simp only [List.mem_cons, forall_eq_or_imp]
      exact ⟨fun h' => by omega, fun h' => absurd (isLvB_iff.2 h'.1.lv) h⟩
/-- What an edit that can be is. -/
structure CanEd (e : Ed) : Prop where
  md : ¬ (e.ma = true ∧ e.dr = true)
  mak : e.ma = true → 0 < e.name.size ∧ e.name.size ≤ 64 ∧ (e.how = 0 ∨ e.how = 1)
  n : e.gone.length + e.added.length ≤ 1024
  g : ∀ g ∈ e.gone, 0 ≤ g.lv ∧ g.lv < 7
  a : ∀ a ∈ e.added, AOk a
theorem makE_iff {n : ByteArray} {how : Int} : makE n how = 0 ↔ 0 < n.size ∧ n.size ≤ 64 ∧ (how = 0 ∨ how = 1) := by
  unfold makE isHowB
  split
  · simp; omega
  · split
    · simp; omega
    · split
      · rename_i h
        simp at h
        simp [h]; omega
      · rename_i h
        simp at h
        simp; omega
theorem canE_iff {e : Ed} : canE e = 0 ↔ CanEd e := by
  unfold canE
  by_cases h1 : (e.ma && e.dr) = true
  · rw [if_pos h1]
    simp at h1
    simp
    exact fun h => h.md h1
  · rw [if_neg h1]
    have h1' : ¬ (e.ma = true ∧ e.dr = true) := by simpa using h1
    by_cases h2 : e.ma = true ∧ makE e.name e.how ≠ 0
    · rw [if_pos h2]
      exact ⟨fun h => absurd h h2.2, fun h => makE_iff.2 (h.mak h2.1)⟩
    · rw [if_neg h2]
      have h2' : e.ma = true → 0 < e.name.size ∧ e.name.size ≤ 64 ∧ (e.how = 0 ∨ e.how = 1) := fun hm => by
        have : makE e.name e.how = 0 := by
          apply Classical.byContradiction
          intro h
          exact h2 ⟨hm, h⟩
        exact makE_iff.1 this
      by_cases h3 : 1024 < e.gone.length + e.added.length
      · rw [if_pos h3]
        simp
        exact fun h => by have := h.n; omega
      · rw [if_neg h3]
        by_cases h4 : gonE e.gone = 0
        · simp only [h4, ne_eq, not_true_eq_false, if_false, addE_iff]
          exact ⟨fun h => ⟨h1', h2', by omega, gonE_iff.1 h4, h⟩, fun h => h.a⟩
        · simp only [h4, ne_eq, not_false_eq_true, if_true, false_iff]
          exact fun h => h4 (gonE_iff.2 h.g)
/-- The bytes of a table that is gone. -/
def gnB (g : Gn) : List Int := [7] ++ nbs [g.lv, g.num]
def eB1 (e : Ed) : List Int := [1] ++ nbs [e.fam]
def eB2 (e : Ed) : List Int := eB1 e ++ (if e.ma = true then [2] ++ nbs [e.how] ++ txs [e.name] else [])
def eB3 (e : Ed) : List Int := eB2 e ++ (if e.dr = true then [3] else [])
def eB4 (e : Ed) : List Int := eB3 e ++ (if e.hl = true then [4] ++ nbs [e.log] else [])
def eB5 (e : Ed) : List Int := eB4 e ++ (if e.hn = true then [5] ++ nbs [e.next] else [])
def eB6 (e : Ed) : List Int := eB5 e ++ (if e.hs = true then [6] ++ nbs [e.seq] else [])
def gnBs : List Gn → List Int
  | [] => []
  | g :: l => gnB g ++ gnBs l
def adBs : List Ad → List Int
  | [] => []
  | a :: l => adB a ++ adBs l
/-- The bytes of an edit. -/
def encB (e : Ed) : List Int := eB6 e ++ gnBs e.gone ++ adBs e.added
theorem gnBs_snoc (l : List Gn) (g : Gn) : gnBs (l ++ [g]) = gnBs l ++ gnB g := by
  induction l with
  | nil => simp [gnBs]
  | cons x l ih => simp [gnBs, ih]
theorem adBs_snoc (l : List Ad) (a : Ad) : adBs (l ++ [a]) = adBs l ++ adB a := by
  induction l with
  | nil => simp [adBs]
  | cons x l ih => simp [adBs, ih]
theorem gnB_len (g : Gn) : (gnB g).length ≤ 23 := by
  have := nbs_len [g.lv, g.num]
  simp only [gnB, List.length_append, List.length_cons, List.length_nil] at *
  omega
theorem gnBs_len (l : List Gn) : (gnBs l).length ≤ l.length * 23 := by
  induction l with
  | nil => simp [gnBs]
  | cons x l ih => have := gnB_len x; simp [gnBs]; omega
theorem AOk.len {a : Ad} (h : AOk a) : (adB a).length ≤ 3000 := adB_len h.sm.size h.la.size
theorem adBs_len (l : List Ad) (h : ∀ a ∈ l, AOk a) : (adBs l).length ≤ l.length * 3000 := by
  induction l with
  | nil => simp [adBs]
  | cons x l ih =>
    have h1 := (h x (List.mem_cons_self ..)).len
    have h2 := ih (fun a ha => h a (List.mem_cons_of_mem _ ha))
    simp [adBs]; omega
theorem one_len (n : Int) : (nbs [n]).length ≤ 11 := by have := nbs_len [n]; simpa using this
theorem eB1_len (e : Ed) : (eB1 e).length ≤ 12 := by
  have := one_len e.fam
  simp only [eB1, List.length_append, List.length_cons, List.length_nil]; omega
theorem eB2_len {e : Ed} (h : CanEd e) : (eB2 e).length ≤ 120 := by
  have h1 := eB1_len e
  have h2 := one_len e.how
  unfold eB2
  by_cases hm : e.ma = true
  · have h3 := (h.mak hm).2.1
    have h4 := txs_len (m := 64) [e.name] (fun s hs => by simp at hs; subst hs; exact h3)
    simp only [hm, if_true, List.length_append, List.length_cons, List.length_nil] at *
    omega
  · simp only [hm, List.length_append] at *
    simp
    omega
theorem eB3_len {e : Ed} (h : CanEd e) : (eB3 e).length ≤ 121 := by
  have h1 := eB2_len h
  unfold eB3
  by_cases hm : e.dr = true
  · simp only [hm, if_true, List.length_append, List.length_cons, List.length_nil] at *
    omega
  · simp [hm]; omega
theorem eB4_len {e : Ed} (h : CanEd e) : (eB4 e).length ≤ 140 := by
  have h1 := eB3_len h
  have h2 := one_len e.log
  unfold eB4
  by_cases hm : e.hl = true
  · simp only [hm, if_true, List.length_append, List.length_cons, List.length_nil] at *
    omega
  · simp [hm]; omega
theorem eB5_len {e : Ed} (h : CanEd e) : (eB5 e).length ≤ 160 := by
  have h1 := eB4_len h
  have h2 := one_len e.next
  unfold eB5
  by_cases hm : e.hn = true
  · simp only [hm, if_true, List.length_append, List.length_cons, List.length_nil] at *
    omega
  · simp [hm]; omega
theorem eB6_len {e : Ed} (h : CanEd e) : (eB6 e).length ≤ 180 := by
  have h1 := eB5_len h
  have h2 := one_len e.seq
  unfold eB6
  by_cases hm : e.hs = true
  · simp only [hm, if_true, List.length_append, List.length_cons, List.length_nil] at *
    omega
  · simp [hm]; omega
theorem encB_len {e : Ed} (h : CanEd e) : (encB e).length ≤ 4000000 := by
  have h1 := eB6_len h
  have h2 := gnBs_len e.gone
  have h3 := adBs_len e.added h.a
  have h4 := h.n
  simp only [encB, List.length_append]
  omega
/-- Bytes under way, beside the box of an edit. -/
structure Es (w W : World) (P : En) (e : Ed) (v : Value) (l : List Int) : Prop where
  x : Blk W w.heap.size 27 (edA P e).toList
  own : OwnB W (w.heap.size + 1) v l
  b : Below w.heap.size w W
theorem Es.lt {w W : World} {P : En} {e : Ed} {v : Value} {l : List Int} (h : Es w W P e v l) : w.heap.size + 1 ≤ W.heap.size := h.x.lt
theorem Es.app {w W W' : World} {P : En} {e : Ed} {v v' : Value} {l l' : List Int} (h : Es w W P e v l) (a : AppB W W' (w.heap.size + 1) v v' l') : Es w W' P e v' l' :=
  ⟨h.x.upd a.upd (fun e => by have := (h.own.lt _ e).1; omega), a.own, Upd.bel h.b a.upd (fun k hk => by have := (h.own.lt _ hk).1; omega) h.b.size⟩
theorem Es.below {w W W' : World} {P : En} {e : Ed} {v : Value} {l : List Int} (h : Es w W P e v l) (hb : Below W.heap.size W W') : Es w W' P e v l :=
  ⟨h.x.upd (S := Non) (Upd.ofBelow hb) (fun h => h), h.own.below hb (Nat.le_refl _), bstep h.b hb⟩
theorem Es.drewN {w W : World} {P : En} {e : Ed} {v : Value} {l : List Int} (h : Es w W P e v l) (n : Nat) : Es w (W.drewN n) P e v l := h.below (belN (Below.refl _ _) n)
end Go.Proofs.Ytkmpcheamdadcaa
namespace Go.Proofs.Ytkmpcheamdadcaa
set_option linter.unusedVariables false
set_option linter.unusedSimpArgs false

theorem p7 (i : Nat) : (2 : Int) ^ (7 * (i + 1)) = 128 * 2 ^ (7 * i) := by
  rw [Nat.mul_add, Int.pow_add, Int.mul_comm]; rfl
theorem p7_pos (i : Nat) : (1 : Int) ≤ 2 ^ (7 * i) := by
  have : (0 : Int) < 2 ^ (7 * i) := Int.pow_pos (by decide)
  omega
theorem p7_9 : (2 : Int) ^ (7 * 9) = 9223372036854775808 := by decide
theorem p7_mono (i : Nat) (h : i ≤ 9) : (2 : Int) ^ (7 * i) ≤ 9223372036854775808 := by
  have : i = 0 ∨ i = 1 ∨ i = 2 ∨ i = 3 ∨ i = 4 ∨ i = 5 ∨ i = 6 ∨ i = 7 ∨ i = 8 ∨ i = 9 := by omega
  rcases this with h | h | h | h | h | h | h | h | h | h <;> subst h <;> decide
theorem p7_le8 (i : Nat) (h : i ≤ 8) : (2 : Int) ^ (7 * i) ≤ 72057594037927936 := by
  have : i = 0 ∨ i = 1 ∨ i = 2 ∨ i = 3 ∨ i = 4 ∨ i = 5 ∨ i = 6 ∨ i = 7 ∨ i = 8 := by omega
  rcases this with h | h | h | h | h | h | h | h | h <;> subst h <;> decide
theorem grp_bd (n c : Int) (i : Nat) : 0 ≤ grp n c i ∧ grp n c i < 18446744073709551616 := by
  simp only [grp, bits, IntKind.wrap_u64]; omega
/-- A group is joined on. -/
theorem grp_add (n c : Int) (i : Nat) (n0 : 0 ≤ n) (n1 : n < 2 ^ (7 * i)) (c0 : 0 ≤ c) (h : c % 128 * 2 ^ (7 * i) < 18446744073709551616) (hi : i ≤ 9) : grp n c i = n + c % 128 * 2 ^ (7 * i) := by
  have hp := p7_pos i
  have hp9 := p7_mono i hi
  have hx0 : 0 ≤ c % 128 * 2 ^ (7 * i) := Int.mul_nonneg (by omega) (by omega)
  unfold grp
  rw [show IntKind.u64.wrap (c % 128 * 2 ^ (7 * i)) = c % 128 * 2 ^ (7 * i) by rw [IntKind.wrap_u64]; omega]
  exact bits_join_low .u64 64 (by decide) wraps_u64 (7 * i) n _ n0 n1 (by omega) hx0 (Int.mul_emod_left _ _) (by omega)
/-- What is written is read. -/
theorem rvG_vL (rest : List Int) : ∀ (f : Nat) (m : Int) (i : Nat) (n : Int), i + f = 10 → 0 ≤ m → m < 128 ^ (f + 1) → 0 ≤ n → n < 2 ^ (7 * i) → n + m * 2 ^ (7 * i) < 18446744073709551616 → (i = 0 ∨ 0 < m) → i ≤ 9 →
    rvG (vL f m ++ rest) i n = (n + m * 2 ^ (7 * i), (i : Int) + (vL f m).length, 0)
  | 0, m, i, n, hf, _, _, _, _, _, _, h9 => by omega
  | f + 1, m, i, n, hf, m0, m1, n0, n1, hs, hz, h9 => by
    have hp := p7_pos i
    have hmp : 0 ≤ m * 2 ^ (7 * i) := Int.mul_nonneg m0 (by omega)
    by_cases hm : m < 128
    · rw [vL_last _ m hm]
      have hmm : m % 128 = m := by omega
      have h9c : ¬ (i = 9 ∧ 1 < m) := by
        rintro ⟨rfl, hm1⟩
        rw [p7_9] at hs
        omega
      have hgrp := grp_add n m i n0 n1 m0 (by rw [hmm]; omega) h9
      rw [hmm] at hgrp
      show rvG (m :: rest) i n = _
      unfold rvG
      rw [if_neg h9c, if_neg (by omega), if_pos hm, hgrp]
      simp
    · rw [vL_more f m (by omega)]
      have hi8 : i ≤ 8 := by
        rcases Nat.lt_or_ge i 9 with h | h
        · omega
        · have : i = 9 := by omega
          subst this
          rw [p7_9] at hs
          omega
      have h8 := p7_le8 i hi8
      have hc : (m % 128 + 128) % 128 = m % 128 := by omega
      have hlow0 : 0 ≤ m % 128 * 2 ^ (7 * i) := Int.mul_nonneg (by omega) (by omega)
      have hlow : m % 128 * 2 ^ (7 * i) ≤ 127 * 2 ^ (7 * i) := Int.mul_le_mul_of_nonneg_right (by omega) (by omega)
      have hgrp := grp_add n (m % 128 + 128) i n0 n1 (by omega) (by rw [hc]; omega) h9
      rw [hc] at hgrp
      have hsplit : m * 2 ^ (7 * i) = m % 128 * 2 ^ (7 * i) + m / 128 * 2 ^ (7 * (i + 1)) := by
        rw [p7, ← Int.mul_assoc, ← Int.add_mul]
        congr 1
        omega
      have ih := rvG_vL rest f (m / 128) (i + 1) (n + m % 128 * 2 ^ (7 * i)) (by omega) (by omega) (by rw [Int.pow_succ] at m1; omega) (by omega) (by rw [p7]; omega) (by omega) (.inr (by omega)) (by omega)
      show rvG ((m % 128 + 128) :: (vL f (m / 128) ++ rest)) i n = _
      unfold rvG
      rw [if_neg (by omega), if_neg (by omega), if_neg (by omega), hgrp, ih, hsplit]
      simp only [List.length_cons, Prod.mk.injEq, and_true]
      constructor <;> omega
theorem rvG_enc (m : Int) (rest : List Int) (m0 : 0 ≤ m) (m1 : m < 18446744073709551616) : rvG (vL 10 m ++ rest) 0 0 = (m, ((vL 10 m).length : Int), 0) := by
  have h := rvG_vL rest 10 m 0 0 rfl m0 (by show m < 128 ^ 11; omega) (by decide) (by decide) (by simpa using m1) (.inl rfl) (by decide)
  rw [h]; simp
/-- What is read was written so. -/
theorem rvG_dec : ∀ (l : List Int) (i : Nat) (n v : Int) (t : Int), (∀ c ∈ l, 0 ≤ c ∧ c < 256) → i ≤ 9 → 0 ≤ n → n < 2 ^ (7 * i) → rvG l i n = (v, t, 0) →
    ∃ (m : Int) (s : Nat), t = (i : Int) + s ∧ v = n + m * 2 ^ (7 * i) ∧ 0 ≤ m ∧ (i = 0 ∨ 0 < m) ∧ s ≤ l.length ∧ vL (10 - i) m = l.take s
  | [], i, n, v, t, _, _, _, _, h => by simp [rvG] at h
  | c :: l, i, n, v, t, hb, h9, n0, n1, h => by
    have hc := hb c (by simp)
    have hp := p7_pos i
    unfold rvG at h
    split at h
    · simp at h
    · rename_i h1
      split at h
      · simp at h
      · rename_i h2
        split at h
        · rename_i h3
          have hcm : c % 128 = c := by omega
          have hfit : c * 2 ^ (7 * i) < 18446744073709551616 := by
            rcases Nat.lt_or_ge i 9 with h | h
            · have := p7_le8 i (by omega)
              have : c * 2 ^ (7 * i) ≤ 127 * 2 ^ (7 * i) := Int.mul_le_mul_of_nonneg_right (by omega) (by omega)
              omega
            · have : i = 9 := by omega
              subst this
              rw [p7_9]
              omega
          have hgrp := grp_add n c i n0 n1 hc.1 (by rw [hcm]; exact hfit) h9
          rw [hcm] at hgrp
          simp only [Prod.mk.injEq, and_true] at h
          refine ⟨c, 1, by omega, by rw [← h.1, hgrp], hc.1, by omega, by simp, ?_⟩
          rw [vL_last _ c h3]; simp
        · rename_i h3
          have hi8 : i ≤ 8 := by omega
          have h8 := p7_le8 i hi8
          have hlow0 : 0 ≤ c % 128 * 2 ^ (7 * i) := Int.mul_nonneg (by omega) (by omega)
          have hlow : c % 128 * 2 ^ (7 * i) ≤ 127 * 2 ^ (7 * i) := Int.mul_le_mul_of_nonneg_right (by omega) (by omega)
          have hgrp := grp_add n c i n0 n1 hc.1 (by omega) h9
          rw [hgrp] at h
          obtain ⟨m, s, ht, hv, m0, hz, hs, hvl⟩ := rvG_dec l (i + 1) (n + c % 128 * 2 ^ (7 * i)) v t (fun x hx => hb x (by simp [hx])) (by omega) (by omega) (by rw [p7]; omega) h
          refine ⟨c % 128 + 128 * m, s + 1, by omega, ?_, by omega, by omega, by simpa using hs, ?_⟩
          · rw [hv, p7, Int.add_mul, Int.mul_comm 128 m, ← Int.mul_assoc, Int.mul_assoc m 128]
            omega
          · have e : 10 - i = (10 - (i + 1)) + 1 := by omega
            rw [e, vL_more _ _ (by omega)]
            have e1 : (c % 128 + 128 * m) % 128 + 128 = c := by omega
            have e2 : (c % 128 + 128 * m) / 128 = m := by omega
            rw [e1, e2, hvl]; simp
theorem rvG_canon {l : List Int} {v t : Int} (hb : ∀ c ∈ l, 0 ≤ c ∧ c < 256) (h : rvG l 0 0 = (v, t, 0)) : ∃ s : Nat, t = s ∧ s ≤ l.length ∧ vL 10 v = l.take s ∧ 0 ≤ v := by
  obtain ⟨m, s, ht, hv, m0, _, hs, hvl⟩ := rvG_dec l 0 0 v t hb (by decide) (by decide) (by decide) h
  have : v = m := by rw [hv]; simp
  subst this
  exact ⟨s, by simpa using ht, hs, hvl, m0⟩
/-- Fixed numbers, there and back. -/
theorem byts_leV : ∀ (l : List Int), (∀ c ∈ l, 0 ≤ c ∧ c < 256) → byts l.length (leV l) = l
  | [], _ => rfl
  | c :: l, h => by
    have hc := h c (by simp)
    rw [List.length_cons, byts_succ]
    simp only [leV]
    have e1 : (c + 256 * leV l) % 256 = c := by omega
    have e2 : (c + 256 * leV l) / 256 = leV l := by omega
    rw [e1, e2, byts_leV l (fun x hx => h x (by simp [hx]))]
end Go.Proofs.Ytkmpcheamdadcaa
namespace Go.Proofs.Ytkmpcheamdadcaa
open Go.RowKit
set_option linter.unusedVariables false
set_option linter.unusedSimpArgs false
/-- What ReadVarint can answer. -/
theorem rvG_cases : ∀ (l : List Int) (i : Nat) (n : Int), (∃ v : Int, ∃ s : Nat, rvG l i n = (v, (i : Int) + s, 0) ∧ 1 ≤ s ∧ s ≤ l.length ∧ 0 ≤ v ∧ v < 18446744073709551616) ∨ rvG l i n = (0, 0, 3) ∨ rvG l i n = (0, 0, 4)
  | [], i, n => .inr (.inr rfl)
  | c :: l, i, n => by
    unfold rvG
    split
    · exact .inr (.inl rfl)
    · split
      · exact .inr (.inl rfl)
      · split
        · exact .inl ⟨_, 1, rfl, by omega, by simp, (grp_bd n c i).1, (grp_bd n c i).2⟩
        · rcases rvG_cases l (i + 1) (grp n c i) with ⟨v, s, h, h1, h2, h3, h4⟩ | h | h
          · exact .inl ⟨v, s + 1, by rw [h]; congr 2; omega, by omega, by simpa using h2, h3, h4⟩
          · exact .inr (.inl h)
          · exact .inr (.inr h)
def pVar (most : Int) (l : List Int) : Except Int (Int × List Int) :=
  if (rvG l 0 0).2.2 ≠ 0 then .error (rvG l 0 0).2.2 else if most < (rvG l 0 0).1 then .error 3 else .ok ((rvG l 0 0).1, l.drop (rvG l 0 0).2.1.toNat)
/-- How a number can be read. -/
theorem pVar_cases (most : Int) (l : List Int) : (∃ (v : Int) (s : Nat), rvG l 0 0 = (v, (s : Int), 0) ∧ 1 ≤ s ∧ s ≤ l.length ∧ 0 ≤ v ∧ v < 18446744073709551616 ∧ v ≤ most ∧ pVar most l = .ok (v, l.drop s)) ∨
    (∃ (v : Int) (s : Nat), rvG l 0 0 = (v, (s : Int), 0) ∧ most < v ∧ 0 ≤ v ∧ v < 18446744073709551616 ∧ pVar most l = .error 3) ∨ (∃ c, (c = 3 ∨ c = 4) ∧ rvG l 0 0 = (0, 0, c) ∧ pVar most l = .error c) := by
  unfold pVar
  rcases rvG_cases l 0 0 with ⟨v, s, h, h1, h2, h3, h4⟩ | h | h
  · have h' : rvG l 0 0 = (v, (s : Int), 0) := by rw [h]; congr 2; omega
    rw [h']
    by_cases hm : most < v
    · exact .inr (.inl ⟨v, s, rfl, hm, h3, h4, by simp [hm]⟩)
    · exact .inl ⟨v, s, rfl, h1, h2, h3, h4, by omega, by simp [hm]⟩
  · rw [h]; exact .inr (.inr ⟨3, .inl rfl, rfl, by simp⟩)
  · rw [h]; exact .inr (.inr ⟨4, .inr rfl, rfl, by simp⟩)

theorem pVar_bd {most n : Int} {l l' : List Int} (h : pVar most l = .ok (n, l')) : 0 ≤ n ∧ n ≤ most := by
  rcases pVar_cases most l with ⟨v, s, hR, s1, s2, v0, v1, v2, hp'⟩ | ⟨v, s, hR, v2, v0, v1, hp'⟩ | ⟨c', hc', hR, hp'⟩
  · rw [h] at hp'
    simp only [Except.ok.injEq, Prod.mk.injEq] at hp'
    obtain ⟨rfl, rfl⟩ := hp'
    exact ⟨v0, v2⟩
  · rw [h] at hp'; cases hp'
  · rw [h] at hp'; cases hp'
def Byt (l : List Int) : Prop := ∀ c ∈ l, 0 ≤ c ∧ c < 256
theorem Byt.right {l m : List Int} (h : Byt (l ++ m)) : Byt m := fun c hc => h c (by simp [hc])
theorem Byt.left {l m : List Int} (h : Byt (l ++ m)) : Byt l := fun c hc => h c (by simp [hc])
theorem pVar_canon {most n : Int} {l l' : List Int} (hb : Byt l) (h : pVar most l = .ok (n, l')) : l = vL 10 n ++ l' ∧ 0 ≤ n ∧ n ≤ most := by
  rcases pVar_cases most l with ⟨v, s, hR, s1, s2, v0, v1, v2, hp'⟩ | ⟨v, s, hR, v2, v0, v1, hp'⟩ | ⟨c', hc', hR, hp'⟩
  · rw [h] at hp'
    simp only [Except.ok.injEq, Prod.mk.injEq] at hp'
    obtain ⟨rfl, rfl⟩ := hp'
    obtain ⟨s', hs', _, hv, _⟩ := rvG_canon hb hR
    have : s' = s := by omega
    subst this
    exact ⟨by rw [hv, List.take_append_drop], v0, v2⟩
  · rw [h] at hp'; cases hp'
  · rw [h] at hp'; cases hp'
theorem pVar_enc {most n : Int} (rest : List Int) (n0 : 0 ≤ n) (n1 : n ≤ most) (n2 : n < 18446744073709551616) : pVar most (vL 10 n ++ rest) = .ok (n, rest) := by
  unfold pVar
  rw [rvG_enc n rest n0 n2]
  dsimp only
  rw [if_neg (by simp), if_neg (by omega), Int.toNat_natCast, List.drop_left]
/-- So many bytes. -/
def pTake (n : Nat) (l : List Int) : Except Int (List Int × List Int) := if l.length < n then .error 4 else .ok (l.take n, l.drop n)
def pAny (l : List Int) : Except Int (Int × List Int) := pVar 18446744073709551615 l
def pLvl (l : List Int) : Except Int (Int × List Int) := pVar 6 l
def pName (l : List Int) : Except Int (List Int × List Int) := match pVar 64 l with
  | .error c => .error c
  | .ok (n, l1) => if n ≤ 0 then .error 3 else pTake n.toNat l1
/-- A key out of its bytes. -/
def kyD (m : Nat) (t : List Int) : Ky := ⟨decU m t, decN m t / 256, decN m t % 256⟩
def pKyB (t : List Int) : Except Int Ky := if t.length < 8 then .error 3 else if checkV (kyD (t.length - 8) t).u (kyD (t.length - 8) t).s (kyD (t.length - 8) t).k = 0 then .ok (kyD (t.length - 8) t) else .error 3
def pKey (l : List Int) : Except Int (Ky × List Int) := match pVar 1032 l with
  | .error c => .error c
  | .ok (n, l1) => match pTake n.toNat l1 with
    | .error c => .error c
    | .ok (t, l2) => match pKyB t with
      | .error c => .error c
      | .ok k => .ok (k, l2)
def pFile (l : List Int) : Except Int (Fi × List Int) := match pAny l with
  | .error c => .error c
  | .ok (num, l1) => match pAny l1 with
    | .error c => .error c
    | .ok (size, l2) => match pAny l2 with
      | .error c => .error c
      | .ok (ents, l3) => match pAny l3 with
        | .error c => .error c
        | .ok (rngs, l4) => match pKey l4 with
          | .error c => .error c
          | .ok (sm, l5) => match pKey l5 with
            | .error c => .error c
            | .ok (la, l6) => .ok (⟨num, size, sm, la, ents, rngs⟩, l6)
def roomB (e : Ed) : Bool := decide (e.gone.length + e.added.length < 1024)
def pPart (n : Int) (e : Ed) (l : List Int) : Except Int (Ed × List Int) :=
  if n = 2 then (match pVar 1 l with
    | .error c => .error c
    | .ok (h, l1) => match pName l1 with
      | .error c => .error c
      | .ok (t, l2) => .ok ({ e with ma := true, how := h, name := bstr t }, l2))
  else if n = 3 then (if e.ma then .error 3 else .ok ({ e with dr := true }, l))
  else if n = 4 then (match pAny l with
    | .error c => .error c
    | .ok (v, l1) => .ok ({ e with hl := true, log := v }, l1))
  else if n = 5 then (match pAny l with
    | .error c => .error c
    | .ok (v, l1) => .ok ({ e with hn := true, next := v }, l1))
  else if n = 6 then (match pAny l with
    | .error c => .error c
    | .ok (v, l1) => .ok ({ e with hs := true, seq := v }, l1))
  else if n = 7 then (if roomB e = false then .error 3 else match pLvl l with
    | .error c => .error c
    | .ok (lv, l1) => match pAny l1 with
      | .error c => .error c
      | .ok (v, l2) => .ok ({ e with gone := e.gone ++ [⟨lv, v⟩] }, l2))
  else if n = 8 then (if roomB e = false then .error 3 else match pLvl l with
    | .error c => .error c
    | .ok (lv, l1) => match pFile l1 with
      | .error c => .error c
      | .ok (f, l2) => .ok ({ e with added := e.added ++ [⟨lv, f⟩] }, l2))
  else .error 3
def ed0 : Ed := ⟨0, false, false, ⟨#[]⟩, 0, false, false, false, 0, 0, 0, [], []⟩
def mayB (last n : Int) : Bool := decide (last < n) || (decide (n = last) && (decide (n = 7) || decide (n = 8)))
def pParts : Nat → Int → Ed → List Int → Except Int Ed
  | 0, _, _, _ => .error 0
  | _ + 1, _, e, [] => .ok e
  | f + 1, last, e, n :: l => if mayB last n = false then .error 3 else match pPart n e l with
    | .error c => .error c
    | .ok (e', l') => pParts f n e' l'
/-- What bytes tell. -/
def pEd : List Int → Except Int Ed
  | [] => .error 4
  | n :: l => if n = 1 then (match pVar 4294967295 l with
    | .error c => .error c
    | .ok (v, l1) => pParts (l1.length + 1) 1 { ed0 with fam := v } l1) else .error 3
end Go.Proofs.Ytkmpcheamdadcaa
namespace Go.Proofs.Ytkmpcheamdadcaa
open Go.RowKit
set_option linter.unusedVariables false
set_option linter.unusedSimpArgs false

def cutBA (a : Option Addr) (cap n : Nat) : Option Addr := if cap = n then a else a.map (·.add (n * 1))
theorem elem28 : Try.prog.elem 28 = 5 := by kernel_rfl
theorem slc28 : Try.prog.underlying 28 = some (.slice (Try.prog.elem 28)) := by rw [elem28]; exact Try.underlying28
theorem bcut_lo (a : Option Addr) (len cap n : Nat) (h : n ≤ len) (W : World) : (Instr.sliceAt 28 (.slice a len cap) (some (.int .i64 n)) none none).run Try.prog W = .ok (.slice (cutBA a cap n) (len - n) (cap - n)) W := by
  have hs : (sizeOf 5).run Try.prog W = .ok 1 W := by kernel_rfl
  have hr := run_slice_l (P := Try.prog) W 28 a len cap slc28 .i64 (n : Int) (by omega) (by omega)
  rw [elem28, hs] at hr
  simp only [Result.andThen, sliced, Int.toNat_natCast] at hr
  rw [run_sliceAt_slice _ _ _ _ _ _ slc28, hr]
  rfl
theorem bcut_hi (a : Option Addr) (len cap n : Nat) (h : n ≤ cap) (W : World) : (Instr.sliceAt 28 (.slice a len cap) none (some (.int .i64 n)) none).run Try.prog W = .ok (.slice a n cap) W := by
  have hs : (sizeOf 5).run Try.prog W = .ok 1 W := by kernel_rfl
  have hr := run_slice_h (P := Try.prog) W 28 a len cap slc28 .i64 (n : Int) (by omega) (by omega)
  rw [elem28, hs] at hr
  simp only [Result.andThen, sliced, Int.toNat_natCast] at hr
  rw [run_sliceAt_slice _ _ _ _ _ _ slc28, hr]
  cases a <;> simp [Addr.add]
theorem Arg.take {w : World} {a : Option Addr} {len cap : Nat} {l : List Int} (h : Arg w a len cap l) (n : Nat) (hn : n ≤ len) : Arg w a n cap (l.take n) := by
  obtain ⟨h1, h2, h3, h4⟩ := h
  refine ⟨by rw [List.length_take]; omega, fun x hx => h2 x (List.mem_of_mem_take hx), by omega, ?_⟩
  rcases h4 with rfl | ⟨b, off, rfl, hb, hc⟩
  · exact .inl (by simp)
  · refine .inr ⟨b, off, rfl, hb, fun j hj => ?_⟩
    rw [List.length_take] at hj
    rw [List.getElem_take]
    exact hc j (by omega)
theorem Arg.drop {w : World} {a : Option Addr} {len cap : Nat} {l : List Int} (h : Arg w a len cap l) (n : Nat) (hn : n ≤ len) (hcap : len ≤ cap) : Arg w (cutBA a cap n) (len - n) (cap - n) (l.drop n) := by
  obtain ⟨h1, h2, h3, h4⟩ := h
  refine ⟨by rw [List.length_drop]; omega, fun x hx => h2 x (List.mem_of_mem_drop hx), by omega, ?_⟩
  by_cases hz : l.drop n = []
  · exact .inl hz
  · have hlt : n < len := by
      rcases Nat.lt_or_ge n len with h | h
      · exact h
      · exact absurd (List.drop_eq_nil_of_le (by omega)) hz
    rcases h4 with rfl | ⟨b, off, rfl, hb, hc⟩
    · simp at hz
    · refine .inr ⟨b, off + n, ?_, hb, fun j hj => ?_⟩
      · unfold cutBA
        rw [if_neg (by omega)]
        simp [add_at]
      · rw [List.length_drop] at hj
        rw [List.getElem_drop, Nat.add_assoc]
        exact hc (n + j) (by omega)
theorem cutBA_blk {a : Option Addr} {cap n : Nat} {p : Addr} (h : cutBA a cap n = some p) : ∃ p', a = some p' ∧ p'.block = p.block := by
  unfold cutBA at h
  split at h
  · exact ⟨p, h, rfl⟩
  · cases a with
    | none => simp at h
    | some q =>
      refine ⟨q, rfl, ?_⟩
      simp only [Option.map_some, Option.some.injEq] at h
      rw [← h]
      unfold Addr.add
      split <;> rfl
/-- Block rb is a reader of these bytes, which lie below B; beside them the cells of an edit. -/
def Rdl (B : Nat) (w : World) (rb : Nat) (l : List Int) (cs : List Value) : Prop :=
  ∃ a cap, Blk w rb 80 (.slice a l.length cap :: cs) ∧ Arg w a l.length cap l ∧ l.length ≤ cap ∧ B ≤ rb ∧ ∀ p : Addr, a = some p → p.block < B
def Is (rb : Nat) : Nat → Prop := fun k => k = rb
theorem Rdl.below {B : Nat} {w w' : World} {rb : Nat} {l : List Int} {cs : List Value} (h : Rdl B w rb l cs) (hb : Below w.heap.size w w') : Rdl B w' rb l cs := by
  obtain ⟨a, cap, h1, h2, h3, h4⟩ := h
  exact ⟨a, cap, h1.upd (S := Non) (Upd.ofBelow hb) (fun hh => hh), h2.below hb, h3, h4⟩
theorem Rdl.bytes {B : Nat} {w : World} {rb : Nat} {l : List Int} {cs : List Value} (h : Rdl B w rb l cs) : ∀ c ∈ l, 0 ≤ c ∧ c < 256 := by
  obtain ⟨a, cap, h1, h2, _⟩ := h
  exact h2.2.1
/-- An ending by a panic with an error. -/
abbrev pnk (c : Int) : Ending := .panicked [{ v := .iface 29 (.int .i64 c), recovered := false }]

set_option maxRecDepth 100000 in
set_option maxHeartbeats 1000000 in
theorem must_yes (w : World) : Calls Try.prog 77 #[.bool true] w fun e w' => e = .returned (.tuple #[]) ∧ w' = w := by
  go_enter Try.func77, Try.ntmps77
  go_wp2
  go_end0
  exact ⟨rfl, rfl⟩
set_option maxRecDepth 100000 in
set_option maxHeartbeats 1000000 in
theorem must_no (w : World) : Calls Try.prog 77 #[.bool false] w fun e w' => e = pnk 3 ∧ w' = w := by
  go_enter Try.func77, Try.ntmps77
  go_wp2
  exact ⟨rfl, rfl, rfl⟩
/-- The reader goes on. -/
theorem rdl_adv {B : Nat} {w : World} {rb : Nat} {l : List Int} {cs : List Value} {a : Option Addr} {cap : Nat} (hB : Blk w rb 80 (.slice a l.length cap :: cs)) (hA : Arg w a l.length cap l) (hcap : l.length ≤ cap) (hrb : B ≤ rb) (hlt : ∀ p : Addr, a = some p → p.block < B) (n : Nat) (hn : n ≤ l.length) :
    Rdl B (w.setCell ⟨rb, 0, none⟩ (.slice (cutBA a cap n) (l.length - n) (cap - n))) rb (l.drop n) cs ∧ Upd (Is rb) w (w.setCell ⟨rb, 0, none⟩ (.slice (cutBA a cap n) (l.length - n) (cap - n))) := by
  have U : Upd (Is rb) w (w.setCell ⟨rb, 0, none⟩ (.slice (cutBA a cap n) (l.length - n) (cap - n))) := Upd.setCell (p := ⟨rb, 0, none⟩) (Upd.refl (Is rb) w) (fun _ => rfl) _
  refine ⟨⟨cutBA a cap n, cap - n, ?_, ?_, by rw [List.length_drop]; omega, hrb, ?_⟩, U⟩
  · rw [List.length_drop]; exact hB.set 0 _
  · rw [List.length_drop]; exact (hA.drop n hn hcap).upd U (fun b off hk e => by obtain ⟨p', hk', e'⟩ := cutBA_blk hk; have := hlt p' hk'; unfold Is at e; dsimp only at e'; omega)
  · intro p hk
    obtain ⟨p', hk', e'⟩ := cutBA_blk hk
    rw [← e']
    exact hlt p' hk'
set_option maxRecDepth 100000 in
set_option maxHeartbeats 1000000 in
theorem take_no {B : Nat} {w : World} {rb : Nat} {l : List Int} {cs : List Value} (h : Rdl B w rb l cs) (n : Nat) (hn : l.length < n) :
    Calls Try.prog 99 #[ptr rb, .int .i64 n] w fun e w' => e = pnk 4 ∧ w' = w := by
  obtain ⟨a, cap, hB, hA, hcap, hlt⟩ := h
  have c0 := hB.cell1 0 _ rfl
  have hn' : (l.length : Int) < (n : Int) := by omega
  go_enter Try.func99, Try.ntmps99
  go_wp2
  exact ⟨rfl, rfl, rfl⟩
set_option maxRecDepth 100000 in
set_option maxHeartbeats 1000000 in
theorem take_yes {B : Nat} {w : World} {rb : Nat} {l : List Int} {cs : List Value} (h : Rdl B w rb l cs) (n : Nat) (hn : n ≤ l.length) :
    Calls Try.prog 99 #[ptr rb, .int .i64 n] w fun e w' => ∃ a cap, e = .returned (.slice a n cap) ∧ Arg w' a n cap (l.take n) ∧ n ≤ cap ∧ Rdl B w' rb (l.drop n) cs ∧ Upd (Is rb) w w' := by
  obtain ⟨a, cap, hB, hA, hcap, hrb, hlt⟩ := h
  have c0 := hB.cell1 0 _ rfl
  have f0 := hB.frozen 0
  have hn' : (n : Int) ≤ (l.length : Int) := by omega
  have h1 := bcut_lo a l.length cap n hn
  have h2 := bcut_hi a l.length cap n (by omega)
  go_enter Try.func99, Try.ntmps99
  go_wp2
  go_ret
  have G := rdl_adv hB hA hcap hrb hlt n hn
  exact ⟨a, cap, rfl, (hA.take n hn).upd G.2 (fun b off hk e => by have := hlt _ hk; unfold Is at e; dsimp only at this; omega), by omega, G.1, G.2⟩
theorem bne0 {c : Int} (h : c = 3 ∨ c = 4) : (c != 0) = true := by rcases h with rfl | rfl <;> rfl
set_option maxRecDepth 100000 in
set_option maxHeartbeats 1000000 in
theorem varint_ok {B : Nat} {w : World} {rb : Nat} {l l' : List Int} {cs : List Value} {n most : Int} (h : Rdl B w rb l cs) (m0 : 0 ≤ most) (m1 : most < 18446744073709551616) (hp : pVar most l = .ok (n, l')) :
    Calls Try.prog 78 #[ptr rb, .int .u64 most] w fun e w' => e = .returned (.int .u64 n) ∧ Rdl B w' rb l' cs ∧ Upd (Is rb) w w' := by
  obtain ⟨a, cap, hB, hA, hcap, hrb, hlt⟩ := h
  rcases pVar_cases most l with ⟨v, s, hR, s1, s2, v0, v1, v2, hp'⟩ | ⟨v, s, hR, _, _, _, hp'⟩ | ⟨c, _, hR, hp'⟩
  · rw [hp] at hp'
    simp only [Except.ok.injEq, Prod.mk.injEq] at hp'
    obtain ⟨rfl, rfl⟩ := hp'
    have c0 := hB.cell1 0 _ rfl
    have f0 := hB.frozen 0
    have h1 := bcut_lo a l.length cap s s2
    have HC := crv_any a l.length cap l w hA
    rw [hR] at HC
    dsimp only at HC
    clear hR hp
    go_enter Try.func78, Try.ntmps78
    go_wp2_with (first
      | (go_at_call 100; refine HC.mono ?_; rintro e w' ⟨rfl, rfl⟩)
      | (go_at_call 77; refine (must_yes _).mono ?_; rintro e w' ⟨rfl, rfl⟩))
    go_ret
    exact ⟨rfl, rdl_adv hB hA hcap hrb hlt s s2⟩
  · rw [hp] at hp'; cases hp'
  · rw [hp] at hp'; cases hp'
set_option maxRecDepth 100000 in
set_option maxHeartbeats 1000000 in
theorem varint_err {B : Nat} {w : World} {rb : Nat} {l : List Int} {cs : List Value} {most c : Int} (h : Rdl B w rb l cs) (m0 : 0 ≤ most) (m1 : most < 18446744073709551616) (hp : pVar most l = .error c) :
    Calls Try.prog 78 #[ptr rb, .int .u64 most] w fun e w' => e = pnk c ∧ w' = w := by
  obtain ⟨a, cap, hB, hA, hcap, hlt⟩ := h
  have c0 := hB.cell1 0 _ rfl
  have HC := crv_any a l.length cap l w hA
  rcases pVar_cases most l with ⟨v, s, hR, s1, s2, v0, v1, v2, hp'⟩ | ⟨v, s, hR, v2, v0, v1, hp'⟩ | ⟨c', hc', hR, hp'⟩
  · rw [hp] at hp'; cases hp'
  · rw [hp] at hp'
    cases hp'
    rw [hR] at HC
    dsimp only at HC
    have dv : decide (v ≤ most) = false := by simpa using v2
    clear hR hp
    go_enter Try.func78, Try.ntmps78
    go_wp2_with (first
      | (go_at_call 100; refine HC.mono ?_; rintro e w' ⟨rfl, rfl⟩)
      | (go_at_call 77; refine (must_no _).mono ?_; rintro e w' ⟨rfl, rfl⟩))
    exact ⟨rfl, rfl, rfl⟩
  · rw [hp] at hp'
    cases hp'
    have tc := bne0 hc'
    rw [hR] at HC
    dsimp only at HC
    clear hR hp hc'
    go_enter Try.func78, Try.ntmps78
    go_wp2_with (go_at_call 100; refine HC.mono ?_; rintro e w' ⟨rfl, rfl⟩)
    exact ⟨rfl, rfl, rfl⟩
end Go.Proofs.Ytkmpcheamdadcaa
