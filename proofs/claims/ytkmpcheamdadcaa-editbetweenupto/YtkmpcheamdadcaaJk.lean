/-
  The sort at uint64: median, medianAdjacent, choosePivot.
  The sort at uint64: medianAdjacent, choosePivot.
-/
import Derived.Test.YtkmpcheamdadcaaJi
import Derived.Deep.CutBlock
namespace Go.Proofs.Ytkmpcheamdadcaa.Srt
open Go.RowKit Go.Sort
set_option linter.unusedVariables false
set_option linter.unusedSimpArgs false
set_option maxRecDepth 100000 in
set_option maxHeartbeats 4000000 in
theorem order_any (blk off cap a b s n : Nat) (d : Array Int) (w : World) (h : Holds (Value.int .u64) w blk off d) (ha : a < d.size) (hb : b < d.size) (hsz : d.size < 2305843009213693952) (hs : w.cell? ⟨s, 0, none⟩ = some (.int .i64 n)) (hfz : w.frozen? ⟨s, 0, none⟩ = false) (hn : n < 100) :
    Calls Try.prog 136 #[.slice (some ⟨blk, off, none⟩) d.size cap, .int .i64 a, .int .i64 b, .pointer (some ⟨s, 0, none⟩)] w fun e w' =>
      e = .returned (.tuple #[.int .i64 (Sort.order2 ltInt d a b n).1, .int .i64 (Sort.order2 ltInt d a b n).2.1]) ∧ ∃ q, w' = if ltInt d[b]! d[a]! then (w.drewN q).setCell ⟨s, 0, none⟩ (.int .i64 ((n : Int) + 1)) else w.drewN q := by
  obtain ⟨N, hN⟩ : ∃ N, Hid (N = d.size) := ⟨_, rfl⟩
  obtain ⟨G, hG⟩ : ∃ G : Nat → Int, Hid (∀ t, G t = d[t]!) := ⟨fun t => d[t]!, fun _ => rfl⟩
  rw [← hN.out] at ha hb hsz ⊢
  have hc : ∀ t, t < N → w.cell? ⟨blk, off + t, none⟩ = some (.int .u64 (G t)) := fun t ht => by rw [hG.out]; exact (h t (hN.out ▸ ht)).1
  have hf : ∀ t, t < N → w.frozen? ⟨blk, off + t, none⟩ = false := fun t ht => (h t (hN.out ▸ ht)).2
  have hO : Sort.order2 ltInt d a b n = if ltInt (G b) (G a) then (b, a, n + 1) else (a, b, n) := by rw [hG.out, hG.out]; rfl
  rw [hO, ← hG.out, ← hG.out]
  clear hO h
  go_enter Try.func136, Try.ntmps136
  go_wp2
  go_quiet (first | (go_at_call 118; refine Calls.quiet_of_same (less_any _ _ _)))
  go_wp2
  all_goals
    go_ret2
    exact ⟨rfl, nq, rfl⟩
end Go.Proofs.Ytkmpcheamdadcaa.Srt
namespace Go.Proofs.Ytkmpcheamdadcaa.Srt
open Go.RowKit Go.Sort
set_option linter.unusedVariables false
set_option linter.unusedSimpArgs false

theorem order_rel (blk off cap a b s n : Nat) (d : Array Int) (w : World) (h : Holds (Value.int .u64) w blk off d) (hne : blk ≠ s) (ha : a < d.size) (hb : b < d.size) (hsz : d.size < 2305843009213693952) (hs : w.cell? ⟨s, 0, none⟩ = some (.int .i64 n)) (hfz : w.frozen? ⟨s, 0, none⟩ = false) (hn : n < 100) :
    Calls Try.prog 136 #[.slice (some ⟨blk, off, none⟩) d.size cap, .int .i64 a, .int .i64 b, .pointer (some ⟨s, 0, none⟩)] w fun e w' =>
      e = .returned (.tuple #[.int .i64 (Sort.order2 ltInt d a b n).1, .int .i64 (Sort.order2 ltInt d a b n).2.1]) ∧ w'.cell? ⟨s, 0, none⟩ = some (.int .i64 (Sort.order2 ltInt d a b n).2.2) ∧ w'.frozen? ⟨s, 0, none⟩ = false ∧ Holds (Value.int .u64) w' blk off d ∧ w.grownBy w' (some s) := by
  refine (order_any blk off cap a b s n d w h ha hb hsz hs hfz hn).mono fun e w' ⟨he, q, hw⟩ => ⟨he, ?_⟩
  have hg0 : w.grownBy (w.drewN q) (some s) := ⟨rfl, rfl, rfl, Nat.le_refl _, fun _ _ _ => rfl⟩
  unfold Sort.order2
  by_cases hl : ltInt d[b]! d[a]! = true
  · rw [if_pos hl] at hw
    subst hw
    rw [if_pos hl]
    refine ⟨?_, ?_, fun t ht => ?_, ?_⟩
    · rw [World.cell?_setCell_same' _ _ _ (by simp [hs])]; rfl
    · rw [World.frozen?_setCell]; simpa using hfz
    · rw [World.cell?_setCell_other _ _ _ _ (by simp <;> omega), World.frozen?_setCell]
      simpa using h t ht
    · exact ⟨rfl, rfl, rfl, by simp [World.setCell], fun k hk hk2 => (Below.heap_setCell _ _ _ _ (fun e => hk2 (by rw [e]))).trans rfl⟩
  · rw [if_neg hl] at hw
    subst hw
    rw [if_neg hl]
    exact ⟨by simpa using hs, by simpa using hfz, fun t ht => by simpa using h t ht, hg0⟩
theorem order_lt {d : Array Int} {a b n N : Nat} (ha : a < N) (hb : b < N) : (Sort.order2 ltInt d a b n).1 < N ∧ (Sort.order2 ltInt d a b n).2.1 < N ∧ (Sort.order2 ltInt d a b n).2.2 ≤ n + 1 := by
  unfold Sort.order2; split <;> simp <;> omega
set_option maxRecDepth 100000 in
set_option maxHeartbeats 2000000 in
theorem median_rel (blk off cap a b c s n : Nat) (d : Array Int) (w : World) (h : Holds (Value.int .u64) w blk off d) (hne : blk ≠ s) (ha : a < d.size) (hb : b < d.size) (hc : c < d.size) (hsz : d.size < 2305843009213693952) (hs : w.cell? ⟨s, 0, none⟩ = some (.int .i64 n)) (hfz : w.frozen? ⟨s, 0, none⟩ = false) (hn : n < 50) :
    Calls Try.prog 132 #[.slice (some ⟨blk, off, none⟩) d.size cap, .int .i64 a, .int .i64 b, .int .i64 c, .pointer (some ⟨s, 0, none⟩)] w fun e w' =>
      e = .returned (.int .i64 (Sort.median ltInt d a b c n).1) ∧ w'.cell? ⟨s, 0, none⟩ = some (.int .i64 (Sort.median ltInt d a b c n).2) ∧ w'.frozen? ⟨s, 0, none⟩ = false ∧ Holds (Value.int .u64) w' blk off d ∧ w.grownBy w' (some s) := by
  obtain ⟨r1, hr1⟩ : ∃ r, Sort.order2 ltInt d a b n = r := ⟨_, rfl⟩
  have l1 := order_lt (d := d) (n := n) ha hb
  rw [hr1] at l1
  obtain ⟨r2, hr2⟩ : ∃ r, Sort.order2 ltInt d r1.2.1 c r1.2.2 = r := ⟨_, rfl⟩
  have l2 := order_lt (d := d) (n := r1.2.2) l1.2.1 hc
  rw [hr2] at l2
  obtain ⟨r3, hr3⟩ : ∃ r, Sort.order2 ltInt d r1.1 r2.1 r2.2.2 = r := ⟨_, rfl⟩
  have HM : Hid (Sort.median ltInt d a b c n = (r3.2.1, r3.2.2)) := by
    show _ = _
    simp only [Sort.median, hr1, hr2, hr3]
  have HO1 : Hid (∀ W, Holds (Value.int .u64) W blk off d → W.cell? ⟨s, 0, none⟩ = some (.int .i64 n) → W.frozen? ⟨s, 0, none⟩ = false → Calls Try.prog 136 #[.slice (some ⟨blk, off, none⟩) d.size cap, .int .i64 a, .int .i64 b, .pointer (some ⟨s, 0, none⟩)] W fun e w' => e = .returned (.tuple #[.int .i64 r1.1, .int .i64 r1.2.1]) ∧ w'.cell? ⟨s, 0, none⟩ = some (.int .i64 r1.2.2) ∧ w'.frozen? ⟨s, 0, none⟩ = false ∧ Holds (Value.int .u64) w' blk off d ∧ W.grownBy w' (some s)) := fun W h1 h2 h3 => by
    have := order_rel blk off cap a b s n d W h1 hne ha hb hsz h2 h3 (by omega); rw [hr1] at this; exact this
  have HO2 : Hid (∀ W, Holds (Value.int .u64) W blk off d → W.cell? ⟨s, 0, none⟩ = some (.int .i64 r1.2.2) → W.frozen? ⟨s, 0, none⟩ = false → Calls Try.prog 136 #[.slice (some ⟨blk, off, none⟩) d.size cap, .int .i64 r1.2.1, .int .i64 c, .pointer (some ⟨s, 0, none⟩)] W fun e w' => e = .returned (.tuple #[.int .i64 r2.1, .int .i64 r2.2.1]) ∧ w'.cell? ⟨s, 0, none⟩ = some (.int .i64 r2.2.2) ∧ w'.frozen? ⟨s, 0, none⟩ = false ∧ Holds (Value.int .u64) w' blk off d ∧ W.grownBy w' (some s)) := fun W h1 h2 h3 => by
    have := order_rel blk off cap r1.2.1 c s r1.2.2 d W h1 hne l1.2.1 hc hsz h2 h3 (by omega); rw [hr2] at this; exact this
  have HO3 : Hid (∀ W, Holds (Value.int .u64) W blk off d → W.cell? ⟨s, 0, none⟩ = some (.int .i64 r2.2.2) → W.frozen? ⟨s, 0, none⟩ = false → Calls Try.prog 136 #[.slice (some ⟨blk, off, none⟩) d.size cap, .int .i64 r1.1, .int .i64 r2.1, .pointer (some ⟨s, 0, none⟩)] W fun e w' => e = .returned (.tuple #[.int .i64 r3.1, .int .i64 r3.2.1]) ∧ w'.cell? ⟨s, 0, none⟩ = some (.int .i64 r3.2.2) ∧ w'.frozen? ⟨s, 0, none⟩ = false ∧ Holds (Value.int .u64) w' blk off d ∧ W.grownBy w' (some s)) := fun W h1 h2 h3 => by
    have := order_rel blk off cap r1.1 r2.1 s r2.2.2 d W h1 hne l1.1 l2.1 hsz h2 h3 (by omega); rw [hr3] at this; exact this
  rw [HM.out]
  have H0 : Hid (Holds (Value.int .u64) w blk off d) := h
  have HS : Hid (w.cell? ⟨s, 0, none⟩ = some (.int .i64 n)) := hs
  clear hr1 hr2 hr3 l1 l2 h hs
  obtain ⟨x1, y1, n1⟩ := r1
  obtain ⟨x2, y2, n2⟩ := r2
  obtain ⟨x3, y3, n3⟩ := r3
  dsimp only at *
  generalize d.size = N at *
  go_enter Try.func132, Try.ntmps132
  go_wp2_with (first
    | (go_at_call 136; refine (HO3.out _ h2 c2 f2).mono ?_; rintro e w3 ⟨rfl, c3, f3, h3, g3⟩)
    | (go_at_call 136; refine (HO2.out _ h1 c1 f1).mono ?_; rintro e w2 ⟨rfl, c2, f2, h2, g2⟩)
    | (go_at_call 136; refine (HO1.out _ H0.out HS.out hfz).mono ?_; rintro e w1 ⟨rfl, c1, f1, h1, g1⟩))
  go_ret
  exact ⟨rfl, c3, f3, h3, (g1.trans g2).trans g3⟩
end Go.Proofs.Ytkmpcheamdadcaa.Srt
namespace Go.Proofs.Ytkmpcheamdadcaa.Srt
open Go.RowKit Go.Sort
set_option linter.unusedVariables false
set_option linter.unusedSimpArgs false
theorem median_lt {d : Array Int} {a b c n N : Nat} (ha : a < N) (hb : b < N) (hc : c < N) : (Sort.median ltInt d a b c n).1 < N ∧ (Sort.median ltInt d a b c n).2 ≤ n + 3 := by
  have l1 := order_lt (d := d) (n := n) ha hb
  have l2 := order_lt (d := d) (n := (Sort.order2 ltInt d a b n).2.2) l1.2.1 hc
  have l3 := order_lt (d := d) (n := (Sort.order2 ltInt d (Sort.order2 ltInt d a b n).2.1 c (Sort.order2 ltInt d a b n).2.2).2.2) l1.1 l2.1
  simp only [Sort.median]
  omega
set_option maxRecDepth 100000 in
set_option maxHeartbeats 2000000 in
theorem medadj_rel (blk off cap a s n : Nat) (d : Array Int) (w : World) (h : Holds (Value.int .u64) w blk off d) (hne : blk ≠ s) (ha0 : 0 < a) (ha : a + 1 < d.size) (hsz : d.size < 2305843009213693952) (hs : w.cell? ⟨s, 0, none⟩ = some (.int .i64 n)) (hfz : w.frozen? ⟨s, 0, none⟩ = false) (hn : n < 50) :
    Calls Try.prog 131 #[.slice (some ⟨blk, off, none⟩) d.size cap, .int .i64 a, .pointer (some ⟨s, 0, none⟩)] w fun e w' =>
      e = .returned (.int .i64 (Sort.medianAdjacent ltInt d a n).1) ∧ w'.cell? ⟨s, 0, none⟩ = some (.int .i64 (Sort.medianAdjacent ltInt d a n).2) ∧ w'.frozen? ⟨s, 0, none⟩ = false ∧ Holds (Value.int .u64) w' blk off d ∧ w.grownBy w' (some s) := by
  obtain ⟨p, rfl⟩ : ∃ p, a = p + 1 := ⟨a - 1, by omega⟩
  have HM := median_rel blk off cap p (p + 1) (p + 1 + 1) s n d w h hne (by omega) (by omega) ha hsz hs hfz hn
  have e : Sort.medianAdjacent ltInt d (p + 1) n = Sort.median ltInt d p (p + 1) (p + 1 + 1) n := rfl
  rw [e]
  generalize Sort.median ltInt d p (p + 1) (p + 1 + 1) n = r at *
  have HH : Hid (Calls Try.prog 132 #[.slice (some ⟨blk, off, none⟩) d.size cap, .int .i64 p, .int .i64 ((p : Int) + 1), .int .i64 ((p : Int) + 1 + 1), .pointer (some ⟨s, 0, none⟩)] w fun e w' =>
      e = .returned (.int .i64 r.1) ∧ w'.cell? ⟨s, 0, none⟩ = some (.int .i64 r.2) ∧ w'.frozen? ⟨s, 0, none⟩ = false ∧ Holds (Value.int .u64) w' blk off d ∧ w.grownBy w' (some s)) := HM
  have hsz2 : p + 1 + 1 < 2305843009213693952 := by omega
  clear HM h hs hfz ha
  generalize d.size = N at *
  go_enter Try.func131, Try.ntmps131
  go_wp2_with (go_at_call 132; refine HH.out.mono ?_; rintro e w1 ⟨rfl, c1, f1, h1, g1⟩)
  go_ret
  exact ⟨rfl, c1, f1, h1, g1⟩
/-- The hints as the program has them. -/
def hintC : Hint → Int
  | .unknown => 0
  | .increasing => 1
  | .decreasing => 2
theorem grown_none {w w' : World} {s : Nat} {o : Obj} (hs : s = w.heap.size) (h : (w.alloc o).grownBy w' (some s)) : Below w.heap.size w w' :=
  ⟨h.os, h.tape, h.output, Nat.le_trans (by simp) h.size, fun k hk => (h.block k (by simp; omega) (by simp; omega)).trans (Below.heap_alloc _ _ _ hk)⟩
set_option maxRecDepth 100000 in
set_option maxHeartbeats 8000000 in
theorem pivot_any (blk off cap a b : Nat) (d : Array Int) (w : World) (h : Holds (Value.int .u64) w blk off d) (hblk : blk < w.heap.size) (hab : a + 12 < b) (hb : b ≤ d.size) (hsz : d.size < 2305843009213693952) :
    Calls Try.prog 115 #[.slice (some ⟨blk, off, none⟩) d.size cap, .int .i64 a, .int .i64 b] w fun e w' => e = .returned (.tuple #[.int .i64 (Sort.choosePivot ltInt d a b).1, .int .i64 (hintC (Sort.choosePivot ltInt d a b).2)]) ∧ Below w.heap.size w w' := by
  obtain ⟨l, hl⟩ : ∃ l, b = a + l := ⟨b - a, by omega⟩
  obtain ⟨q, hq⟩ : ∃ q, l / 4 = q := ⟨_, rfl⟩
  have hq3 : 3 ≤ q := by omega
  have hql : 4 * q ≤ l := by omega
  obtain ⟨i, hi⟩ : ∃ i, i = a + q * 1 := ⟨_, rfl⟩
  obtain ⟨j, hj⟩ : ∃ j, j = a + q * 2 := ⟨_, rfl⟩
  obtain ⟨k, hk⟩ : ∃ k, k = a + q * 3 := ⟨_, rfl⟩
  obtain ⟨ri, hri⟩ : ∃ r, Sort.medianAdjacent ltInt d i 0 = r := ⟨_, rfl⟩
  obtain ⟨rj, hrj⟩ : ∃ r, Sort.medianAdjacent ltInt d j ri.2 = r := ⟨_, rfl⟩
  obtain ⟨rk, hrk⟩ : ∃ r, Sort.medianAdjacent ltInt d k rj.2 = r := ⟨_, rfl⟩
  have li : ri.1 < d.size ∧ ri.2 ≤ 3 := by rw [← hri]; have := median_lt (d := d) (n := 0) (a := i - 1) (b := i) (c := i + 1) (N := d.size) (by omega) (by omega) (by omega); exact ⟨this.1, by simpa [Sort.medianAdjacent] using this.2⟩
  have lj : rj.1 < d.size ∧ rj.2 ≤ 6 := by rw [← hrj]; have := median_lt (d := d) (n := ri.2) (a := j - 1) (b := j) (c := j + 1) (N := d.size) (by omega) (by omega) (by omega); exact ⟨this.1, by have h2 := this.2; simp only [Sort.medianAdjacent]; omega⟩
  have lk : rk.1 < d.size ∧ rk.2 ≤ 9 := by rw [← hrk]; have := median_lt (d := d) (n := rj.2) (a := k - 1) (b := k) (c := k + 1) (N := d.size) (by omega) (by omega) (by omega); exact ⟨this.1, by have h2 := this.2; simp only [Sort.medianAdjacent]; omega⟩
  obtain ⟨R, hR⟩ : ∃ R, (if l ≥ 50 then Sort.median ltInt d ri.1 rj.1 rk.1 rk.2 else Sort.median ltInt d i j k 0) = R := ⟨_, rfl⟩
  have lR : R.2 ≤ 12 := by
    rw [← hR]; split
    · have := median_lt (d := d) (n := rk.2) li.1 lj.1 lk.1; omega
    · have := median_lt (d := d) (n := 0) (a := i) (b := j) (c := k) (N := d.size) (by omega) (by omega) (by omega); omega
  have HCP : Hid (Sort.choosePivot ltInt d a b = (R.1, if R.2 = 0 then .increasing else if R.2 = 12 then .decreasing else .unknown)) := by
    show _ = _
    have e1 : b - a = l := by omega
    have e8 : l ≥ 8 := by omega
    unfold Sort.choosePivot
    simp only [e1, hq, ← hi, ← hj, ← hk, hri, hrj, hrk, if_pos e8, hR]
  have mkH : ∀ W, (w.alloc (.cells #[.int .i64 0] 3)).grownBy W (some w.heap.size) → Holds (Value.int .u64) W blk off d := fun W hg t ht => by
    have hB := grown_none rfl hg
    rw [hB.cell (p := ⟨blk, off + t, none⟩) hblk, hB.frozen (p := ⟨blk, off + t, none⟩) hblk]
    exact h t ht
  have hne : blk ≠ w.heap.size := by omega
  have CI : Hid (∀ W, Holds (Value.int .u64) W blk off d → W.cell? ⟨w.heap.size, 0, none⟩ = some (.int .i64 0) → W.frozen? ⟨w.heap.size, 0, none⟩ = false → Calls Try.prog 131 #[.slice (some ⟨blk, off, none⟩) d.size cap, .int .i64 i, .pointer (some ⟨w.heap.size, 0, none⟩)] W fun e w' => e = .returned (.int .i64 ri.1) ∧ w'.cell? ⟨w.heap.size, 0, none⟩ = some (.int .i64 ri.2) ∧ w'.frozen? ⟨w.heap.size, 0, none⟩ = false ∧ Holds (Value.int .u64) w' blk off d ∧ W.grownBy w' (some w.heap.size)) := fun W h1 h2 h3 => by
    have := medadj_rel blk off cap i w.heap.size 0 d W h1 hne (by omega) (by omega) hsz h2 h3 (by omega); rw [hri] at this; exact this
  have CJ : Hid (∀ W, Holds (Value.int .u64) W blk off d → W.cell? ⟨w.heap.size, 0, none⟩ = some (.int .i64 ri.2) → W.frozen? ⟨w.heap.size, 0, none⟩ = false → Calls Try.prog 131 #[.slice (some ⟨blk, off, none⟩) d.size cap, .int .i64 j, .pointer (some ⟨w.heap.size, 0, none⟩)] W fun e w' => e = .returned (.int .i64 rj.1) ∧ w'.cell? ⟨w.heap.size, 0, none⟩ = some (.int .i64 rj.2) ∧ w'.frozen? ⟨w.heap.size, 0, none⟩ = false ∧ Holds (Value.int .u64) w' blk off d ∧ W.grownBy w' (some w.heap.size)) := fun W h1 h2 h3 => by
    have := medadj_rel blk off cap j w.heap.size ri.2 d W h1 hne (by omega) (by omega) hsz h2 h3 (by omega); rw [hrj] at this; exact this
  have CK : Hid (∀ W, Holds (Value.int .u64) W blk off d → W.cell? ⟨w.heap.size, 0, none⟩ = some (.int .i64 rj.2) → W.frozen? ⟨w.heap.size, 0, none⟩ = false → Calls Try.prog 131 #[.slice (some ⟨blk, off, none⟩) d.size cap, .int .i64 k, .pointer (some ⟨w.heap.size, 0, none⟩)] W fun e w' => e = .returned (.int .i64 rk.1) ∧ w'.cell? ⟨w.heap.size, 0, none⟩ = some (.int .i64 rk.2) ∧ w'.frozen? ⟨w.heap.size, 0, none⟩ = false ∧ Holds (Value.int .u64) w' blk off d ∧ W.grownBy w' (some w.heap.size)) := fun W h1 h2 h3 => by
    have := medadj_rel blk off cap k w.heap.size rj.2 d W h1 hne (by omega) (by omega) hsz h2 h3 (by omega); rw [hrk] at this; exact this
  have CM : Hid (l ≥ 50 → ∀ W, Holds (Value.int .u64) W blk off d → W.cell? ⟨w.heap.size, 0, none⟩ = some (.int .i64 rk.2) → W.frozen? ⟨w.heap.size, 0, none⟩ = false → Calls Try.prog 132 #[.slice (some ⟨blk, off, none⟩) d.size cap, .int .i64 ri.1, .int .i64 rj.1, .int .i64 rk.1, .pointer (some ⟨w.heap.size, 0, none⟩)] W fun e w' => e = .returned (.int .i64 R.1) ∧ w'.cell? ⟨w.heap.size, 0, none⟩ = some (.int .i64 R.2) ∧ w'.frozen? ⟨w.heap.size, 0, none⟩ = false ∧ Holds (Value.int .u64) w' blk off d ∧ W.grownBy w' (some w.heap.size)) := fun h50 W h1 h2 h3 => by
    have := median_rel blk off cap ri.1 rj.1 rk.1 w.heap.size rk.2 d W h1 hne li.1 lj.1 lk.1 hsz h2 h3 (by omega); rw [if_pos h50] at hR; rw [hR] at this; exact this
  have CS : Hid (¬ l ≥ 50 → ∀ W, Holds (Value.int .u64) W blk off d → W.cell? ⟨w.heap.size, 0, none⟩ = some (.int .i64 0) → W.frozen? ⟨w.heap.size, 0, none⟩ = false → Calls Try.prog 132 #[.slice (some ⟨blk, off, none⟩) d.size cap, .int .i64 i, .int .i64 j, .int .i64 k, .pointer (some ⟨w.heap.size, 0, none⟩)] W fun e w' => e = .returned (.int .i64 R.1) ∧ w'.cell? ⟨w.heap.size, 0, none⟩ = some (.int .i64 R.2) ∧ w'.frozen? ⟨w.heap.size, 0, none⟩ = false ∧ Holds (Value.int .u64) w' blk off d ∧ W.grownBy w' (some w.heap.size)) := fun h50 W h1 h2 h3 => by
    have := median_rel blk off cap i j k w.heap.size 0 d W h1 hne (by omega) (by omega) (by omega) hsz h2 h3 (by omega); rw [if_neg h50] at hR; rw [hR] at this; exact this
  rw [HCP.out]
  have HH0 : Hid (Holds (Value.int .u64) (w.alloc (.cells #[.int .i64 0] 3)) blk off d) := mkH _ ⟨rfl, rfl, rfl, Nat.le_refl _, fun _ _ _ => rfl⟩
  have hbx := Boxed.new w 3 (.int .i64 0)
  have c0 := hbx.cell
  have f0 := hbx.frozen
  have e1 : (b : Int) - (a : Int) = (l : Int) := by omega
  have e4 : (l : Int) / 4 = (q : Int) := by omega
  have ei : (a : Int) + (q : Int) = (i : Int) := by omega
  have ej : (a : Int) + (q : Int) * 2 = (j : Int) := by omega
  have ek : (a : Int) + (q : Int) * 3 = (k : Int) := by omega
  have hl8 : (8 : Int) ≤ (l : Int) := by omega
  clear hri hrj hrk li lj lk hR mkH h hq hi hj hk hbx hl hql
  generalize d.size = N at *
  obtain ⟨R1, R2⟩ := R
  obtain ⟨xi, ni⟩ := ri
  obtain ⟨xj, nj⟩ := rj
  obtain ⟨xk, nk⟩ := rk
  dsimp only at *
  have HFIN : Hid (∀ (W : World) (g : (w.alloc (.cells #[.int .i64 0] 3)).grownBy W (some w.heap.size)), Below w.heap.size w W) := fun W g => grown_none rfl g
  obtain ⟨hv, z0, z12, HHV⟩ : ∃ (hv : Int) (z0 z12 : Bool), Hid (hintC (if R2 = 0 then Hint.increasing else if R2 = 12 then Hint.decreasing else Hint.unknown) = hv ∧ ((R2 : Int) == 0) = z0 ∧ ((R2 : Int) == 12) = z12 ∧ hv = if z0 then 1 else if z12 then 2 else 0) := by
    refine ⟨_, _, _, rfl, rfl, rfl, ?_⟩
    by_cases h1 : R2 = 0
    · subst h1; rfl
    · have e1 : ((R2 : Int) == 0) = false := by simp; omega
      rw [if_neg h1, e1]
      by_cases h2 : R2 = 12
      · subst h2; rfl
      · have e2 : ((R2 : Int) == 12) = false := by simp; omega
        rw [if_neg h2, e2]; rfl
  rw [HHV.out.1]
  have hz0 := HHV.out.2.1
  have hz12 := HHV.out.2.2.1
  have HVE : Hid (hv = if z0 then 1 else if z12 then 2 else 0) := HHV.out.2.2.2
  clear HHV lR
  by_cases h50 : l ≥ 50
  · have h50i : (50 : Int) ≤ (l : Int) := by omega
    have CM' := CM.out h50
    have CMH : Hid (∀ W, Holds (Value.int .u64) W blk off d → W.cell? ⟨w.heap.size, 0, none⟩ = some (.int .i64 nk) → W.frozen? ⟨w.heap.size, 0, none⟩ = false → Calls Try.prog 132 #[.slice (some ⟨blk, off, none⟩) N cap, .int .i64 xi, .int .i64 xj, .int .i64 xk, .pointer (some ⟨w.heap.size, 0, none⟩)] W fun e w' => e = .returned (.int .i64 R1) ∧ w'.cell? ⟨w.heap.size, 0, none⟩ = some (.int .i64 R2) ∧ w'.frozen? ⟨w.heap.size, 0, none⟩ = false ∧ Holds (Value.int .u64) w' blk off d ∧ W.grownBy w' (some w.heap.size)) := CM'
    clear CM' CM CS
    cases z0 <;> cases z12
    all_goals
      go_enter Try.func115, Try.ntmps115
      go_wp2_with (first
        | (go_at_call 132; refine (CMH.out _ h3 c3 f3).mono ?_; rintro e w4 ⟨rfl, c4, f4, h4, g4⟩)
        | (go_at_call 131; refine (CK.out _ h2 c2 f2).mono ?_; rintro e w3 ⟨rfl, c3, f3, h3, g3⟩)
        | (go_at_call 131; refine (CJ.out _ h1 c1 f1).mono ?_; rintro e w2 ⟨rfl, c2, f2, h2, g2⟩)
        | (go_at_call 131; refine (CI.out _ HH0.out c0 f0).mono ?_; rintro e w1 ⟨rfl, c1, f1, h1, g1⟩))
      go_ret2
      exact ⟨by rw [HVE.out]; rfl, HFIN.out _ (((g1.trans g2).trans g3).trans g4)⟩
  · have h50i : ¬ (50 : Int) ≤ (l : Int) := by omega
    have CM' := CS.out h50
    have CMH : Hid (∀ W, Holds (Value.int .u64) W blk off d → W.cell? ⟨w.heap.size, 0, none⟩ = some (.int .i64 0) → W.frozen? ⟨w.heap.size, 0, none⟩ = false → Calls Try.prog 132 #[.slice (some ⟨blk, off, none⟩) N cap, .int .i64 i, .int .i64 j, .int .i64 k, .pointer (some ⟨w.heap.size, 0, none⟩)] W fun e w' => e = .returned (.int .i64 R1) ∧ w'.cell? ⟨w.heap.size, 0, none⟩ = some (.int .i64 R2) ∧ w'.frozen? ⟨w.heap.size, 0, none⟩ = false ∧ Holds (Value.int .u64) w' blk off d ∧ W.grownBy w' (some w.heap.size)) := CM'
    clear CM' CM CS
    cases z0 <;> cases z12
    all_goals
      go_enter Try.func115, Try.ntmps115
      go_wp2_with (go_at_call 132; refine (CMH.out _ HH0.out c0 f0).mono ?_; rintro e w4 ⟨rfl, c4, f4, h4, g4⟩)
      go_ret2
      exact ⟨by rw [HVE.out]; rfl, HFIN.out _ g4⟩
end Go.Proofs.Ytkmpcheamdadcaa.Srt
