/-
  The sort at uint32: medianAdjacent, choosePivot.
-/
import Derived.Test.YtkpijoogaicodaaHg
import Derived.Deep.CutBlock
namespace Go.Proofs.Ytkpijoogaicodaa
open Go.RowKit Go.Sort
set_option linter.unusedVariables false
set_option linter.unusedSimpArgs false
theorem median_lt {d : Array Int} {a b c n N : Nat} (ha : a < N) (hb : b < N) (hc : c < N) : (Sort.median ltInt d a b c n).1 < N ∧ (Sort.median ltInt d a b c n).2 ≤ n + 3 := by
  have l1 := order_lt (d := d) (n := n) ha hb
  have l2 := order_lt (d := d) (n := (Sort.order2 ltInt d a b n).2.2) l1.2.1 hc
  have l3 := order_lt (d := d) (n := (Sort.order2 ltInt d (Sort.order2 ltInt d a b n).2.1 c (Sort.order2 ltInt d a b n).2.2).2.2) l1.1 l2.1
  simp only [Sort.median]
  omega
set_option maxRecDepth 100000 in
set_option maxHeartbeats 2000000 in
theorem medadj_rel (blk off cap a s n : Nat) (d : Array Int) (w : World) (h : Holds (Value.int .u32) w blk off d) (hne : blk ≠ s) (ha0 : 0 < a) (ha : a + 1 < d.size) (hsz : d.size < 2305843009213693952) (hs : w.cell? ⟨s, 0, none⟩ = some (.int .i64 n)) (hfz : w.frozen? ⟨s, 0, none⟩ = false) (hn : n < 50) :
    Calls Try.prog 97 #[.slice (some ⟨blk, off, none⟩) d.size cap, .int .i64 a, .pointer (some ⟨s, 0, none⟩)] w fun e w' =>
      e = .returned (.int .i64 (Sort.medianAdjacent ltInt d a n).1) ∧ w'.cell? ⟨s, 0, none⟩ = some (.int .i64 (Sort.medianAdjacent ltInt d a n).2) ∧ w'.frozen? ⟨s, 0, none⟩ = false ∧ Holds (Value.int .u32) w' blk off d ∧ w.grownBy w' (some s) := by
  obtain ⟨p, rfl⟩ : ∃ p, a = p + 1 := ⟨a - 1, by omega⟩
  have HM := median_rel blk off cap p (p + 1) (p + 1 + 1) s n d w h hne (by omega) (by omega) ha hsz hs hfz hn
  have e : Sort.medianAdjacent ltInt d (p + 1) n = Sort.median ltInt d p (p + 1) (p + 1 + 1) n := rfl
  rw [e]
  generalize Sort.median ltInt d p (p + 1) (p + 1 + 1) n = r at *
  have HH : Hid (Calls Try.prog 98 #[.slice (some ⟨blk, off, none⟩) d.size cap, .int .i64 p, .int .i64 ((p : Int) + 1), .int .i64 ((p : Int) + 1 + 1), .pointer (some ⟨s, 0, none⟩)] w fun e w' =>
      e = .returned (.int .i64 r.1) ∧ w'.cell? ⟨s, 0, none⟩ = some (.int .i64 r.2) ∧ w'.frozen? ⟨s, 0, none⟩ = false ∧ Holds (Value.int .u32) w' blk off d ∧ w.grownBy w' (some s)) := HM
  have hsz2 : p + 1 + 1 < 2305843009213693952 := by omega
  clear HM h hs hfz ha
  generalize d.size = N at *
  go_enter Try.func97, Try.ntmps97
  go_wp2_with (go_at_call 98; refine HH.out.mono ?_; rintro e w1 ⟨rfl, c1, f1, h1, g1⟩)
  go_ret
  exact ⟨rfl, c1, f1, h1, g1⟩
/-- The hints as the program has them. -/
def hintC : Hint → Int
  | .unknown => 0
  | .increasing => 1
  | .decreasing => 2
theorem grown_none {w w' : World} {s : Nat} {o : Obj} (hs : s = w.heap.size) (h : (w.alloc o).grownBy w' (some s)) : Below w.heap.size w w' :=
  ⟨h.os, h.tape, h.output, Nat.le_trans (by simp) h.size, fun k hk => (h.block k (by simp; omega) (by simp; omega)).trans (Below.heap_alloc _ _ _ hk)⟩
set_option maxRecDepth 100000 in
set_option maxHeartbeats 8000000 in
theorem pivot_any (blk off cap a b : Nat) (d : Array Int) (w : World) (h : Holds (Value.int .u32) w blk off d) (hblk : blk < w.heap.size) (hab : a + 12 < b) (hb : b ≤ d.size) (hsz : d.size < 2305843009213693952) :
    Calls Try.prog 85 #[.slice (some ⟨blk, off, none⟩) d.size cap, .int .i64 a, .int .i64 b] w fun e w' => e = .returned (.tuple #[.int .i64 (Sort.choosePivot ltInt d a b).1, .int .i64 (hintC (Sort.choosePivot ltInt d a b).2)]) ∧ Below w.heap.size w w' := by
  obtain ⟨l, hl⟩ : ∃ l, b = a + l := ⟨b - a, by omega⟩
  obtain ⟨q, hq⟩ : ∃ q, l / 4 = q := ⟨_, rfl⟩
  have hq3 : 3 ≤ q := by omega
  have hql : 4 * q ≤ l := by omega
  obtain ⟨i, hi⟩ : ∃ i, i = a + q * 1 := ⟨_, rfl⟩
  obtain ⟨j, hj⟩ : ∃ j, j = a + q * 2 := ⟨_, rfl⟩
  obtain ⟨k, hk⟩ : ∃ k, k = a + q * 3 := ⟨_, rfl⟩
  obtain ⟨ri, hri⟩ : ∃ r, Sort.medianAdjacent ltInt d i 0 = r := ⟨_, rfl⟩
  obtain ⟨rj, hrj⟩ : ∃ r, Sort.medianAdjacent ltInt d j ri.2 = r := ⟨_, rfl⟩
  obtain ⟨rk, hrk⟩ : ∃ r, Sort.medianAdjacent ltInt d k rj.2 = r := ⟨_, rfl⟩
  have li : ri.1 < d.size ∧ ri.2 ≤ 3 := by rw [← hri]; have := median_lt (d := d) (n := 0) (a := i - 1) (b := i) (c := i + 1) (N := d.size) (by omega) (by omega) (by omega); exact ⟨this.1, by simpa [Sort.medianAdjacent] using this.2⟩
  have lj : rj.1 < d.size ∧ rj.2 ≤ 6 := by rw [← hrj]; have := median_lt (d := d) (n := ri.2) (a := j - 1) (b := j) (c := j + 1) (N := d.size) (by omega) (by omega) (by omega); exact ⟨this.1, by have h2 := this.2; simp only [Sort.medianAdjacent]; omega⟩
  have lk : rk.1 < d.size ∧ rk.2 ≤ 9 := by rw [← hrk]; have := median_lt (d := d) (n := rj.2) (a := k - 1) (b := k) (c := k + 1) (N := d.size) (by omega) (by omega) (by omega); exact ⟨this.1, by have h2 := this.2; simp only [Sort.medianAdjacent]; omega⟩
  obtain ⟨R, hR⟩ : ∃ R, (if l ≥ 50 then Sort.median ltInt d ri.1 rj.1 rk.1 rk.2 else Sort.median ltInt d i j k 0) = R := ⟨_, rfl⟩
  have lR : R.2 ≤ 12 := by
    rw [← hR]; split
    · have := median_lt (d := d) (n := rk.2) li.1 lj.1 lk.1; omega
    · have := median_lt (d := d) (n := 0) (a := i) (b := j) (c := k) (N := d.size) (by omega) (by omega) (by omega); omega
  have HCP : Hid (Sort.choosePivot ltInt d a b = (R.1, if R.2 = 0 then .increasing else if R.2 = 12 then .decreasing else .unknown)) := by
    show _ = _
    have e1 : b - a = l := by omega
    have e8 : l ≥ 8 := by omega
    unfold Sort.choosePivot
    simp only [e1, hq, ← hi, ← hj, ← hk, hri, hrj, hrk, if_pos e8, hR]
  have mkH : ∀ W, (w.alloc (.cells #[.int .i64 0] 3)).grownBy W (some w.heap.size) → Holds (Value.int .u32) W blk off d := fun W hg t ht => by
    have hB := grown_none rfl hg
    rw [hB.cell (p := ⟨blk, off + t, none⟩) hblk, hB.frozen (p := ⟨blk, off + t, none⟩) hblk]
    exact h t ht
  have hne : blk ≠ w.heap.size := by omega
  have CI : Hid (∀ W, Holds (Value.int .u32) W blk off d → W.cell? ⟨w.heap.size, 0, none⟩ = some (.int .i64 0) → W.frozen? ⟨w.heap.size, 0, none⟩ = false → Calls Try.prog 97 #[.slice (some ⟨blk, off, none⟩) d.size cap, .int .i64 i, .pointer (some ⟨w.heap.size, 0, none⟩)] W fun e w' => e = .returned (.int .i64 ri.1) ∧ w'.cell? ⟨w.heap.size, 0, none⟩ = some (.int .i64 ri.2) ∧ w'.frozen? ⟨w.heap.size, 0, none⟩ = false ∧ Holds (Value.int .u32) w' blk off d ∧ W.grownBy w' (some w.heap.size)) := fun W h1 h2 h3 => by
    have := medadj_rel blk off cap i w.heap.size 0 d W h1 hne (by omega) (by omega) hsz h2 h3 (by omega); rw [hri] at this; exact this
  have CJ : Hid (∀ W, Holds (Value.int .u32) W blk off d → W.cell? ⟨w.heap.size, 0, none⟩ = some (.int .i64 ri.2) → W.frozen? ⟨w.heap.size, 0, none⟩ = false → Calls Try.prog 97 #[.slice (some ⟨blk, off, none⟩) d.size cap, .int .i64 j, .pointer (some ⟨w.heap.size, 0, none⟩)] W fun e w' => e = .returned (.int .i64 rj.1) ∧ w'.cell? ⟨w.heap.size, 0, none⟩ = some (.int .i64 rj.2) ∧ w'.frozen? ⟨w.heap.size, 0, none⟩ = false ∧ Holds (Value.int .u32) w' blk off d ∧ W.grownBy w' (some w.heap.size)) := fun W h1 h2 h3 => by
    have := medadj_rel blk off cap j w.heap.size ri.2 d W h1 hne (by omega) (by omega) hsz h2 h3 (by omega); rw [hrj] at this; exact this
  have CK : Hid (∀ W, Holds (Value.int .u32) W blk off d → W.cell? ⟨w.heap.size, 0, none⟩ = some (.int .i64 rj.2) → W.frozen? ⟨w.heap.size, 0, none⟩ = false → Calls Try.prog 97 #[.slice (some ⟨blk, off, none⟩) d.size cap, .int .i64 k, .pointer (some ⟨w.heap.size, 0, none⟩)] W fun e w' => e = .returned (.int .i64 rk.1) ∧ w'.cell? ⟨w.heap.size, 0, none⟩ = some (.int .i64 rk.2) ∧ w'.frozen? ⟨w.heap.size, 0, none⟩ = false ∧ Holds (Value.int .u32) w' blk off d ∧ W.grownBy w' (some w.heap.size)) := fun W h1 h2 h3 => by
    have := medadj_rel blk off cap k w.heap.size rj.2 d W h1 hne (by omega) (by omega) hsz h2 h3 (by omega); rw [hrk] at this; exact this
  have CM : Hid (l ≥ 50 → ∀ W, Holds (Value.int .u32) W blk off d → W.cell? ⟨w.heap.size, 0, none⟩ = some (.int .i64 rk.2) → W.frozen? ⟨w.heap.size, 0, none⟩ = false → Calls Try.prog 98 #[.slice (some ⟨blk, off, none⟩) d.size cap, .int .i64 ri.1, .int .i64 rj.1, .int .i64 rk.1, .pointer (some ⟨w.heap.size, 0, none⟩)] W fun e w' => e = .returned (.int .i64 R.1) ∧ w'.cell? ⟨w.heap.size, 0, none⟩ = some (.int .i64 R.2) ∧ w'.frozen? ⟨w.heap.size, 0, none⟩ = false ∧ Holds (Value.int .u32) w' blk off d ∧ W.grownBy w' (some w.heap.size)) := fun h50 W h1 h2 h3 => by
    have := median_rel blk off cap ri.1 rj.1 rk.1 w.heap.size rk.2 d W h1 hne li.1 lj.1 lk.1 hsz h2 h3 (by omega); rw [if_pos h50] at hR; rw [hR] at this; exact this
  have CS : Hid (¬ l ≥ 50 → ∀ W, Holds (Value.int .u32) W blk off d → W.cell? ⟨w.heap.size, 0, none⟩ = some (.int .i64 0) → W.frozen? ⟨w.heap.size, 0, none⟩ = false → Calls Try.prog 98 #[.slice (some ⟨blk, off, none⟩) d.size cap, .int .i64 i, .int .i64 j, .int .i64 k, .pointer (some ⟨w.heap.size, 0, none⟩)] W fun e w' => e = .returned (.int .i64 R.1) ∧ w'.cell? ⟨w.heap.size, 0, none⟩ = some (.int .i64 R.2) ∧ w'.frozen? ⟨w.heap.size, 0, none⟩ = false ∧ Holds (Value.int .u32) w' blk off d ∧ W.grownBy w' (some w.heap.size)) := fun h50 W h1 h2 h3 => by
    have := median_rel blk off cap i j k w.heap.size 0 d W h1 hne (by omega) (by omega) (by omega) hsz h2 h3 (by omega); rw [if_neg h50] at hR; rw [hR] at this; exact this
  rw [HCP.out]
  have HH0 : Hid (Holds (Value.int .u32) (w.alloc (.cells #[.int .i64 0] 3)) blk off d) := mkH _ ⟨rfl, rfl, rfl, Nat.le_refl _, fun _ _ _ => rfl⟩
  have hbx := Boxed.new w 3 (.int .i64 0)
  have c0 := hbx.cell
  have f0 := hbx.frozen
  have e1 : (b : Int) - (a : Int) = (l : Int) := by omega
  have e4 : (l : Int) / 4 = (q : Int) := by omega
  have ei : (a : Int) + (q : Int) = (i : Int) := by omega
  have ej : (a : Int) + (q : Int) * 2 = (j : Int) := by omega
  have ek : (a : Int) + (q : Int) * 3 = (k : Int) := by omega
  have hl8 : (8 : Int) ≤ (l : Int) := by omega
  clear hri hrj hrk li lj lk hR mkH h hq hi hj hk hbx hl hql
  generalize d.size = N at *
  obtain ⟨R1, R2⟩ := R
  obtain ⟨xi, ni⟩ := ri
  obtain ⟨xj, nj⟩ := rj
  obtain ⟨xk, nk⟩ := rk
  dsimp only at *
  have HFIN : Hid (∀ (W : World) (g : (w.alloc (.cells #[.int .i64 0] 3)).grownBy W (some w.heap.size)), Below w.heap.size w W) := fun W g => grown_none rfl g
  obtain ⟨hv, z0, z12, HHV⟩ : ∃ (hv : Int) (z0 z12 : Bool), Hid (hintC (if R2 = 0 then Hint.increasing else if R2 = 12 then Hint.decreasing else Hint.unknown) = hv ∧ ((R2 : Int) == 0) = z0 ∧ ((R2 : Int) == 12) = z12 ∧ hv = if z0 then 1 else if z12 then 2 else 0) := by
    refine ⟨_, _, _, rfl, rfl, rfl, ?_⟩
    by_cases h1 : R2 = 0
    · subst h1; rfl
    · have e1 : ((R2 : Int) == 0) = false := by simp; omega
      rw [if_neg h1, e1]
      by_cases h2 : R2 = 12
      · subst h2; rfl
      · have e2 : ((R2 : Int) == 12) = false := by simp; omega
        rw [if_neg h2, e2]; rfl
  rw [HHV.out.1]
  have hz0 := HHV.out.2.1
  have hz12 := HHV.out.2.2.1
  have HVE : Hid (hv = if z0 then 1 else if z12 then 2 else 0) := HHV.out.2.2.2
  clear HHV lR
  by_cases h50 : l ≥ 50
  · have h50i : (50 : Int) ≤ (l : Int) := by omega
    have CM' := CM.out h50
    have CMH : Hid (∀ W, Holds (Value.int .u32) W blk off d → W.cell? ⟨w.heap.size, 0, none⟩ = some (.int .i64 nk) → W.frozen? ⟨w.heap.size, 0, none⟩ = false → Calls Try.prog 98 #[.slice (some ⟨blk, off, none⟩) N cap, .int .i64 xi, .int .i64 xj, .int .i64 xk, .pointer (some ⟨w.heap.size, 0, none⟩)] W fun e w' => e = .returned (.int .i64 R1) ∧ w'.cell? ⟨w.heap.size, 0, none⟩ = some (.int .i64 R2) ∧ w'.frozen? ⟨w.heap.size, 0, none⟩ = false ∧ Holds (Value.int .u32) w' blk off d ∧ W.grownBy w' (some w.heap.size)) := CM'
    clear CM' CM CS
    cases z0 <;> cases z12
    all_goals
      go_enter Try.func85, Try.ntmps85
      go_wp2_with (first
        | (go_at_call 98; refine (CMH.out _ h3 c3 f3).mono ?_; rintro e w4 ⟨rfl, c4, f4, h4, g4⟩)
        | (go_at_call 97; refine (CK.out _ h2 c2 f2).mono ?_; rintro e w3 ⟨rfl, c3, f3, h3, g3⟩)
        | (go_at_call 97; refine (CJ.out _ h1 c1 f1).mono ?_; rintro e w2 ⟨rfl, c2, f2, h2, g2⟩)
        | (go_at_call 97; refine (CI.out _ HH0.out c0 f0).mono ?_; rintro e w1 ⟨rfl, c1, f1, h1, g1⟩))
      go_ret2
      exact ⟨by rw [HVE.out]; rfl, HFIN.out _ (((g1.trans g2).trans g3).trans g4)⟩
  · have h50i : ¬ (50 : Int) ≤ (l : Int) := by omega
    have CM' := CS.out h50
    have CMH : Hid (∀ W, Holds (Value.int .u32) W blk off d → W.cell? ⟨w.heap.size, 0, none⟩ = some (.int .i64 0) → W.frozen? ⟨w.heap.size, 0, none⟩ = false → Calls Try.prog 98 #[.slice (some ⟨blk, off, none⟩) N cap, .int .i64 i, .int .i64 j, .int .i64 k, .pointer (some ⟨w.heap.size, 0, none⟩)] W fun e w' => e = .returned (.int .i64 R1) ∧ w'.cell? ⟨w.heap.size, 0, none⟩ = some (.int .i64 R2) ∧ w'.frozen? ⟨w.heap.size, 0, none⟩ = false ∧ Holds (Value.int .u32) w' blk off d ∧ W.grownBy w' (some w.heap.size)) := CM'
    clear CM' CM CS
    cases z0 <;> cases z12
    all_goals
      go_enter Try.func85, Try.ntmps85
      go_wp2_with (go_at_call 98; refine (CMH.out _ HH0.out c0 f0).mono ?_; rintro e w4 ⟨rfl, c4, f4, h4, g4⟩)
      go_ret2
      exact ⟨by rw [HVE.out]; rfl, HFIN.out _ g4⟩
end Go.Proofs.Ytkpijoogaicodaa
