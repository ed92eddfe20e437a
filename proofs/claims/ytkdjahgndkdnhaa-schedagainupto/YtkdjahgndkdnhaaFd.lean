import Derived.Test.YtkdjahgndkdnhaaRows
import Derived.Test.YtkdjahgndkdnhaaZl
import Derived.Test.YtkdjahgndkdnhaaFr
import Derived.Deep.SlicePairs
import Derived.ProofKit
namespace Go.Proofs.Ytkdjahgndkdnhaa
open Go.RowKit Go.ChangeShapes Go.WideShapes
set_option linter.unusedVariables false
set_option linter.unusedSimpArgs false
theorem i64_of {n : Int} (h : (Lit.int .i64 n).wf = true) : I64 n := by
  unfold I64
  simp [Lit.wf, IntKind.min, IntKind.max, IntKind.signed, IntKind.bits] at h
  omega
theorem bulk_app {H : Type} (a b : List (DataW H)) : Rows.uptoBulkAll (a ++ b) = Rows.uptoBulkAll a + Rows.uptoBulkAll b := by
  induction a with
  | nil => simp [Rows.uptoBulkAll]
  | cons x a ih => simp [Rows.uptoBulkAll, ih]; omega
theorem bulk_range {H : Type} (D : Nat → DataW H) (f : Nat → Nat) : ∀ k, (∀ i, i < k → f i ≤ Rows.uptoBulk (D i)) → sumTo f k ≤ Rows.uptoBulkAll ((List.range k).map D)
  | 0, _ => by simp [sumTo]
  | k + 1, h => by
    have h1 := bulk_range D f k (fun i hi => h i (by omega))
    have h2 := h k (by omega)
    rw [List.range_succ, List.map_append, bulk_app]
    simp only [sumTo, List.map_cons, List.map_nil, Rows.uptoBulkAll]
    omega
theorem sumTo_mono {f : Nat → Nat} : ∀ {k n : Nat}, k ≤ n → sumTo f k ≤ sumTo f n
  | k, 0, h => by obtain rfl : k = 0 := by omega
                  exact Nat.le_refl _
  | k, n + 1, h => by
    by_cases e : k = n + 1
    · rw [e]; exact Nat.le_refl _
    · have := sumTo_mono (f := f) (k := k) (n := n) (by omega)
      simp only [sumTo]
      omega
theorem sumTo_const (c : Nat) : ∀ k, sumTo (fun _ => c) k = c * k
  | 0 => rfl
  | k + 1 => by simp only [sumTo]; rw [sumTo_const c k, Nat.mul_add, Nat.mul_one]
theorem bulk_pos {H : Type} (d : DataW H) : 1 ≤ Rows.uptoBulk d := by
  cases d with
  | lit l => cases l <;> simp [Rows.uptoBulk]
  | _ => simp [Rows.uptoBulk]
/-- A slice of what a task does, as the form reads it. -/
theorem does_open {H : Type} {enc : TypeId × Value → H} {W : World} {held : Bool} {n : Nat} {v : Value} {x : DataW H × List MemPlace} (h : DataW.trod enc Try.prog W 0 (fun _ => true) held n 36 [v] = some x) :
    ∃ l, RdD W v l W.heap.size ∧ (∀ y ∈ l, I64 y.1 ∧ I64 y.2) ∧ l.length ≤ Rows.uptoBulk x.1 ∧ 3 * l.length ≤ Rows.uptoBulk x.1 := by
  rcases Go.Deep.open_slice_pairs Try.underlying36 Try.underlying64 (by kernel_rfl) rfl rfl (by kernel_rfl) (by kernel_rfl) h with ⟨h0, rfl⟩ | ⟨a, len, cap, m, n', V0, V1, D0, D1, P0, P1, hcs, hb, hl, hm, hmm, rfl, hc⟩
  · cases h0
    exact ⟨[], .inl ⟨_, _, rfl, rfl⟩, by simp, by simp, by simp⟩
  · simp only [List.cons.injEq, and_true] at hcs
    subst hcs
    simp only [if_true] at hmm
    subst hmm
    obtain ⟨R, hR⟩ := Go.Deep.choose_lt (α := Int × Int) (n := len) (p := fun i r => W.cell? (a.add (i * 2)) = some (.int .i64 r.1) ∧ W.cell? (a.add (i * 2 + 1)) = some (.int .i64 r.2) ∧ I64 r.1 ∧ I64 r.2) (fun i hi => by
      obtain ⟨c0, c1, t0, t1⟩ := hc i (by omega)
      obtain ⟨x0, e0, _, w0⟩ := DataW.trod_int Try.underlying3 t0
      obtain ⟨x1, e1, _, w1⟩ := DataW.trod_int Try.underlying3 t1
      simp at e0 e1
      rw [e0] at c0
      rw [e1] at c1
      exact ⟨(x0, x1), c0, c1, i64_of w0, i64_of w1⟩)
    have hbulk : 3 * len ≤ Rows.uptoBulkAll ((List.range len).map fun i => (DataW.agg [D0 i, D1 i] : DataW H)) := by
      have := bulk_range (fun i => (DataW.agg [D0 i, D1 i] : DataW H)) (fun _ => 3) len (fun i _ => by
        have h0 := bulk_pos (D0 i)
        have h1 := bulk_pos (D1 i)
        simp only [Rows.uptoBulk, Rows.uptoBulkAll]
        omega)
      rw [sumTo_const] at this
      exact this
    refine ⟨(List.range len).map R, ?_, ?_, ?_, ?_⟩
    · by_cases hz : len = 0
      · subst hz
        exact .inl ⟨_, _, rfl, rfl⟩
      · right
        obtain ⟨b, off, spot⟩ := a
        have hc0 := (hR 0 (by omega)).1
        have hspot : spot = none := by simpa [Addr.add] using World.cell?_spot hc0
        subst hspot
        refine ⟨b, off, m, by simp, ?_, fun j y hy => ?_⟩
        · have := World.block_lt_of_cell? W _ hc0
          rw [add_at] at this
          exact this
        · have hj : j < len := by
            have := (List.getElem?_eq_some_iff.1 hy).1
            simpa using this
          rw [List.getElem?_map, List.getElem?_range hj] at hy
          have hy' : R j = y := by simpa using hy
          subst hy'
          obtain ⟨c0, c1, _⟩ := hR j hj
          rw [add_at] at c0 c1
          exact ⟨c0, by simpa [Nat.add_assoc] using c1⟩
    · intro y hy
      obtain ⟨i, hi, rfl⟩ := List.mem_map.1 hy
      exact (hR i (List.mem_range.1 hi)).2.2
    · simp only [List.length_map, List.length_range, Rows.uptoBulk]
      omega
    · simp only [List.length_map, List.length_range, Rows.uptoBulk]
      omega
/-- The tasks, as the form reads them. -/
theorem tasks_open {H : Type} {enc : TypeId × Value → H} {W : World} {held : Bool} {n : Nat} {v : Value} {x : DataW H × List MemPlace} (h : DataW.trod enc Try.prog W 0 (fun _ => true) held n 22 [v] = some x) (hb : Rows.uptoBulk x.1 ≤ 1048576) :
    ∃ ls, RdDD W v ls W.heap.size ∧ (∀ l ∈ ls, l.length ≤ 600000 ∧ ∀ y ∈ l, I64 y.1 ∧ I64 y.2) ∧ sumTo (fun i => (lsAt ls i).length) (min ls.length 64) ≤ 600000 ∧ ls.length ≤ 2000000 := by
  rcases Go.Deep.open_slice1 Try.underlying22 (by kernel_rfl) h with ⟨h0, rfl⟩ | ⟨a, len, cap, m, n', V, D, Pl, hcs, hba, hl, hm, hmm, rfl, hc⟩
  · cases h0
    exact ⟨[], ⟨none, 0, rfl, fun i l hi => by simp at hi⟩, by simp, by simp [sumTo], by simp⟩
  · simp only [List.cons.injEq, and_true] at hcs
    subst hcs
    simp only [if_true] at hmm
    subst hmm
    obtain ⟨R, hR⟩ := Go.Deep.choose_lt (α := List (Int × Int)) (n := len) (p := fun i l => W.cell? (a.add i) = some (V i) ∧ RdD W (V i) l W.heap.size ∧ (∀ y ∈ l, I64 y.1 ∧ I64 y.2) ∧ l.length ≤ Rows.uptoBulk (D i) ∧ 3 * l.length ≤ Rows.uptoBulk (D i)) (fun i hi => by
      obtain ⟨c0, t0⟩ := hc i (by omega)
      obtain ⟨l, g1, g2, g3, g4⟩ := does_open t0
      exact ⟨l, c0, g1, g2, g3, g4⟩)
    have hbulk : Rows.uptoBulkAll ((List.range len).map D) ≤ 1048576 := by
      simp only [Rows.uptoBulk] at hb
      omega
    have h3 := bulk_range D (fun i => 3 * (R i).length) len (fun i hi => (hR i hi).2.2.2.2)
    have h1 := bulk_range D (fun _ => 1) len (fun i hi => bulk_pos (D i))
    rw [sumTo_const] at h1
    have hat : ∀ i, i < len → lsAt ((List.range len).map R) i = R i := fun i hi => by
      unfold lsAt
      rw [List.getD_eq_getElem?_getD, List.getElem?_map, List.getElem?_range hi]; rfl
    have hall : ∀ k, sumTo (fun i => 3 * (R i).length) k = 3 * sumTo (fun i => (R i).length) k := by
      intro k
      induction k with
      | zero => rfl
      | succ k ih => simp only [sumTo]; rw [ih, Nat.mul_add]
    rw [hall] at h3
    refine ⟨(List.range len).map R, ?_, ?_, ?_, by simp; omega⟩
    · by_cases hz : len = 0
      · subst hz
        exact ⟨some a, m, by simp, fun i l hi => by simp at hi⟩
      · obtain ⟨b, off, spot⟩ := a
        have hc0 := (hR 0 (by omega)).1
        have hspot : spot = none := by simpa [Addr.add] using World.cell?_spot hc0
        subst hspot
        have hlt := World.block_lt_of_cell? W _ hc0
        rw [add_at] at hlt
        refine ⟨some ⟨b, off, none⟩, m, by simp, fun i l hi => ?_⟩
        have hil : i < len := by
          have := (List.getElem?_eq_some_iff.1 hi).1
          simpa using this
        rw [List.getElem?_map, List.getElem?_range hil] at hi
        have hl' : R i = l := by simpa using hi
        subst hl'
        obtain ⟨c0, g1, _⟩ := hR i hil
        rw [add_at] at c0
        exact ⟨b, off, V i, rfl, hlt, c0, g1⟩
    · intro l hl'
      obtain ⟨i, hi, rfl⟩ := List.mem_map.1 hl'
      have hi' := List.mem_range.1 hi
      obtain ⟨_, _, g2, _, _⟩ := hR i hi'
      have := sumTo_ge (f := fun i => (R i).length) len hi'
      exact ⟨by omega, g2⟩
    · rw [sumTo_congr (g := fun i => (R i).length) _ (fun i hi => by rw [hat i (by simp at hi; omega)])]
      have := sumTo_mono (f := fun i => (R i).length) (k := min ((List.range len).map R).length 64) (n := len) (by simp; omega)
      omega
end Go.Proofs.Ytkdjahgndkdnhaa
