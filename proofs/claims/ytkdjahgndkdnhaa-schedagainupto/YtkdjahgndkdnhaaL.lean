import Derived.Test.YtkdjahgndkdnhaaK
import Derived.Laws.MakeOwn
namespace Go.Proofs.Ytkdjahgndkdnhaa
open Go.RowKit Go.Maps
set_option linter.unusedVariables false
set_option linter.unusedSimpArgs false
/-- A slice of bytes that came in and reads as l. -/
def Arg (w : World) (a : Option Addr) (len cap : Nat) (l : List Int) : Prop :=
  l.length = len ∧ (∀ n ∈ l, 0 ≤ n ∧ n < 256) ∧ len ≤ 140737488351232 ∧
  (l = [] ∨ ∃ b off, a = some ⟨b, off, none⟩ ∧ b < w.heap.size ∧ ∀ j, (h : j < l.length) → w.cell? ⟨b, off + j, none⟩ = some (.int .u8 l[j]))
theorem Arg.below {w w' : World} {a : Option Addr} {len cap : Nat} {l : List Int} (h : Arg w a len cap l) (hb : Below w.heap.size w w') : Arg w' a len cap l := by
  obtain ⟨h1, h2, h3, h4⟩ := h
  refine ⟨h1, h2, h3, ?_⟩
  rcases h4 with h4 | ⟨b, off, ha, hlt, hc⟩
  · exact .inl h4
  · refine .inr ⟨b, off, ha, Nat.lt_of_lt_of_le hlt hb.size, fun j hj => ?_⟩
    rw [hb.cell (p := ⟨b, off + j, none⟩) hlt]; exact hc j hj
theorem Arg.at {w : World} {a : Option Addr} {len cap : Nat} {l : List Int} (h : Arg w a len cap l) {j : Nat} (hj : j < len) : ∃ b off x, a = some ⟨b, off, none⟩ ∧ b < w.heap.size ∧ l[j]? = some (x : Int) ∧ 0 ≤ x ∧ x < 256 ∧ w.cell? ⟨b, off + j, none⟩ = some (.int .u8 x) := by
  obtain ⟨rfl, h2, h3, h4⟩ := h
  rcases h4 with rfl | ⟨b, off, rfl, hlt, hc⟩
  · simp at hj
  · exact ⟨b, off, l[j], rfl, hlt, List.getElem?_eq_getElem hj, (h2 _ (List.getElem_mem hj)).1, (h2 _ (List.getElem_mem hj)).2, hc j hj⟩
theorem made_ints (n : Nat) : madeCells (Value.int .i64 0).cells (n * 1) = (ic (List.replicate n 0)).toArray := by
  apply Array.ext
  · simp [madeCells, ic]
  · intro i h1 h2
    simp [madeCells, ic, Value.cells, Nat.mod_one]
theorem mk_ints (W : World) (n : Nat) (h : n ≤ 64) : (Instr.makeSlice 30 (.int .i64 n) (.int .i64 n)).run Try.prog W = .ok (.slice (some ⟨W.heap.size, 0, none⟩) n n) (W.alloc (.cells (ic (List.replicate n 0)).toArray 3)) := by
  obtain ⟨i0, hi, hz0, hz1, hz2⟩ := info_parts info3
  have := run_make (P := Try.prog) W 30 3 i0 (.int .i64 0) Try.underlying30 hi hz0 .i64 .i64 n n (by omega) (by omega) (by rw [hz2]; omega) (by omega)
  rw [this, hz1, Int.toNat_natCast, made_ints]
theorem nums_congr {q q' : Tk → Bool} {i : Nat} {l : List Tk} (h : ∀ t ∈ l, q t = q' t) : nums q i l = nums q' i l := by
  induction l generalizing i with
  | nil => rfl
  | cons t l ih =>
    simp only [nums]
    rw [h t (by simp), ih (fun t ht => h t (List.mem_cons_of_mem _ ht))]
def tq (t : Tk) : Bool := t.kind == 0
theorem tu_nums {dB : Nat} {X E : Nat → Nat} {es did sn : List Nat} {n st : Nat} : nums (mayB (fun _ => none) st) 0 (tuT dB X E es did sn n) = nums tq 0 (tuT dB X E es did sn n) := by
  apply nums_congr
  intro t ht
  simp only [tuT, List.mem_map] at ht
  obtain ⟨i, _, rfl⟩ := ht
  rw [may_tu]
  unfold tq tuK
  by_cases h : nth es i < nth did i
  · simp [h]
  · simp [h]; omega
/-- Tasks of SchedTurns, as they are taken in. -/
structure SpT (w W : World) (b : Nat) (rv : Value) (m : Nat) (ps : List Nat) (ts : List Tk) (X E : Nat → Nat) (es : List Nat) (k n dB D : Nat) : Prop where
  sc : Sc W b rv m ps ts (fun _ => none) 0 false 0
  len : ps.length = k
  tsk : ts = tuT dB X E es (List.replicate n 0) (List.replicate n 0) k
  hb : Blk W dB 30 [.slice (some ⟨D, 0, none⟩) n n]
  hD : Blk W D 3 (ic (List.replicate n 0))
  hX : ∀ i, i < k → Blk W (X i) 3 [.int .i64 i]
  hE : ∀ i, i < k → Blk W (E i) 3 [.int .i64 (nth es i : Nat)]
  new : ∀ i, i < k → D < X i ∧ D < E i
  old : w.heap.size ≤ D
  olds : ∀ j, SB b rv m ps j → w.heap.size ≤ j
  bel : Below w.heap.size w W
theorem nth_rep (n i : Nat) : nth (List.replicate n 0) i = 0 := by
  unfold nth
  rw [List.getD_eq_getElem?_getD, List.getElem?_replicate]
  split <;> rfl
theorem SpT.step {w W W2 : World} {b : Nat} {rv rv' : Value} {m : Nat} {ps : List Nat} {ts : List Tk} {X E : Nat → Nat} {es : List Nat} {k n dB D : Nat} (h : SpT w W b rv m ps ts X E es k n dB D)
    (hs : Sc W2 b rv' m (ps ++ [W.heap.size + 1 + 1]) (ts ++ [⟨tName, .func (.func 26) #[] #[ptr dB, ptr (W.heap.size + 1), ptr W.heap.size], 0, 0, 0, false⟩]) (fun _ => none) 0 false 0)
    (hu : Upd (fun j => j = b ∨ rv.ownBlock = some j) ((W.alloc (.cells #[.int .i64 (nth es k : Nat)] 3)).alloc (.cells #[.int .i64 k] 3)) W2) (hloc : rv'.ownBlock = rv.ownBlock ∨ ∀ j, rv'.ownBlock = some j → W.heap.size + 1 + 1 ≤ j) :
    SpT w W2 b rv' m (ps ++ [W.heap.size + 1 + 1]) (ts ++ [⟨tName, .func (.func 26) #[] #[ptr dB, ptr (W.heap.size + 1), ptr W.heap.size], 0, 0, 0, false⟩]) (fun n => if n < k then X n else W.heap.size + 1) (fun n => if n < k then E n else W.heap.size) es (k + 1) n dB D := by
  have B0 := (Blk.new W 3 [.int .i64 (nth es k : Nat)]).alloc (.cells #[.int .i64 k] 3)
  have B1 := Blk.new (W.alloc (.cells #[.int .i64 (nth es k : Nat)] 3)) 3 [.int .i64 k]
  rw [World.size_alloc] at B1
  have hsz := h.bel.size
  have nS : ∀ (j : Nat) (t : TypeId) (cs : List Value), Blk W j t cs → t ≠ 71 → t ≠ 83 → Blk W2 j t cs := by
    intro j t cs hB h1 h2
    refine ((hB.alloc _).alloc _).upd hu ?_
    rintro (e | e)
    · exact hB.ne h.sc.blk h1 e
    · exact row_ne h.sc.row hB h2.symm j e rfl
  have lr : ∀ j, rv.ownBlock = some j → j < W.heap.size := fun j hj => h.sc.sb_lt j (.inr (.inl hj))
  have lb := h.sc.blk.lt
  have lD := h.hD.lt
  refine ⟨hs, by simp [h.len], ?_, nS _ _ _ h.hb (by decide) (by decide), nS _ _ _ h.hD (by decide) (by decide), ?_, ?_, ?_, h.old, ?_, ?_⟩
  · unfold tuT
    rw [List.range_succ, List.map_append, h.tsk]
    unfold tuT
    congr 1
    · apply List.map_congr_left
      intro i hi
      have : i < k := by simpa using hi
      simp [tuK, this]
    · simp [tuK, nth_rep]
  · intro i hi
    by_cases e : i < k
    · simp only [e, if_true]
      exact nS _ _ _ (h.hX i e) (by decide) (by decide)
    · have : i = k := by omega
      subst this
      simp only [e, if_false]
      exact B1.upd hu (by rintro (e | e); · omega
                          · have := lr _ e; omega)
  · intro i hi
    by_cases e : i < k
    · simp only [e, if_true]
      exact nS _ _ _ (h.hE i e) (by decide) (by decide)
    · have : i = k := by omega
      subst this
      simp only [e, if_false]
      exact B0.upd hu (by rintro (e | e); · omega
                          · have := lr _ e; omega)
  · intro i hi
    by_cases e : i < k
    · simp only [e, if_true]; exact h.new i e
    · simp only [e, if_false]; omega
  · rintro j (rfl | e | rfl | e)
    · exact h.olds _ (.inl rfl)
    · rcases hloc with hl | hl
      · rw [hl] at e; exact h.olds j (.inr (.inl e))
      · have := hl j e; omega
    · exact h.olds _ (.inr (.inr (.inl rfl)))
    · rcases List.mem_append.1 e with e | e
      · exact h.olds j (.inr (.inr (.inr e)))
      · simp at e; omega
  · refine ((h.bel.alloc hsz _).alloc (by rw [World.size_alloc]; omega) _).trans ⟨hu.os, hu.tape, hu.output, hu.size, fun j hj => hu.block j (by simp; omega) ?_⟩
    rintro (e | e)
    · have := h.olds b (.inl rfl); omega
    · have := h.olds j (.inr (.inl e)); omega
end Go.Proofs.Ytkdjahgndkdnhaa
