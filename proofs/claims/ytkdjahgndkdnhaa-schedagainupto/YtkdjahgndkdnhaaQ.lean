import Derived.Test.YtkdjahgndkdnhaaP
import Derived.Deep.DeepCutAuto
namespace Go.Proofs.Ytkdjahgndkdnhaa
open Go.RowKit Go.Maps Go.Shelf
set_option linter.unusedVariables false
set_option linter.unusedSimpArgs false
/-- The step of a task whose variables lie at q. -/
def clo (q : Nat) : Value := .func (.func 51) #[] #[ptr q, ptr (q + 1 + 1 + 1), ptr (q + 1 + 1), ptr (q + 1)]
def wst (w : World) (xb n : Nat) (lv : Value) : World := (((w.alloc (.cells #[ptr xb] 24)).alloc (.cells #[.int .i64 n] 3)).alloc (.cells #[lv] 36)).alloc (.cells #[.int .i64 0] 3)
set_option maxRecDepth 100000 in
set_option maxHeartbeats 800000 in
theorem step_any (w : World) (xb n : Nat) (a : Option Addr) (len cap : Nat) : Calls Try.prog 27 #[ptr xb, .int .i64 n, .slice a len cap] w fun e w' => e = .returned (clo w.heap.size) ∧ w' = wst w xb n (.slice a len cap) := by
  have hmf : ∀ (fn : Fn) (first cap : Array Value) (w : World), (Instr.makeFunc fn first cap).run Try.prog w = .ok (.func fn first cap) w := fun _ _ _ _ => rfl
  go_enter Try.func27, Try.ntmps27
  go_wp2
  go_ret
  exact ⟨rfl, rfl⟩
/-- Slices of what tasks do. -/
def RdDD (w : World) (v : Value) (ls : List (List (Int × Int))) (N : Nat) : Prop :=
  ∃ a cap, v = .slice a ls.length cap ∧ ∀ i l, ls[i]? = some l → ∃ B off lv, a = some ⟨B, off, none⟩ ∧ B < N ∧ w.cell? ⟨B, off + i, none⟩ = some lv ∧ RdD w lv l N
def lsAt (ls : List (List (Int × Int))) (i : Nat) : List (Int × Int) := ls.getD i []
/-- A pair whose tasks stand between two steps. -/
structure Ps (w W : World) (b : Nat) (rv : Value) (m : Nat) (ps : List Nat) (ts : List Tk) (H : Int → Option Int) (st c xb : Nat) (dv tv : Value) (T : List Int) (M : Nat) (q : Nat → Nat) (lv : Nat → Value) (ls : Nat → List (Int × Int)) (at_ : Nat → Nat) (n : Nat) : Prop where
  sc : Sc W b rv m ps ts H st false c
  pr : Pr W xb b dv tv T M
  bx : ∀ i, i < n → Bx W (q i) (q i + 1 + 1 + 1) (q i + 1 + 1) (q i + 1) xb (at_ i) (lv i) i
  rd : ∀ i, i < n → RdD W (lv i) (ls i) w.heap.size
  qq : ∀ i j, i < j → j < n → q i + 4 ≤ q j
  qo : ∀ i, i < n → w.heap.size ≤ q i ∧ q i + 4 ≤ M
  nm : w.heap.size ≤ M
  hm : M ≤ W.heap.size
  ox : w.heap.size ≤ xb
  olds : ∀ k, SB b rv m ps k → w.heap.size ≤ k
  lps : ps.length = n
  bel : Below w.heap.size w W
def tk0 (q : Nat → Nat) (i : Nat) : Tk := ⟨tName, clo (q i), 0, 0, 0, false⟩
/-- Tasks are taken in. -/
structure Bg (w W : World) (b : Nat) (rv : Value) (m : Nat) (ps : List Nat) (ts : List Tk) (xb : Nat) (dv : Value) (q : Nat → Nat) (lv : Nat → Value) (ls : List (List (Int × Int))) (k : Nat) : Prop where
  sc : Sc W b rv m ps ts (fun _ => none) 0 false 0
  pr : Blk W xb 34 [ptr b, dv, .slice none 0 0, .bool false]
  bx : ∀ i, i < k → Bx W (q i) (q i + 1 + 1 + 1) (q i + 1 + 1) (q i + 1) xb 0 (lv i) i
  rd : ∀ i, i < k → RdD W (lv i) (lsAt ls i) w.heap.size
  qq : ∀ i j, i < j → j < k → q i + 4 ≤ q j
  qo : ∀ i, i < k → w.heap.size ≤ q i ∧ q i + 4 ≤ W.heap.size
  ox : w.heap.size ≤ xb
  olds : ∀ k, SB b rv m ps k → w.heap.size ≤ k
  lps : ps.length = k
  tsk : ts = (List.range k).map (tk0 q)
  bel : Below w.heap.size w W
theorem Bg.step {w W W2 : World} {b : Nat} {rv rv' : Value} {m : Nat} {ps : List Nat} {ts : List Tk} {xb : Nat} {dv : Value} {q : Nat → Nat} {lv : Nat → Value} {ls : List (List (Int × Int))} {k : Nat} (h : Bg w W b rv m ps ts xb dv q lv ls k) {W1 : World} (hd : Below W.heap.size W W1) (hds : W1.heap.size = W.heap.size) {v : Value} {l : List (Int × Int)} (hl : ls[k]? = some l) (hv : RdD W v l w.heap.size)
    (hs : Sc W2 b rv' m (ps ++ [W.heap.size + 1 + 1 + 1 + 1]) (ts ++ [⟨tName, clo W.heap.size, 0, 0, 0, false⟩]) (fun _ => none) 0 false 0)
    (hu : Upd (fun j => j = b ∨ rv.ownBlock = some j) (wst W1 xb k v) W2) (hloc : rv'.ownBlock = rv.ownBlock ∨ ∀ j, rv'.ownBlock = some j → W.heap.size + 1 + 1 + 1 + 1 ≤ j) :
    Bg w W2 b rv' m (ps ++ [W.heap.size + 1 + 1 + 1 + 1]) (ts ++ [⟨tName, clo W.heap.size, 0, 0, 0, false⟩]) xb dv (fun i => if i < k then q i else W.heap.size) (fun i => if i < k then lv i else v) ls (k + 1) := by
  have al := fun (W : World) (o : Obj) => (Below.refl W.heap.size W).alloc (Nat.le_refl _) o
  have hB4 : Below W.heap.size W (wst W1 xb k v) := by
    unfold wst
    exact (((hd.alloc hd.size _).alloc (by simp; omega) _).alloc (by simp; omega) _).alloc (by simp; omega) _
  have hsz := h.bel.size
  have hsz4 : (wst W1 xb k v).heap.size = W.heap.size + 1 + 1 + 1 + 1 := by simp [wst, hds]
  have C0 := Blk.new W1 24 [ptr xb]
  have C1 := Blk.new (W1.alloc (.cells #[ptr xb] 24)) 3 [.int .i64 k]
  have C2 := Blk.new ((W1.alloc (.cells #[ptr xb] 24)).alloc (.cells #[.int .i64 k] 3)) 36 [v]
  have C3 := Blk.new (((W1.alloc (.cells #[ptr xb] 24)).alloc (.cells #[.int .i64 k] 3)).alloc (.cells #[v] 36)) 3 [.int .i64 0]
  simp only [World.size_alloc, hds] at C0 C1 C2 C3
  have E0 : Blk (wst W1 xb k v) W.heap.size 24 [ptr xb] := ((C0.alloc _).alloc _).alloc _
  have E1 : Blk (wst W1 xb k v) (W.heap.size + 1) 3 [.int .i64 k] := (C1.alloc _).alloc _
  have E2 : Blk (wst W1 xb k v) (W.heap.size + 1 + 1) 36 [v] := C2.alloc _
  have E3 : Blk (wst W1 xb k v) (W.heap.size + 1 + 1 + 1) 3 [.int .i64 0] := C3
  have S4 := h.sc.below hB4
  have keep : ∀ (j : Nat) (t : TypeId) (cs : List Value), Blk (wst W1 xb k v) j t cs → t ≠ 71 → t ≠ 83 → Blk W2 j t cs := by
    intro j t cs hB h1 h2
    refine hB.upd hu ?_
    rintro (e | e)
    · exact hB.ne S4.blk h1 e
    · exact row_ne S4.row hB h2.symm j e rfl
  have old : ∀ (j : Nat) (t : TypeId) (cs : List Value), Blk W j t cs → Blk (wst W1 xb k v) j t cs := fun j t cs hB => hB.upd (S := Non) (Upd.ofBelow hB4) (fun h => h)
  have hu' : Upd (fun j => j = b ∨ rv.ownBlock = some j) W W2 := Upd.trans (Upd.ofBelow hB4) hu
  have hub : ∀ j, (j = b ∨ rv.ownBlock = some j) → w.heap.size ≤ j := by
    rintro j (rfl | e)
    · exact h.olds _ (.inl rfl)
    · exact h.olds j (.inr (.inl e))
  have hsz2 := hu.size
  refine ⟨hs, keep _ _ _ (old _ _ _ h.pr) (by decide) (by decide), ?_, ?_, ?_, ?_, h.ox, ?_, by simp [h.lps], ?_, ?_⟩
  · intro i hi
    by_cases e : i < k
    · simp only [e, if_true]
      have B := h.bx i e
      exact ⟨keep _ _ _ (old _ _ _ B.bx) (by decide) (by decide), keep _ _ _ (old _ _ _ B.ba) (by decide) (by decide), keep _ _ _ (old _ _ _ B.bl) (by decide) (by decide), keep _ _ _ (old _ _ _ B.bt) (by decide) (by decide)⟩
    · obtain rfl : i = k := by omega
      simp only [e, if_false]
      exact ⟨keep _ _ _ E0 (by decide) (by decide), keep _ _ _ E3 (by decide) (by decide), keep _ _ _ E2 (by decide) (by decide), keep _ _ _ E1 (by decide) (by decide)⟩
  · intro i hi
    by_cases e : i < k
    · simp only [e, if_true]
      exact (h.rd i e).upd hu' hsz hub
    · obtain rfl : i = k := by omega
      simp only [e, if_false]
      have : lsAt ls i = l := by unfold lsAt; rw [List.getD_eq_getElem?_getD, hl]; rfl
      rw [this]
      exact hv.upd hu' hsz hub
  · intro i j hij hj
    by_cases e : j < k
    · simp only [e, if_true, show i < k by omega]; exact h.qq i j hij e
    · simp only [e, if_false, show i < k by omega, if_true]; exact (h.qo i (by omega)).2
  · intro i hi
    by_cases e : i < k
    · simp only [e, if_true]; have := h.qo i e; omega
    · simp only [e, if_false]; omega
  · rintro j (rfl | e | rfl | e)
    · exact h.olds _ (.inl rfl)
    · rcases hloc with hl | hl
      · rw [hl] at e; exact h.olds j (.inr (.inl e))
      · have := hl j e; omega
    · exact h.olds _ (.inr (.inr (.inl rfl)))
    · rcases List.mem_append.1 e with e | e
      · exact h.olds j (.inr (.inr (.inr e)))
      · simp at e; omega
  · rw [List.range_succ, List.map_append, h.tsk]
    congr 1
    · apply List.map_congr_left
      intro i hi
      have : i < k := by simpa using hi
      simp [tk0, this]
    · simp [tk0]
  · exact h.bel.trans ⟨hu'.os, hu'.tape, hu'.output, hu'.size, fun j hj => hu'.block j (by omega) (fun hh => by have := hub j hh; omega)⟩
end Go.Proofs.Ytkdjahgndkdnhaa
