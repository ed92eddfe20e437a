import Derived.RangeFuncNested
import Derived.RangeFuncCalls
namespace Go.Proofs.Ytbnllobofndckaa
open Go Go.RowKit
set_option linter.unusedVariables false
/-- A sequence whose elements point into memory: R tells of an element in the world that it comes in, and in the one ahead of its making; Kp what a round must keep of that element. No round ends it. -/
def SeqR {α : Type} (F : Fence) (n : Nat) (P : Program) (g : Nat) (lb : Array Value) (encs : α → Array Value) (R : α → World → World → Prop) (Kp : α → World → World → Prop) (S : List α → Prop) (N : Nat) (w : World) : Prop :=
  ∀ (l : Nat) (J : List α → World → Prop) (W : World), Below w.heap.size w W → (∀ s A B, J s A → Below A.heap.size A B → J s B) →
    (∀ pre x W0 W1, J pre W0 → Below W0.heap.size W0 W1 → R x W0 W1 → pre.length < N → YieldAt F (n - 1) P l (encs x) W1 fun e W' => e = .returned (.bool true) ∧ J (pre ++ [x]) W' ∧ Kp x W1 W') →
    J [] W → CallsIn F n P g (#[.func (.yield l) #[] #[]] ++ lb) W fun e W' => (∃ v, e = .returned v) ∧ ∃ xs, S xs ∧ J xs W'
/-- How a round's body is left: it goes on. -/
def goesOn (B : Nat) (Kx : World → World → Prop) (Ix : World → Prop) (W : World) (e : Exit) (_ : Act) (W' : World) : Prop := e = .normal ∧ KeepsFrom B W W' ∧ Kx W W' ∧ Ix W'
theorem grow_of_below {A B : World} (h : Below A.heap.size A B) : A.grownBy B none := ⟨h.os, h.tape, h.output, h.size, fun k hk _ => h.block k hk⟩
theorem wpIn_range_R {F : Fence} {n : Nat} {P : Program} {α : Type} {g : Operand} {ps : Array Tmp} {assign body : Code} {Q : Exit → Act → World → Prop} {a : Act} {w : World}
    (hro : F.round = none) (h1 : 1 ≤ n) {gf : Nat} {lb : Array Value} (hg : a.eval g = .func (.func gf) #[] lb) (hFg : F.fn gf) (eg : ∀ args w, (callFunc gf args).run P w = .ok (.enter gf args) w)
    {encs : α → Array Value} {R : α → World → World → Prop} {Kp : α → World → World → Prop} {S : List α → Prop} {N : Nat} {w0 : World} (hseq : SeqR F (n - 1) P gf lb encs R Kp S N w0) (hb0 : Below w0.heap.size w0 w) (hps : ∀ x, (encs x).size = ps.size)
    (hKt : ∀ {x : α} {A B C : World}, Kp x A B → Kp x B C → Kp x A C) (hKb : ∀ (x : α) (W : World) (l : Nat) (o o' : Obj), w.heap.size ≤ l → W.heap[l]? = some o → o.isCells = false → o.isWalk = false → Kp x W (W.putObj l o'))
    (I : List α → World → Prop) (hI : OwnFrom w.heap.size I) (h0 : I [] w) (Ax : List α → α → Act → World → Prop) (hAx : ∀ pre x a', OwnFrom w.heap.size (fun (_ : Unit) W => Ax pre x a' W))
    (hassign : ∀ (l : Nat) (pre : List α) (x : α) (W0 W : World) (K : Act → World → Prop), I pre W0 → Below W0.heap.size W0 W → R x W0 W → pre.length < N → (∀ a' W', KeepsFrom w.heap.size W W' → Kp x W W' → Ax pre x a' W' → K a' W') →
      assign.wpIn (F.inRound l) (n - 1 - 1) P (Exit.then K (fun _ _ _ => False)) { tmps := (ps.zip (encs x)).foldl (fun t (p, v) => t.setIfInBounds p v) a.tmps, defers := [] } W)
    (hbody : ∀ (l : Nat) (pre : List α) (x : α) (a' : Act) (W : World), w.heap.size ≤ l → (∃ r, W.heap[l]? = some (.loop r)) → Ax pre x a' W → body.wpIn (F.inRound l) (n - 1 - 1) P (goesOn w.heap.size (Kp x) (I (pre ++ [x])) W) a' W)
    (hdone : ∀ (D : Nat) (xs : List α) (W : World), w.heap.size ≤ D → S xs → I xs W → W.heap[D]? = some (.deferred (some [])) → Q .normal { a with defers := { target := .collected D, args := #[] } :: a.defers } W) :
    (Code.rangeFunc g ps assign body).wpIn F n P Q a w := by
  refine wpIn_rangeFunc ?_
  intro fn hfn
  rw [hro]
  let rec0 : LoopState → Option Code → Loop := fun st pe => { state := st, pending := pe, fn, tmps := a.tmps, params := ps, assign, body, defers := w.heap.size }
  obtain ⟨W1, hW1⟩ : ∃ W1, (w.alloc (.deferred (some []))).alloc (.loop (rec0 .ready none)) = W1 := ⟨_, rfl⟩
  have hL : W1.heap[w.heap.size + 1]? = some (.loop (rec0 .ready none)) := by
    have := World.alloc_heap_new (w.alloc (.deferred (some []))) (.loop (rec0 .ready none))
    rw [World.size_alloc] at this
    rw [← hW1]; exact this
  have hM : W1.heap[w.heap.size]? = some (.deferred (some [])) := by
    rw [← hW1]; exact (Below.heap_alloc _ _ _ (by simp)).trans (World.alloc_heap_new w _)
  have bW : Below w.heap.size w W1 := by rw [← hW1]; exact ((Below.refl _ w).alloc (Nat.le_refl _) _).alloc (by simp) _
  have hI1 : I [] W1 := hI [] w W1 none h0 (grow_of_below bW) (fun r e => by cases e)
  refine ⟨w.heap.size + 1, [{ target := .collected w.heap.size, args := #[] }], W1, { target := .fn (.func gf) lb, args := #[.func (.yield (w.heap.size + 1)) #[] #[]] }, W1, gf, #[.func (.yield (w.heap.size + 1)) #[] #[]] ++ lb, W1, ?_, ?_, ?_, ?_, fun _ => h1, ?_⟩
  · rw [← hW1]; exact run_enterLoop_outer _ _ _ _ _
  · simp only [resolve, hg]
    simp [go_sem]
  · intro f' hf'; simp [Target.leads] at hf'; subst hf'; exact hFg
  · simp [invoke, go_sem, eg]
  refine (hseq (w.heap.size + 1) (fun pre W => I pre W ∧ W.heap[w.heap.size + 1]? = some (.loop (rec0 .ready none)) ∧ W.heap[w.heap.size]? = some (.deferred (some []))) W1 (hb0.trans (bW.mono hb0.size)) ?_ ?_ ⟨hI1, hL, hM⟩).mono ?_
  · intro s A B hs hb
    exact ⟨hI s A B none hs.1 (grow_of_below hb) (fun r e => by cases e), (hb.block _ (Array.getElem?_eq_some_iff.1 hs.2.1).1).trans hs.2.1, (hb.block _ (Array.getElem?_eq_some_iff.1 hs.2.2).1).trans hs.2.2⟩
  · rintro pre x V W ⟨hi, hl, hk⟩ hVW hR hlen
    have hl1 := (hVW.block _ (Array.getElem?_eq_some_iff.1 hl).1).trans hl
    have hk1 := (hVW.block _ (Array.getElem?_eq_some_iff.1 hk).1).trans hk
    refine ⟨fn, _, assign, body, run_yield (P := P) (args := encs x) hl1 (hps x), roundIn_of_wpIn hfn (hassign _ pre x V W _ hi hVW hR hlen ?_)⟩
    intro a' Wa kf kp ax
    have hl2 := kf.same _ _ (Nat.le_succ _) hl1 rfl
    have hk2 := kf.same _ _ (Nat.le_refl _) hk1 rfl
    have hlt : w.heap.size + 1 < Wa.heap.size := (Array.getElem?_eq_some_iff.1 hl2).1
    obtain ⟨Wb, hWb⟩ : ∃ Wb, Wa.putObj (w.heap.size + 1) (.loop { rec0 .ready none with state := .busy }) = Wb := ⟨_, rfl⟩
    have hl3 : Wb.heap[w.heap.size + 1]? = some (.loop { rec0 .ready none with state := .busy }) := by rw [← hWb]; exact World.putObj_heap_same hlt
    have hk3 : Wb.heap[w.heap.size]? = some (.deferred (some [])) := by rw [← hWb]; exact (World.putObj_heap_other (by omega)).trans hk2
    have kb : Kp x Wa Wb := by rw [← hWb]; exact hKb _ _ _ _ _ (Nat.le_succ _) hl2 rfl rfl
    have axb : Ax pre x a' Wb := by rw [← hWb]; exact (hAx pre x a').putObj (s := ()) _ ax (Nat.le_succ _) hl2 rfl
    refine ⟨Wb, by rw [← hWb]; exact run_beginRound hl2 rfl, ?_⟩
    refine wpIn_mono (hbody _ pre x a' Wb (Nat.le_succ _) ⟨_, hl3⟩ axb) ?_
    rintro e a3 W3 ⟨rfl, kf3, kp3, hi3⟩
    have hl4 := kf3.same _ _ (Nat.le_succ _) hl3 rfl
    have hk4 := kf3.same _ _ (Nat.le_refl _) hk3 rfl
    have hlt4 : w.heap.size + 1 < W3.heap.size := (Array.getElem?_eq_some_iff.1 hl4).1
    refine ⟨_, _, run_endRound (P := P) none hl4, rfl, ⟨hI.putObj _ hi3 (Nat.le_succ _) hl4 rfl, World.putObj_heap_same hlt4, (World.putObj_heap_other (by omega)).trans hk4⟩, hKt kp (hKt kb (hKt kp3 (hKb _ _ _ _ _ (Nat.le_succ _) hl4 rfl rfl)))⟩
  · rintro e W2 ⟨⟨v, rfl⟩, xs, hS, hi, hl, hk⟩
    exact ⟨none, _, run_endLoop (P := P) hl (by simp [rec0]), hdone _ xs _ (Nat.le_refl _) hS (hI.putObj _ hi (Nat.le_succ _) hl rfl) ((World.putObj_heap_other (by omega)).trans hk)⟩
end Go.Proofs.Ytbnllobofndckaa
