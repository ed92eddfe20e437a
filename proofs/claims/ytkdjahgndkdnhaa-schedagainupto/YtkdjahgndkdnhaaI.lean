import Derived.Test.YtkdjahgndkdnhaaH
namespace Go.Proofs.Ytkdjahgndkdnhaa
open Go.RowKit Go.Maps
set_option linter.unusedVariables false
set_option linter.unusedSimpArgs false
/-- Tasks of lives, as they are taken in. -/
structure SpL (w W : World) (rv : Value) (ps : List Nat) (ts : List Tk) (A F : Nat → Nat) (k : Nat) : Prop where
  sc : Sc W (w.heap.size + 1) rv w.heap.size ps ts (fun _ => none) 0 false 0
  len : ps.length = k
  tsk : ts = (List.range k).map (fun n => tkL A F n 0 0 0)
  bA : ∀ n, n < k → Blk W (A n) 3 [.int .i64 0]
  bF : ∀ n, n < k → Blk W (F n) 3 [.int .i64 n]
  aa : ∀ i n, i < n → n < k → A i ≠ A n
  af : ∀ i n, i < k → n < k → A i ≠ F n
  old : ∀ n, n < k → w.heap.size ≤ A n
  olds : ∀ j, SB (w.heap.size + 1) rv w.heap.size ps j → w.heap.size ≤ j
  bel : Below w.heap.size w W
theorem SpL.step {w W W2 : World} {rv rv' : Value} {ps : List Nat} {ts : List Tk} {A F : Nat → Nat} {k : Nat} (h : SpL w W rv ps ts A F k)
    (hs : Sc W2 (w.heap.size + 1) rv' w.heap.size (ps ++ [W.heap.size + 1 + 1]) (ts ++ [⟨tName, .func (.func 45) #[] #[ptr W.heap.size, ptr (W.heap.size + 1)], 0, 0, 0, false⟩]) (fun _ => none) 0 false 0)
    (hu : Upd (fun j => j = w.heap.size + 1 ∨ rv.ownBlock = some j) ((W.alloc (.cells #[.int .i64 0] 3)).alloc (.cells #[.int .i64 k] 3)) W2) (hloc : rv'.ownBlock = rv.ownBlock ∨ ∀ j, rv'.ownBlock = some j → W.heap.size + 1 + 1 ≤ j) :
    SpL w W2 rv' (ps ++ [W.heap.size + 1 + 1]) (ts ++ [⟨tName, .func (.func 45) #[] #[ptr W.heap.size, ptr (W.heap.size + 1)], 0, 0, 0, false⟩]) (fun n => if n < k then A n else W.heap.size) (fun n => if n < k then F n else W.heap.size + 1) (k + 1) := by
  have B0 := (Blk.new W 3 [.int .i64 0]).alloc (.cells #[.int .i64 k] 3)
  have B1 := Blk.new (W.alloc (.cells #[.int .i64 0] 3)) 3 [.int .i64 k]
  rw [World.size_alloc] at B1
  have hsz := h.bel.size
  have nS : ∀ (j : Nat) (cs : List Value), Blk W j 3 cs → ¬ (j = w.heap.size + 1 ∨ rv.ownBlock = some j) := by
    rintro j cs hB (e | e)
    · exact hB.ne h.sc.blk (by decide) e
    · exact row_ne h.sc.row hB (by decide) j e rfl
  have lr : ∀ j, rv.ownBlock = some j → j < W.heap.size := fun j hj => h.sc.sb_lt j (.inr (.inl hj))
  have lb := h.sc.blk.lt
  refine ⟨hs, by simp [h.len], ?_, ?_, ?_, ?_, ?_, ?_, ?_, ?_⟩
  · rw [List.range_succ, List.map_append, h.tsk]
    congr 1
    · apply List.map_congr_left
      intro n hn
      have : n < k := by simpa using hn
      simp [tkL, this]
    · simp [tkL]
  · intro n hn
    by_cases e : n < k
    · simp only [e, if_true]
      exact (((h.bA n e).alloc _).alloc _).upd hu (nS _ _ (h.bA n e))
    · simp only [e, if_false]
      exact B0.upd hu (by rintro (e | e); · omega
                          · have := lr _ e; omega)
  · intro n hn
    by_cases e : n < k
    · simp only [e, if_true]
      exact (((h.bF n e).alloc _).alloc _).upd hu (nS _ _ (h.bF n e))
    · have : n = k := by omega
      subst this
      simp only [e, if_false]
      exact B1.upd hu (by rintro (e | e); · omega
                          · have := lr _ e; omega)
  · intro i n hi hn
    by_cases e : n < k
    · simp only [e, if_true, show i < k by omega]
      exact h.aa i n hi e
    · simp only [e, if_false, show i < k by omega, if_true]
      have := (h.bA i (by omega)).lt; omega
  · intro i n hi hn
    by_cases e : n < k
    · by_cases e' : i < k
      · simp only [e, e', if_true]; exact h.af i n e' e
      · simp only [e, e', if_true, if_false]; have := (h.bF n e).lt; omega
    · by_cases e' : i < k
      · simp only [e, e', if_true, if_false]; have := (h.bA i e').lt; omega
      · simp only [e, e', if_false]; omega
  · intro n hn
    by_cases e : n < k
    · simp only [e, if_true]; exact h.old n e
    · simp only [e, if_false]; exact hsz
  · rintro j (rfl | e | rfl | e)
    · omega
    · rcases hloc with hl | hl
      · rw [hl] at e; exact h.olds j (.inr (.inl e))
      · have := hl j e; omega
    · omega
    · rcases List.mem_append.1 e with e | e
      · exact h.olds j (.inr (.inr (.inr e)))
      · simp at e; omega
  · refine ((h.bel.alloc hsz _).alloc (by rw [World.size_alloc]; omega) _).trans ⟨hu.os, hu.tape, hu.output, hu.size, fun j hj => hu.block j (by simp; omega) ?_⟩
    rintro (e | e)
    · omega
    · have := h.olds j (.inr (.inl e)); omega
set_option maxRecDepth 100000 in
set_option maxHeartbeats 800000 in
theorem lives_any (w : World) : Calls Try.prog 14 #[] w fun e w' => e = .returned (.bool true) ∧ Below w.heap.size w w' := by
  have hmf : ∀ (fn : Fn) (first cap : Array Value) (w : World), (Instr.makeFunc fn first cap).run Try.prog w = .ok (.func fn first cap) w := fun _ _ _ _ => rfl
  go_enter Try.func14, Try.ntmps14
  go_wp2_with (go_at_call 8; refine (new_any w).mono ?_; rintro e w1 ⟨rfl, hS, hB⟩)
  have S0 : SpL w w1 (.slice none 0 0) [] [] (fun _ => 0) (fun _ => 0) 0 := by
    refine ⟨hS, rfl, rfl, fun n hn => by omega, fun n hn => by omega, fun i n _ hn => by omega, fun i n _ hn => by omega, fun n hn => by omega, ?_, hB⟩
    rintro j (rfl | e | rfl | e)
    · omega
    · cases e
    · omega
    · simp at e
  clear hS hB
  go_loopw [2] (fun i wr => ∃ (k : Nat) (rv : Value) (ps : List Nat) (ts : List Tk) (A F : Nat → Nat), k ≤ 2 ∧ i = .int .i64 k ∧ SpL w wr rv ps ts A F k) (fun i _ => 2 - (intOf i).toNat)
  case atStart => exact ⟨0, _, _, _, _, _, Nat.zero_le _, rfl, S0⟩
  case round =>
    clear S0
    obtain ⟨k, rv, ps, ts, A, F, hk, rfl, S⟩ := hrel
    by_cases hlt : k < 2
    · have hlt' : (k : Int) < 2 := by omega
      have al := fun (W : World) (o : Obj) => (Below.refl W.heap.size W).alloc (Nat.le_refl _) o
      have HS := spawn_any ((S.sc.below (al wr (.cells #[.int .i64 0] 3))).below (al _ (.cells #[.int .i64 k] 3))) (by rw [S.len]; omega) tName (.func 45) #[] #[ptr wr.heap.size, ptr (wr.heap.size + 1)]
      simp only [World.size_alloc] at HS
      go_wp2_with (go_at_call 13; refine HS.mono ?_; rintro e w2 ⟨rfl, rv', h1, h2, h3⟩)
      go_roundw
      case rel => exact ⟨k + 1, _, _, _, _, _, by omega, by go_num, S.step h1 h2 h3⟩
      case measure => simp [intOf]; omega
    · obtain rfl : k = 2 := by omega
      have al := fun (W : World) (o : Obj) => (Below.refl W.heap.size W).alloc (Nat.le_refl _) o
      have hQ := Blk.new wr 3 [.int .i64 0, .int .i64 1]
      have hN : LvN A F wr.heap.size w.heap.size (w.heap.size + 1) rv w.heap.size ps := ⟨S.aa 0 1 (by omega) (by omega), S.af, fun n hn => by have := (S.bA n hn).lt; omega, S.old, S.olds⟩
      have L0 : LI (w.heap.size + 1) rv w.heap.size ps A F wr.heap.size w 0 (wr.alloc (.cells #[.int .i64 0, .int .i64 1] 3)) :=
        ⟨by omega, (show ts = lvT A F 0 from S.tsk) ▸ S.sc.below (al _ _), fun n hn => (S.bA n hn).alloc _, fun n hn => (S.bF n hn).alloc _, hQ, S.bel.trans ((al _ _).mono S.bel.size)⟩
      have HR := run_any (w := wr.alloc (.cells #[.int .i64 0, .int .i64 1] 3)) (b := w.heap.size + 1) [0, 1] (some ⟨wr.heap.size, 0, none⟩) 2 9 (by omega) (by simp) (LI (w.heap.size + 1) rv w.heap.size ps A F wr.heap.size w) (fun k W => k = 4 ∧ LI (w.heap.size + 1) rv w.heap.size ps A F wr.heap.size w 4 W) (L0.2.sc.blk.cell1 3 _ rfl) L0
        (fun k W hI j x hj => ⟨wr.heap.size, 0, rfl, by
          have hj2 : j < 2 := (List.getElem?_eq_some_iff.1 hj).1
          rcases two hj2 with rfl | rfl
          · simp at hj; subst hj; exact hI.2.bQ.cell1 0 _ rfl
          · simp at hj; subst hj; exact hI.2.bQ.cell1 1 _ rfl⟩)
        (fun k W hk hI => lv_pick hN S.len k W hI)
      clear L0 hQ hN
      go_wp2_with (first
        | (go_at_call 20; refine (steps_any (LV.sc.below hB3)).mono ?_; rintro e w4 ⟨rfl, rfl⟩)
        | (go_at_call 25; refine (dead_any LV.sc (by rw [S.len]; omega) (by omega) (lvT_ok A F 4 (by omega))).mono ?_; rintro e w3 ⟨da, dc, rfl, hB3⟩; rw [show (deadL (lvH 4) 4 (lvT A F 4)).length = 2 from by simp [deadL, lvT, lvH, stirs, mayB, nums, aliveB, tkL, fput]])
        | (go_at_call 17; refine HR.mono ?_; rintro e w2 ⟨k, rfl, (⟨rfl, h9, _⟩ | ⟨_, rfl, _, LV⟩)⟩; omega))
      go_ret
      exact ⟨rfl, LV.bel.trans (hB3.mono LV.bel.size)⟩
end Go.Proofs.Ytkdjahgndkdnhaa
