/-
  lives: the document's first example.
-/
import Derived.Test.YtbnllobofndckaaSa
namespace Go.Proofs.Ytbnllobofndckaa
open Go.RowKit
set_option linter.unusedVariables false
set_option linter.unusedSimpArgs false
set_option maxRecDepth 100000 in
theorem ex_str : bstr (bldB 0 16 ex8) = wt8 := by kernel_rfl
abbrev exC : Array Value := #[.string ⟨#[97]⟩, .int .u64 9, .int .i64 1, .string ⟨#[120]⟩, .string ⟨#[97, 98]⟩, .int .u64 9, .int .i64 1, .string ⟨#[121]⟩]
theorem ex_rd (w : World) : RdE (w.alloc (.cells exC 48)) (some ⟨w.heap.size, 0, none⟩) ex8 := by
  have hB := Blk.new w 48 exC.toList
  refine .inr ⟨w.heap.size, 0, rfl, by simp, fun j e he => ?_⟩
  match j, he with
  | 0, he =>
    cases he
    exact ⟨hB.cell1 0 _ rfl, hB.cell1 1 _ rfl, hB.cell1 2 _ rfl, hB.cell1 3 _ rfl⟩
  | 1, he =>
    cases he
    exact ⟨hB.cell1 4 _ rfl, hB.cell1 5 _ rfl, hB.cell1 6 _ rfl, hB.cell1 7 _ rfl⟩
  | j + 2, he => simp [ex8] at he
theorem ex_s : ∀ e ∈ ex8, 0 ≤ e.s := by
  intro e he
  simp [ex8] at he
  rcases he with rfl | rfl <;> decide
set_option maxRecDepth 100000 in
set_option maxHeartbeats 1000000 in
theorem lives_any (w : World) : Calls Try.prog 17 #[] w fun e w' => e = .returned (.bool true) ∧ Below w.heap.size w w' := by
  have HR : Hid (RdE (w.alloc (.cells exC 48)) (some ⟨w.heap.size, 0, none⟩) ex8 ∧ Below w.heap.size w (w.alloc (.cells exC 48))) := ⟨ex_rd w, (Below.refl _ _).alloc (Nat.le_refl _) _⟩
  have HBu : Hid (Calls Try.prog 7 #[.int .i64 0, .int .i64 16, .slice (some ⟨w.heap.size, 0, none⟩) 2 2] (w.alloc (.cells exC 48)) fun e w' => ∃ v, e = .returned (.tuple #[v, .int .i64 0]) ∧ OwnB w' w.heap.size v (bldB 0 16 ex8) ∧ Below w.heap.size w w') := by
    refine (build_any HR.out.1 ex_s 0 16 2 (by simp [ex8])).mono ?_
    rintro e w' ⟨v, rfl, h1, h2⟩
    rw [ex_err]
    exact ⟨v, rfl, h1.mono (by simp), HR.out.2.trans (h2.mono (by simp))⟩
  have hcv : ∀ W : World, (convert 9 23 (.string wt8)).run Try.prog W = .ok (.slice (some ⟨W.heap.size, 0, none⟩) 34 (grownCap W 34 0 5)) (cvW W wt8) := fun W => cvt wt8 W
  have HOp : Hid (∀ W : World, Calls Try.prog 15 #[.int .i64 0, .slice (some ⟨W.heap.size, 0, none⟩) 34 (grownCap W 34 0 5)] (cvW W wt8) fun e w' => ∃ xb ba LB bcap pa PN pc, e = .returned (.tuple #[ptr xb, .int .i64 0]) ∧ Bl w' xb 0 16 ex8 ba LB bcap pa PN pc 2 ∧ Below W.heap.size W w') := fun W => by
    have ho := cvW_own wt8 W (by show (34 : Nat) ≤ maxLen; unfold maxLen; omega)
    rw [ex_sb] at ho
    have hsr := srt_of ex_err ex_s
    obtain ⟨a, cap, e1, hA⟩ := ho.arg (wr8_bd hsr.1.fit) (by have h9 : (wr8 16 ex8).length ≤ 4194304 := hsr.2.2.2.1; omega)
    have hl : (wr8 16 ex8).length = 34 := by rw [← ex_sb]; rfl
    rw [hl] at e1 hA
    unfold cvV at e1
    injection e1 with e2 e3 e4
    subst e2
    subst e4
    refine (open_any hA ?_ hsr.1 (by decide) (by decide)).mono ?_
    · exact grownCap_ge W 34 0 5
    · rintro e w' ⟨xb, ba, LB, bcap, pa, PN, pc, N, rfl, h1, h2⟩
      obtain rfl : 2 = N := h1.n
      exact ⟨xb, ba, LB, bcap, pa, PN, pc, rfl, h1, (cvW_below wt8 W).trans (h2.mono (cvW_below wt8 W).size)⟩
  have HSt : Hid (∀ (W : World) (v : Value), OwnB W w.heap.size v (bldB 0 16 ex8) → (convert 23 9 v).run Try.prog W = .ok (.string wt8) W) := fun W v h => by
    have := h.run_string 23 9 Try.underlying23 Try.underlying5 Try.underlying9
    rw [ex_str] at this; exact this
  clear HR
  unfold wt8 at hcv HSt
  go_enter Try.func17, Try.ntmps17
  go_wp2_with (first
    | (go_at_call 7; refine HBu.out.mono ?_; rintro e w2 ⟨v2, rfl, h1, h2⟩)
    | (go_at_call 15; refine (HOp.out _).mono ?_; rintro e w3 ⟨xb, ba, LB, bcap, pa, PN, pc, rfl, h3, h4⟩
       have hst := HSt.out w3 v2 (h1.below h4 (Nat.le_refl _))
       have HLn := len_any h3
       have hbf := h2.trans (h4.mono h2.size))
    | (go_at_call 43; refine HLn.mono ?_; rintro e w5 ⟨rfl, hw⟩; have hw1 := hw.symm; subst hw1; clear hw))
  go_ret
  exact ⟨rfl, hbf⟩
end Go.Proofs.Ytbnllobofndckaa
