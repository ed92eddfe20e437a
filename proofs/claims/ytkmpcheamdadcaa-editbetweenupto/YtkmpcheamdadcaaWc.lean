/-
  lives.
-/
import Derived.Test.YtkmpcheamdadcaaWb
namespace Go.Proofs.Ytkmpcheamdadcaa
open Go.RowKit
set_option linter.unusedVariables false
set_option linter.unusedSimpArgs false
def f1L : Fi := ⟨3, 9, ⟨⟨#[]⟩, 0, 0⟩, ⟨⟨#[]⟩, 0, 0⟩, 0, 0⟩
def e2L : Ed := ⟨0, false, false, ⟨#[]⟩, 0, false, false, false, 0, 0, 0, [], [⟨1, f1L⟩]⟩
def P2L (A : Nat) : En := ⟨none, 0, some ⟨A, 0, none⟩, 1⟩
theorem ap1 : (appR 0 nilL e2L).1 = 0 := by decide
theorem ap2 : (appR 0 nilL e2L).2 1 = [f1L] := by rfl
theorem f1_ok : FOk f1L := ⟨by decide, by decide, by decide, by decide, by decide, by decide, by decide, by decide⟩
theorem e2_rd (w : World) : RdEd (w.alloc (Ad.o ⟨1, f1L⟩)) (P2L w.heap.size) e2L := ⟨.inl rfl, .inr ⟨w.heap.size, 0, rfl, fun j y hj i v hv => by
  have hj0 : j = 0 := by have := (List.getElem?_eq_some_iff.1 hj).1; simpa [e2L] using this
  subst hj0
  simp [e2L] at hj
  subst hj
  rw [Nat.zero_mul, Nat.zero_add]
  have := (Blk.new w 64 (Ad.c ⟨1, f1L⟩)).cell1 i v hv
  exact this⟩, fun _ => rfl, (fun h => by cases h), by decide, by decide⟩
set_option maxRecDepth 100000 in
set_option maxHeartbeats 2000000 in
theorem lives_any (w : World) : Calls Try.prog 14 #[] w fun e w' => e = .returned (.bool true) ∧ Below w.heap.size w w' := by
  have HA : Hid (∀ W, Below w.heap.size w W → Calls Try.prog 18 #[.int .i64 0, .agg #[.slice none 0 0, .slice none 0 0, .slice none 0 0, .slice none 0 0, .slice none 0 0, .slice none 0 0, .slice none 0 0], .agg #[.int .u32 0, .bool false, .bool false, .string ⟨#[]⟩, .int .i64 0, .bool false, .bool false, .bool false, .int .u64 0, .int .u64 0, .int .u64 0, .slice none 0 0, .slice (some ⟨W.heap.size, 0, none⟩) 1 1]] (W.alloc (Ad.o ⟨1, f1L⟩))
      fun e w' => ∃ V' L', e = .returned (.tuple #[.agg (verA V' L'), .int .i64 0]) ∧ L' 1 = [f1L] ∧ RdV w' V' L' ∧ Below (W.alloc (Ad.o ⟨1, f1L⟩)).heap.size (W.alloc (Ad.o ⟨1, f1L⟩)) w') := fun W hb => by
    refine (apply_any (nilV_rd _) (e2_rd W) (fun a ha => by simp [e2L] at ha; subst ha; exact f1_ok) 0).mono ?_
    rintro e w' ⟨V', h1, _, h3, h4⟩
    exact ⟨V', _, by rw [h1]; show Ending.returned (Value.tuple #[_, .int .i64 (appR 0 nilL e2L).1]) = _; rw [ap1]; rfl, ap2, h3, h4⟩
  go_enter Try.func14, Try.ntmps14
  go_wp2_with (first
    | (go_at_call 9; refine (enc1_any _).mono ?_; rintro e w2 ⟨v, rfl, ho, hb2⟩
       have hs : (convert 28 9 v).run Try.prog w2 = .ok (.string ⟨#[1, 0, 6, 5]⟩) w2 := ho.run_string (P := Try.prog) 28 9 Try.underlying28 Try.underlying5 Try.underlying9
       have HO2 : Hid (OwnB w2 w.heap.size v [1, 0, 6, 5]) := ho
       have HB2 : Hid (Below w.heap.size w w2) := hb2
       have HA2 := HA.out (w2.alloc (.cells #[.slice none 0 0, .slice none 0 0, .slice none 0 0, .slice none 0 0, .slice none 0 0, .slice none 0 0, .slice none 0 0] 41)) (bstep hb2 (al1 _ _))
       rw [World.size_alloc] at HA2
       clear ho hb2)
    | (go_at_call 18; refine HA2.mono ?_; rintro e w5 ⟨V', L', rfl, hl, hrd, hb5⟩
       have HB5 : Hid (Below w2.heap.size w2 w5) := bstep (bstep (al1 _ _) (al1 _ _)) (by rw [World.size_alloc]; simpa using hb5)
       have hs5 : ∀ o, (convert 28 9 v).run Try.prog (w5.alloc o) = .ok (.string ⟨#[1, 0, 6, 5]⟩) (w5.alloc o) := fun o => ((HO2.out.below HB5.out (Nat.le_refl _)).alloc o).run_string (P := Try.prog) 28 9 Try.underlying28 Try.underlying5 Try.underlying9
       have hl1 : (((L' 1).length : Int) == 1) = true := by rw [hl]; rfl
       have HSz : Hid (Calls Try.prog 26 #[.agg (verA V' L'), .int .i64 1] (w5.alloc (.cells (verA V' L') 41)) fun e w' => e = .returned (.int .u64 9) ∧ Below (w5.alloc (.cells (verA V' L') 41)).heap.size (w5.alloc (.cells (verA V' L') 41)) w') := by
         have h := size_any (hrd.below (al1 w5 (.cells (verA V' L') 41))) 1
         have e : sizV L' 1 = 9 := by unfold sizV; rw [show (1 : Int).toNat = 1 from rfl, hl]; decide
         rw [e] at h
         exact h
       clear hl hrd hb5 HA2)
    | (go_at_call 26; refine HSz.out.mono ?_; rintro e w6 ⟨rfl, hb6⟩))
  go_ret
  exact ⟨rfl, bstep (bstep (bstep HB2.out HB5.out) (al1 _ _)) hb6⟩
end Go.Proofs.Ytkmpcheamdadcaa
