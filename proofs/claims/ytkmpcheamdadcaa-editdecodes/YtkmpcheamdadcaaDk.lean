/-
  The reader's part f80: a table that is added.
-/
import Derived.Test.YtkmpcheamdadcaaDh
namespace Go.Proofs.Ytkmpcheamdadcaa
open Go.RowKit
set_option linter.unusedVariables false
set_option linter.unusedSimpArgs false
set_option maxRecDepth 100000 in
set_option maxHeartbeats 4000000 in
theorem part8_ok {B M : Nat} {w : World} {rb : Nat} {l l1 l2 : List Int} {lv : Int} {f : Fi} {P : En} {e : Ed} (h : Rs B M w rb l P e) (hm : roomB e = true) (hp : pLvl l = .ok (lv, l1)) (hq : pFile l1 = .ok (f, l2)) :
    Calls Try.prog 80 #[ptr rb, .int .i64 8] w fun en w' => en = .returned (.tuple #[]) ∧ ∃ P', Rs B M w' rb l2 P' { e with added := e.added ++ [⟨lv, f⟩] } ∧ Upd (Fr M rb) w w' := by
  have hl := h.rd.lt.1
  have HR := (room_any h).1 hm
  go_enter Try.func80, Try.ntmps80
  go_wp2_with (first
    | (go_at_call 103; refine HR.mono ?_; rintro en w3 ⟨rfl, hb3⟩))
  have R3 := h.below (hb3.drew)
  have hB := h.rd.lt.2
  obtain ⟨c3, z3⟩ := R3.cell 12 _ rfl
  have lt3 : rb < w3.heap.size := R3.rd.lt.1
  have c3w : w3.cell? ⟨rb, 13, none⟩ = some (.slice P.aa e.added.length P.ac) := c3
  have z3w : w3.frozen? ⟨rb, 13, none⟩ = false := z3
  go_region_law (first
    | (refine step_call104 (by rfl) _ _ (by rfl) _ (by rfl) (level_ok R3.rd hp) ?_
       rintro en w4 ⟨rfl, hr4, hu4⟩
       refine ⟨_, rfl, ?_⟩
       have R4 := R3.call hr4 hu4
       obtain ⟨c4, z4⟩ := R4.cell 12 _ rfl
       have lt4 := R4.rd.lt.1)
    | (refine step_call105 (by rfl) _ _ (by rfl) _ (by rfl) ((file_any R4.rd).1 _ _ hq) ?_
       rintro en w5 ⟨rfl, hr5, hu5⟩
       refine ⟨_, rfl, ?_⟩
       have R5 := R4.call hr5 hu5
       obtain ⟨c5, z5⟩ := R5.cell 12 _ rfl
       have lt5 := R5.rd.lt.1
       have B5 := Blk.new w5 64 (Ad.c ⟨lv, f⟩)
       have R6 := R5.below (al1 w5 (.cells #[.int .i64 lv, .int .u64 f.num, .int .u64 f.size, .string f.sm.u, .int .u64 f.sm.s, .int .i64 f.sm.k, .string f.la.u, .int .u64 f.la.s, .int .i64 f.la.k, .int .u64 f.ents, .int .u64 f.rngs] 64)))
    | (refine step_appt (by rfl) _ _ (by rfl) (by rfl) (by rfl) (R6.addAdd B5 hm _) ?_
       intro v7 w7 G7
       have HG := G7.store hm
       obtain ⟨⟨a7, k7, hv7, hr7, _⟩, _, _⟩ := G7
       subst hv7
       have HG' : Hid (∃ P', Rs B M (w7.setCell ⟨rb, 13, none⟩ (.slice a7 (e.added.length + 1) k7)) rb l2 P' { e with added := e.added ++ [⟨lv, f⟩] } ∧ Upd (Fr M rb) (w5.alloc (.cells #[.int .i64 lv, .int .u64 f.num, .int .u64 f.size, .string f.sm.u, .int .u64 f.sm.s, .int .i64 f.sm.k, .string f.la.u, .int .u64 f.la.s, .int .i64 f.la.k, .int .u64 f.ents, .int .u64 f.rngs] 64)) (w7.setCell ⟨rb, 13, none⟩ (.slice a7 (e.added.length + 1) k7))) := HG
       clear HG
       obtain ⟨a8, k8, X7, _⟩ := hr7
       have c7 := X7.cell1 13 _ rfl
       have z7 := X7.frozen 13
       have lt7 := X7.lt))
  all_goals
    go_wp2
    go_end0
    obtain ⟨P', q1, q2⟩ := HG'.out
    exact ⟨rfl, ⟨P', q1⟩, (Upd.ofBelow hb3.drew).trans ((upd_is hB hu4).trans ((upd_is hB hu5).trans (((Upd.refl _ _).alloc _).trans q2)))⟩
end Go.Proofs.Ytkmpcheamdadcaa
