/-
  The reader's part f80: where a table that is added is not read.
-/
import Derived.Test.YtkmpcheamdadcaaDh
namespace Go.Proofs.Ytkmpcheamdadcaa
open Go.RowKit
set_option linter.unusedVariables false
set_option linter.unusedSimpArgs false
set_option maxRecDepth 100000 in
set_option maxHeartbeats 4000000 in
theorem part8_e1 {B M : Nat} {w : World} {rb : Nat} {l : List Int} {c : Int} {P : En} {e : Ed} (h : Rs B M w rb l P e) (hm : roomB e = true) (hp : pLvl l = .error c) :
    Calls Try.prog 80 #[ptr rb, .int .i64 8] w fun en w' => en = pnk c ∧ Upd (Fr M rb) w w' := by
  have hl := h.rd.lt.1
  have HR := (room_any h).1 hm
  go_enter Try.func80, Try.ntmps80
  go_wp2_with (first
    | (go_at_call 103; refine HR.mono ?_; rintro en w3 ⟨rfl, hb3⟩))
  have R3 := h.below (hb3.drew)
  have hB := h.rd.lt.2
  obtain ⟨c3, z3⟩ := R3.cell 12 _ rfl
  have lt3 : rb < w3.heap.size := R3.rd.lt.1
  have c3w : w3.cell? ⟨rb, 13, none⟩ = some (.slice P.aa e.added.length P.ac) := c3
  have z3w : w3.frozen? ⟨rb, 13, none⟩ = false := z3
  go_region_law (first
    | (refine step_panic104 (by rfl) _ _ (by rfl) _ (by rfl) (level_err R3.rd hp) (fun en w' hh => ⟨_, hh.1, ⟨rfl, by rw [hh.2]; exact ⟨rfl, Upd.ofBelow hb3.drew⟩⟩⟩) (.int .i64 0) w3.drew ?_
       intro hF)
    | (refine step_panic105 (by rfl) _ _ (by rfl) _ (by rfl) (R := fun _ _ => False) hF.out.elim (fun _ _ hh => hh.elim) (Fi.v default) w3.drew ?_
       intro hF2)
    | (refine step_appt (by rfl) _ _ (by rfl) (by rfl) (by rfl) (Rr := fun v' _ => v' = .slice none 0 0) hF.out.elim ?_
       intro v7 w7 hv7
       subst hv7
       have c7 : w7.cell? ⟨rb, 13, none⟩ = some (.slice none 0 0) := hF.out.elim
       have z7 : w7.frozen? ⟨rb, 13, none⟩ = false := hF.out.elim
       have lt7 : rb < w7.heap.size := hF.out.elim))
  all_goals exact hF.out.elim
set_option maxRecDepth 100000 in
set_option maxHeartbeats 4000000 in
theorem part8_e2 {B M : Nat} {w : World} {rb : Nat} {l l1 : List Int} {lv c : Int} {P : En} {e : Ed} (h : Rs B M w rb l P e) (hm : roomB e = true) (hp : pLvl l = .ok (lv, l1)) (hq : pFile l1 = .error c) :
    Calls Try.prog 80 #[ptr rb, .int .i64 8] w fun en w' => en = pnk c ∧ Upd (Fr M rb) w w' := by
  have hl := h.rd.lt.1
  have HR := (room_any h).1 hm
  go_enter Try.func80, Try.ntmps80
  go_wp2_with (first
    | (go_at_call 103; refine HR.mono ?_; rintro en w3 ⟨rfl, hb3⟩))
  have R3 := h.below (hb3.drew)
  have hB := h.rd.lt.2
  obtain ⟨c3, z3⟩ := R3.cell 12 _ rfl
  have lt3 : rb < w3.heap.size := R3.rd.lt.1
  have c3w : w3.cell? ⟨rb, 13, none⟩ = some (.slice P.aa e.added.length P.ac) := c3
  have z3w : w3.frozen? ⟨rb, 13, none⟩ = false := z3
  go_region_law (first
    | (refine step_call104 (by rfl) _ _ (by rfl) _ (by rfl) (level_ok R3.rd hp) ?_
       rintro en w4 ⟨rfl, hr4, hu4⟩
       refine ⟨_, rfl, ?_⟩
       have R4 := R3.call hr4 hu4
       obtain ⟨c4, z4⟩ := R4.cell 12 _ rfl
       have lt4 := R4.rd.lt.1)
    | (refine step_panic105 (by rfl) _ _ (by rfl) _ (by rfl) ((file_any R4.rd).2 _ hq) (fun en w' hh => ⟨_, hh.1, ⟨rfl, ⟨rfl, ?_⟩⟩⟩) (Fi.v default) w4 ?_
       · exact (Upd.ofBelow hb3.drew).trans ((upd_is hB hu4).trans (upd_is hB hh.2))
       intro hF)
    | (refine step_appt (by rfl) _ _ (by rfl) (by rfl) (by rfl) (Rr := fun v' _ => v' = .slice none 0 0) hF.out.elim ?_
       intro v7 w7 hv7
       subst hv7
       have c7 : w7.cell? ⟨rb, 13, none⟩ = some (.slice none 0 0) := hF.out.elim
       have z7 : w7.frozen? ⟨rb, 13, none⟩ = false := hF.out.elim
       have lt7 : rb < w7.heap.size := hF.out.elim))
  all_goals exact hF.out.elim
end Go.Proofs.Ytkmpcheamdadcaa
