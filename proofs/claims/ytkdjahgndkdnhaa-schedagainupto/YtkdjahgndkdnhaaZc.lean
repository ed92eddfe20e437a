import Derived.Test.YtkdjahgndkdnhaaZa
import Derived.BigQuiet
import Derived.Laws.StructEq
import Derived.Deep.RegionHeldLaw
namespace Go.Proofs.Ytkdjahgndkdnhaa
open Go.RowKit Go.Maps
set_option linter.unusedVariables false
set_option linter.unusedSimpArgs false
def waitB (on : Int) (t : Tk) : Bool := t.kind == 2 && t.on == on
section
variable {w : World} {b p : Nat} {rv : Value} {m : Nat} {ps : List Nat} {ts : List Tk} {t : Tk} {H : Int → Option Int} {st : Nat} {wi : Bool} {c : Nat}
set_option maxRecDepth 100000 in
set_option maxHeartbeats 800000 in
theorem tell_any (h : Sc w b rv m ps ts H st wi c) {n : Nat} (ht : ts[n]? = some t) :
    Calls Try.prog 56 #[ptr b, .int .i64 n] w fun e w' => e = .returned (.tuple #[]) ∧ Sc w' b rv m ps (ts.set n t.goes) H st wi c ∧ Upd (fun k => k ∈ ps) w w' := by
  obtain ⟨p, hp, P⟩ := h.task ht
  obtain ⟨gg, cap, hrv, hcell⟩ := h.at_ hp
  have hnl : n < ps.length := (List.getElem?_eq_some_iff.1 hp).1
  have hnl' : (n : Int) < (ps.length : Int) := by omega
  have hn0 : (0 : Int) ≤ (n : Int) := by omega
  have c0 := h.blk.cell1 0 _ rfl
  rw [hrv] at c0
  have p2 := P.cell1 2 _ rfl
  have p3 := P.cell1 3 _ rfl
  have z2 := P.frozen 2
  have z3 := P.frozen 3
  have hmem : p ∈ ps := List.mem_of_getElem? hp
  have U : Upd (fun j => j = p) w ((w.setCell ⟨p, 2, none⟩ (.int .i64 0)).setCell ⟨p, 3, none⟩ (.int .i64 0)) := ((Upd.refl (fun j => j = p) w).setCell (p := ⟨p, 2, none⟩) (fun _ => rfl) _).setCell (p := ⟨p, 3, none⟩) (fun _ => rfl) _
  have S := h.setTask (t' := t.goes) hp P ((P.set 2 (.int .i64 0)).set 3 (.int .i64 0)) U
  go_enter Try.func56, Try.ntmps56
  go_wp2
  go_end0
  exact ⟨rfl, S, U.mono (fun k _ hk => hk ▸ hmem)⟩
set_option maxRecDepth 100000 in
set_option maxHeartbeats 800000 in
theorem wait1_any (h : Sc w b rv m ps ts H st wi c) {B : Nat} {on : Int} (hB : Blk w B 3 [.int .i64 on]) {i : Nat} (hp : ps[i]? = some p) (ht : ts[i]? = some t) :
    Calls Try.prog 57 #[ptr p, ptr B] w fun e w' => e = .returned (.bool (waitB on t)) ∧ Below w.heap.size w w' := by
  have P := h.tks i p t hp ht
  have p2 := P.cell1 2 _ rfl
  have p3 := P.cell1 3 _ rfl
  have b0 := hB.cell1 0 _ rfl
  by_cases hk : t.kind = 2
  · by_cases ho : t.on = on
    · rw [hk] at p2
      rw [ho] at p3
      have e : waitB on t = true := by simp [waitB, hk, ho]
      rw [e]
      go_enter Try.func57, Try.ntmps57
      go_wp2
      go_region
      all_goals go_wp2
      all_goals go_ret
      all_goals exact ⟨rfl, (Below.refl _ _).drew⟩
    · rw [hk] at p2
      have e : waitB on t = false := by simp [waitB, ho]
      rw [e]
      go_enter Try.func57, Try.ntmps57
      go_wp2
      go_region
      all_goals go_wp2
      all_goals go_ret
      all_goals exact ⟨rfl, (Below.refl _ _).drew⟩
  · have e : waitB on t = false := by simp [waitB, hk]
    rw [e]
    go_enter Try.func57, Try.ntmps57
    go_wp2
    go_region
    all_goals go_wp2
    all_goals go_ret
    all_goals exact ⟨rfl, (Below.refl _ _).drew⟩
def cmpI (x y : Int) : Int := if x < y then -1 else if y < x then 1 else 0
set_option maxRecDepth 100000 in
set_option maxHeartbeats 800000 in
theorem compare_any (x y : Int) (w : World) : Calls Try.prog 60 #[.int .i64 x, .int .i64 y] w fun e w' => e = .returned (.int .i64 (cmpI x y)) ∧ w' = w := by
  unfold cmpI
  by_cases h1 : x < y
  · rw [if_pos h1]
    go_enter Try.func60, Try.ntmps60
    go_wp2
    all_goals go_ret
    all_goals exact ⟨rfl, rfl⟩
  · rw [if_neg h1]
    by_cases h2 : y < x
    · rw [if_pos h2]
      go_enter Try.func60, Try.ntmps60
      go_wp2
      all_goals go_ret
      all_goals exact ⟨rfl, rfl⟩
    · rw [if_neg h2]
      go_enter Try.func60, Try.ntmps60
      go_wp2
      all_goals go_ret
      all_goals exact ⟨rfl, rfl⟩
set_option maxRecDepth 100000 in
set_option maxHeartbeats 1600000 in
/-- The comparison of two that wait. -/
theorem wait2_any (h : Sc w b rv m ps ts H st wi c) {B : Nat} (hB : Blk w B 25 [ptr b]) {i j : Nat} {t u : Tk} (ht : ts[i]? = some t) (hu : ts[j]? = some u) :
    Calls Try.prog 59 #[.int .i64 i, .int .i64 j, ptr B] w fun e w' => e = .returned (.int .i64 (cmpI t.since u.since)) ∧ ∃ q, w' = w.drewN q := by
  obtain ⟨p, hp, P⟩ := h.task ht
  obtain ⟨q, hq, Q⟩ := h.task hu
  obtain ⟨gg, cap, hrv, hcp⟩ := h.at_ hp
  obtain ⟨g2, cap2, hrv2, hcq⟩ := h.at_ hq
  rw [hrv] at hrv2
  cases hrv2
  have hil : (i : Int) < (ps.length : Int) := by have := (List.getElem?_eq_some_iff.1 hp).1; omega
  have hjl : (j : Int) < (ps.length : Int) := by have := (List.getElem?_eq_some_iff.1 hq).1; omega
  have hi0 : (0 : Int) ≤ (i : Int) := by omega
  have hj0 : (0 : Int) ≤ (j : Int) := by omega
  have c0 := h.blk.cell1 0 _ rfl
  rw [hrv] at c0
  have b0 := hB.cell1 0 _ rfl
  have p4 := P.cell1 4 _ rfl
  have q4 := Q.cell1 4 _ rfl
  have HC := fun W => compare_any t.since u.since W
  generalize cmpI t.since u.since = R at *
  go_enter Try.func59, Try.ntmps59
  go_wp2
  go_region_held_law (fun w' => w'.cell? ⟨B, 0, none⟩ = some (ptr b) ∧ w'.cell? ⟨b, 0, none⟩ = some (.slice (some ⟨gg, 0, none⟩) ps.length cap) ∧ w'.cell? ⟨gg, i, none⟩ = some (ptr p) ∧ w'.cell? ⟨gg, j, none⟩ = some (ptr q) ∧ w'.cell? ⟨p, 4, none⟩ = some (.int .i64 t.since) ∧ w'.cell? ⟨q, 4, none⟩ = some (.int .i64 u.since))
    (first
      | (go_keep; done)
      | exact ⟨b0, c0, hcp, hcq, p4, q4⟩)
    (first | (go_at_call 60; refine (HC _).mono ?_; rintro e w1 ⟨rfl, hw1⟩))
  all_goals go_wp2
  all_goals go_ret
  all_goals exact ⟨rfl, 1, rfl⟩
end
end Go.Proofs.Ytkdjahgndkdnhaa
