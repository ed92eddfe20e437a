import Derived.Test.YtkdjahgndkdnhaaI
namespace Go.Proofs.Ytkdjahgndkdnhaa
open Go.RowKit Go.Maps
set_option linter.unusedVariables false
set_option linter.unusedSimpArgs false
section
variable {w : World} {b : Nat} {rv : Value} {m : Nat} {ps : List Nat} {ts : List Tk} {H : Int → Option Int} {st : Nat} {wi : Bool} {c : Nat}
set_option maxRecDepth 100000 in
set_option maxHeartbeats 800000 in
theorem is_any (h : Sc w b rv m ps ts H st wi c) {n : Nat} (hn : n < ps.length) : Calls Try.prog 49 #[ptr b, .int .i64 n] w fun e w' => e = .returned (.bool true) ∧ w' = w := by
  obtain ⟨ra, rc, hrv⟩ := h.rvlen
  have c0 := h.blk.cell1 0 _ rfl
  rw [hrv] at c0
  have h1 : (n : Int) < (ps.length : Int) := by omega
  have h0 : (0 : Int) ≤ (n : Int) := by omega
  go_enter Try.func49, Try.ntmps49
  go_wp2
  go_ret
  exact ⟨rfl, rfl⟩
theorem Sc.mapped {w' : World} {H' : Int → Option Int} {c' : Nat} {D' : DataW Unit} (h : Sc w b rv m ps ts H st wi c) (hI : IM w' m H' c' D') (U : Upd (fun k => k = m) w w') : Sc w' b rv m ps ts H' st wi c' := by
  obtain ⟨D, hD⟩ := h.map
  exact ⟨h.blk.upd U (fun e => hD.ne h.blk e.symm), row_upd h.row U (fun k hk e => hD.ner h.row k hk e), fun i q x hq hx => (h.tks i q x hq hx).upd U (fun e => hD.ne (h.tks i q x hq hx) e.symm), h.len, h.nd, D', hI⟩
/-- What Unlock answers, and leaves. -/
def unE (H : Int → Option Int) (n : Nat) (x : Int) : Int := if H x = some (n : Int) then 0 else 41
def unH (H : Int → Option Int) (n : Nat) (x : Int) : Int → Option Int := if H x = some (n : Int) then fput H x none else H
set_option maxRecDepth 100000 in
set_option maxHeartbeats 800000 in
theorem unlock_any (h : Sc w b rv m ps ts H st wi c) {n : Nat} (hn : n < ps.length) {x : Int} (hx : I64 x) :
    Calls Try.prog 32 #[ptr b, .int .i64 n, .int .i64 x] w fun e w' => e = .returned (.int .i64 (unE H n x)) ∧ Sc w' b rv m ps ts (unH H n x) st wi c ∧ Upd (fun k => k = m) w w' := by
  obtain ⟨D, hD⟩ := h.map
  have hl := hD.lookup hx
  have HI := is_any h hn
  have c1 := h.blk.cell1 1 _ rfl
  obtain ⟨w', D', hr, hI, hg⟩ := hD.drop hx 0
  have U : Upd (fun k => k = m) w w' := (Upd.refl (fun k => k = m) w).grown hg (fun k hk _ => by cases hk; rfl)
  cases hH : H x with
  | none =>
    have e1 : unE H n x = 41 := by unfold unE; rw [hH]; simp
    have e2 : unH H n x = H := by unfold unH; rw [hH]; simp
    rw [hH] at hl
    rw [e1, e2]
    clear hr hI hg U e1 e2
    go_enter Try.func32, Try.ntmps32
    go_wp2_with (go_at_call 49; refine HI.mono ?_; rintro e w1 ⟨rfl, rfl⟩)
    go_ret
    exact ⟨rfl, h, Upd.refl _ _⟩
  | some v =>
    rw [hH] at hl
    by_cases hv : v = n
    · subst hv
      have e1 : unE H n x = 0 := by unfold unE; rw [hH]; simp
      have e2 : unH H n x = fput H x none := by unfold unH; rw [hH]; simp
      rw [e1, e2]
      clear e1 e2
      go_enter Try.func32, Try.ntmps32
      go_wp2_with (go_at_call 49; refine HI.mono ?_; rintro e w1 ⟨rfl, rfl⟩)
      go_ret
      exact ⟨rfl, h.mapped hI U, U⟩
    · have hv' : (v != (n : Int)) = true := by simpa using hv
      have e1 : unE H n x = 41 := by unfold unE; rw [hH]; simp [hv]
      have e2 : unH H n x = H := by unfold unH; rw [hH]; simp [hv]
      rw [e1, e2]
      clear hr hI hg U e1 e2
      go_enter Try.func32, Try.ntmps32
      go_wp2_with (go_at_call 49; refine HI.mono ?_; rintro e w1 ⟨rfl, rfl⟩)
      go_ret
      exact ⟨rfl, h, Upd.refl _ _⟩
set_option maxRecDepth 100000 in
set_option maxHeartbeats 800000 in
theorem run_within (h : Sc w b rv m ps ts H st true c) (v : Value) (k : Int) : Calls Try.prog 17 #[ptr b, v, .int .i64 k] w fun e w' => e = .returned (.tuple #[.int .i64 0, .int .i64 8]) ∧ w' = w := by
  have c3 := h.blk.cell1 3 _ rfl
  go_enter Try.func17, Try.ntmps17
  go_wp2
  go_ret2
  exact ⟨rfl, rfl⟩
end
end Go.Proofs.Ytkdjahgndkdnhaa
