import Derived.Test.YtkpijoogaicodaaBa
import Derived.Lib.SliceRun
namespace Go.Proofs.Ytkpijoogaicodaa
open Go.RowKit
set_option linter.unusedVariables false
set_option linter.unusedSimpArgs false

abbrev ptr (b : Nat) : Value := .pointer (some ⟨b, 0, none⟩)
set_option maxRecDepth 100000 in
set_option maxHeartbeats 400000 in
theorem size_any {w : World} {b : Nat} {rv mv : Value} {n : Nat} (h : Blk w b 43 (btC rv n mv)) (hn : n ≤ 5000000) :
    Calls Try.prog 21 #[ptr b] w fun e w' => e = .returned (.int .i64 (12 + (n : Int))) ∧ w' = w := by
  have c1 := h.cell1 1 _ rfl
  have hn' : (n : Int) ≤ 5000000 := by omega
  go_enter Try.func21, Try.ntmps21
  go_wp2
  go_ret
  exact ⟨rfl, rfl⟩

set_option maxRecDepth 100000 in
set_option maxHeartbeats 1000000 in
/-- join: too much. -/
theorem join_no {w : World} {b : Nat} {rv mv : Value} {n by_ m : Nat} {rs : List Rec} (h : Blk w b 43 (btC rv n mv)) (hr : w.ownsRow 0 31 4 rv rs.length (rcs rs)) (hn : n ≤ 5000000) (hb : by_ ≤ 5000000) (a : Option Addr) (c : Nat) (hm : m ≤ 1000000) (hrs : rs.length ≤ 1000000)
    (hno : 4096 < rs.length + m ∨ 4194304 < 12 + n + by_) :
    Calls Try.prog 53 #[ptr b, .int .i64 by_, .slice a m c] w fun e w' => e = .returned (.int .i64 2) ∧ w' = w := by
  have c0 := h.cell1 0 _ rfl
  obtain ⟨ra, rc, rfl⟩ := (row_rd hr).len
  clear hr
  generalize rs.length = k at *
  have HS := size_any h hn
  by_cases h1 : 4096 < (k : Int) + (m : Int)
  · go_enter Try.func53, Try.ntmps53
    go_wp2
    go_ret
    exact ⟨rfl, rfl⟩
  · have h2 : 4194304 < 12 + (n : Int) + (by_ : Int) := by omega
    have h3 : (n : Int) ≤ 5000000 := by omega
    have h4 : (by_ : Int) ≤ 5000000 := by omega
    clear hno
    go_enter Try.func53, Try.ntmps53
    go_wp2_with (go_at_call 21; refine HS.mono ?_; rintro e w' ⟨rfl, rfl⟩)
    go_ret
    exact ⟨rfl, rfl⟩
/-- What a batch's blocks are. -/
def Of (b : Nat) (rv : Value) : Nat → Prop := fun k => k = b ∨ rv.ownBlock = some k
set_option maxRecDepth 100000 in
set_option maxHeartbeats 1000000 in
/-- join: it is done. -/
theorem join_yes {w : World} {b : Nat} {rv mv sv : Value} {n by_ : Nat} {rs l : List Rec} (h : Blk w b 43 (btC rv n mv)) (hr : w.ownsRow 0 31 4 rv rs.length (rcs rs)) (hs : RdR w sv l) 
    (h1 : rs.length + l.length ≤ 4096) (h2 : 12 + n + by_ ≤ 4194304) :
    Calls Try.prog 53 #[ptr b, .int .i64 by_, sv] w fun e w' => ∃ rv', e = .returned (.int .i64 0) ∧ Blk w' b 43 (btC rv' (n + by_ : Nat) mv) ∧ w'.ownsRow 0 31 4 rv' (rs ++ l).length (rcs (rs ++ l)) ∧ Upd (Of b rv) w w' ∧ (rv'.ownBlock = rv.ownBlock ∨ rv'.ownBlock = some w.heap.size) := by
  have c0 := h.cell1 0 _ rfl
  have HS := size_any h (by omega)
  have nrb := row_ne hr h (by decide)
  obtain ⟨ra, rc, hrv⟩ := (row_rd hr).len
  obtain ⟨sa, sc, hsv⟩ := hs.len
  have i1 : ((rs.length : Int) + (l.length : Int)) ≤ 4096 := by omega
  have i2 : 12 + (n : Int) + (by_ : Int) ≤ 4194304 := by omega
  have hn48 : (rs.length + l.length) * 48 ≤ 140737488355328 := by omega
  subst hrv hsv
  go_enter Try.func53, Try.ntmps53
  go_wp2_with (first
    | (go_at_call 21; refine HS.mono ?_; rintro e w' ⟨rfl, rfl⟩)
    | (at_builtin; refine wpList_append_rows (rv := .slice ra rs.length rc) (sv := .slice sa l.length sc) rfl _ _ rfl rfl rfl hr (Nat.zero_le _) hs hn48 ?_
       intro v' w1 ho hg hloc
       obtain ⟨ra', rc', rfl⟩ := (row_rd ho).len
       have B1 := h.upd (S := fun k => Value.ownBlock (.slice ra rs.length rc) = some k) ((Upd.refl _ _).grown hg (fun k hk _ => hk)) (fun hk => nrb b hk rfl)
       have d0 := B1.cell1 0 _ rfl
       have d1 := B1.cell1 1 _ rfl
       have f0 := B1.frozen 0
       have f1 := B1.frozen 1))
  go_ret
  have nrb' := row_ne ho B1 (by decide)
  refine ⟨.slice ra' (rs ++ l).length rc', rfl, ?_, ?_, ?_, hloc⟩
  · have e : ((n + by_ : Nat) : Int) = n + by_ := by omega
    rw [e]
    have := (B1.set 0 (.slice ra' (rs ++ l).length rc')).set 1 (.int .i64 ((n : Int) + by_))
    rw [List.length_append] at this ⊢
    exact this
  · exact row_upd ho (S := fun k => k = b) (Upd.setCell (p := ⟨b, 1, none⟩) (Upd.setCell (p := ⟨b, 0, none⟩) (Upd.refl (fun k => k = b) w1) (fun _ => rfl) _) (fun _ => rfl) _) (fun k hk e => nrb' k hk e)
  · exact Upd.setCell (p := ⟨b, 1, none⟩) (Upd.setCell (p := ⟨b, 0, none⟩) ((Upd.refl _ _).grown hg (fun k hk _ => .inr hk)) (fun _ => .inl rfl) _) (fun _ => .inl rfl) _
end Go.Proofs.Ytkpijoogaicodaa
