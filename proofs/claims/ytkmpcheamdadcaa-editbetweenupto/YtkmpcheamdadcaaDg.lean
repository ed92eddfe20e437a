/-
  The reader's part f80: all parts but those of tables.
-/
import Derived.Test.YtkmpcheamdadcaaDf
namespace Go.Proofs.Ytkmpcheamdadcaa
open Go.RowKit
set_option linter.unusedVariables false
set_option linter.unusedSimpArgs false
theorem upd_box {w w' : World} {rb : Nat} (h : Upd (Is rb) w w') (i : Nat) (v : Value) : Upd (Is rb) w (w'.setCell ⟨rb, i, none⟩ v) := Upd.setCell (p := ⟨rb, i, none⟩) h (fun _ => rfl) _
set_option maxRecDepth 100000 in
set_option maxHeartbeats 2000000 in
theorem part2_ok {B M : Nat} {w : World} {rb : Nat} {l l1 l2 t : List Int} {n : Int} {P : En} {e : Ed} (h : Rs B M w rb l P e) (hp : pVar 1 l = .ok (n, l1)) (hq : pName l1 = .ok (t, l2)) :
    Calls Try.prog 80 #[ptr rb, .int .i64 2] w fun en w' => en = .returned (.tuple #[]) ∧ Rs B M w' rb l2 P { e with ma := true, how := n, name := bstr t } ∧ Upd (Is rb) w w' := by
  have hl := h.rd.lt.1
  have hb := pVar_bd2 hp
  have n0 := hb.1
  have n1 := hb.2.1
  clear hb
  go_enter Try.func80, Try.ntmps80
  go_wp2_with (first
    | (go_at_call 101; refine (name_ok R3.rd hq).mono ?_; rintro en w4 ⟨rfl, hr4, hu4⟩; have R4 := R3.call hr4 hu4; obtain ⟨c3, z3⟩ := R4.cell 3 _ rfl; have lt4 := R4.rd.lt.1)
    | (go_at_call 78; refine (varint_ok h.rd (by decide) (by decide) hp).mono ?_; rintro en w2 ⟨rfl, hr2, hu2⟩; have R2 := h.call hr2 hu2; obtain ⟨c1, z1⟩ := R2.cell 1 _ rfl; obtain ⟨c4, z4⟩ := R2.cell 4 _ rfl; have lt2 := R2.rd.lt.1; have R3 := (R2.set (e' := { e with ma := true }) 1 (.bool true) rfl rfl rfl).set (e' := { e with ma := true, how := n }) 4 (.int .i64 n) rfl rfl rfl))
  go_end0
  exact ⟨rfl, R4.set (e' := { e with ma := true, how := n, name := bstr t }) 3 (.string (bstr t)) rfl rfl rfl, upd_box ((upd_box (upd_box hu2 2 _) 5 _).trans hu4) 4 _⟩
set_option maxRecDepth 100000 in
set_option maxHeartbeats 2000000 in
theorem part2_e1 {B M : Nat} {w : World} {rb : Nat} {l : List Int} {c : Int} {P : En} {e : Ed} (h : Rs B M w rb l P e) (hp : pVar 1 l = .error c) :
    Calls Try.prog 80 #[ptr rb, .int .i64 2] w fun en w' => en = pnk c ∧ Upd (Is rb) w w' := by
  have hl := h.rd.lt.1
  go_enter Try.func80, Try.ntmps80
  go_wp2_with (go_at_call 78; refine (varint_err h.rd (by decide) (by decide) hp).mono ?_; rintro en w2 ⟨rfl, rfl⟩)
  exact ⟨rfl, rfl, Upd.refl _ _⟩
set_option maxRecDepth 100000 in
set_option maxHeartbeats 2000000 in
theorem part2_e2 {B M : Nat} {w : World} {rb : Nat} {l l1 : List Int} {n c : Int} {P : En} {e : Ed} (h : Rs B M w rb l P e) (hp : pVar 1 l = .ok (n, l1)) (hq : pName l1 = .error c) :
    Calls Try.prog 80 #[ptr rb, .int .i64 2] w fun en w' => en = pnk c ∧ Upd (Is rb) w w' := by
  have hl := h.rd.lt.1
  have hb := pVar_bd2 hp
  have n0 := hb.1
  have n1 := hb.2.1
  clear hb
  go_enter Try.func80, Try.ntmps80
  go_wp2_with (first
    | (go_at_call 101; refine (name_err R3.rd hq).mono ?_; rintro en w4 ⟨rfl, hu4⟩)
    | (go_at_call 78; refine (varint_ok h.rd (by decide) (by decide) hp).mono ?_; rintro en w2 ⟨rfl, hr2, hu2⟩; have R2 := h.call hr2 hu2; obtain ⟨c1, z1⟩ := R2.cell 1 _ rfl; obtain ⟨c4, z4⟩ := R2.cell 4 _ rfl; have lt2 := R2.rd.lt.1; have R3 := (R2.set (e' := { e with ma := true }) 1 (.bool true) rfl rfl rfl).set (e' := { e with ma := true, how := n }) 4 (.int .i64 n) rfl rfl rfl))
  exact ⟨rfl, rfl, (upd_box (upd_box hu2 2 _) 5 _).trans hu4⟩
set_option maxRecDepth 100000 in
set_option maxHeartbeats 2000000 in
theorem part3_ok {B M : Nat} {w : World} {rb : Nat} {l : List Int} {P : En} {e : Ed} (h : Rs B M w rb l P e) (hm : e.ma = false) :
    Calls Try.prog 80 #[ptr rb, .int .i64 3] w fun en w' => en = .returned (.tuple #[]) ∧ Rs B M w' rb l P { e with dr := true } ∧ Upd (Is rb) w w' := by
  have hl := h.rd.lt.1
  obtain ⟨c1, z1⟩ := h.cell 1 _ rfl
  obtain ⟨c2, z2⟩ := h.cell 2 _ rfl
  rw [hm] at c1
  go_enter Try.func80, Try.ntmps80
  go_wp2_with (go_at_call 77; refine (must_yes _).mono ?_; rintro en w3 ⟨rfl, rfl⟩)
  go_end0
  exact ⟨rfl, h.set (e' := { e with dr := true }) 2 (.bool true) rfl rfl rfl, upd_box (Upd.refl _ _) 3 _⟩
set_option maxRecDepth 100000 in
set_option maxHeartbeats 2000000 in
theorem part3_err {B M : Nat} {w : World} {rb : Nat} {l : List Int} {P : En} {e : Ed} (h : Rs B M w rb l P e) (hm : e.ma = true) :
    Calls Try.prog 80 #[ptr rb, .int .i64 3] w fun en w' => en = pnk 3 ∧ Upd (Is rb) w w' := by
  have hl := h.rd.lt.1
  obtain ⟨c1, z1⟩ := h.cell 1 _ rfl
  rw [hm] at c1
  go_enter Try.func80, Try.ntmps80
  go_wp2_with (go_at_call 77; refine (must_no _).mono ?_; rintro en w3 ⟨rfl, rfl⟩)
  exact ⟨rfl, rfl, Upd.refl _ _⟩
set_option maxRecDepth 100000 in
set_option maxHeartbeats 2000000 in
theorem part4_ok {B M : Nat} {w : World} {rb : Nat} {l l' : List Int} {v : Int} {P : En} {e : Ed} (h : Rs B M w rb l P e) (hp : pAny l = .ok (v, l')) :
    Calls Try.prog 80 #[ptr rb, .int .i64 4] w fun en w' => en = .returned (.tuple #[]) ∧ Rs B M w' rb l' P { e with hl := true, log := v } ∧ Upd (Is rb) w w' := by
  have hl := h.rd.lt.1
  go_enter Try.func80, Try.ntmps80
  go_wp2_with (go_at_call 102; refine (whatever_ok h.rd hp).mono ?_; rintro en w2 ⟨rfl, hr2, hu2⟩; have R2 := h.call hr2 hu2; obtain ⟨c5, z5⟩ := R2.cell 5 _ rfl; obtain ⟨c8, z8⟩ := R2.cell 8 _ rfl; have lt2 := R2.rd.lt.1)
  go_end0
  exact ⟨rfl, (R2.set (e' := { e with hl := true }) 5 (.bool true) rfl rfl rfl).set (e' := { e with hl := true, log := v }) 8 (.int .u64 v) rfl rfl rfl, upd_box (upd_box hu2 6 _) 9 _⟩
set_option maxRecDepth 100000 in
set_option maxHeartbeats 2000000 in
theorem part4_err {B M : Nat} {w : World} {rb : Nat} {l : List Int} {c : Int} {P : En} {e : Ed} (h : Rs B M w rb l P e) (hp : pAny l = .error c) :
    Calls Try.prog 80 #[ptr rb, .int .i64 4] w fun en w' => en = pnk c ∧ Upd (Is rb) w w' := by
  have hl := h.rd.lt.1
  go_enter Try.func80, Try.ntmps80
  go_wp2_with (go_at_call 102; refine (whatever_err h.rd hp).mono ?_; rintro en w2 ⟨rfl, rfl⟩)
  exact ⟨rfl, rfl, Upd.refl _ _⟩
set_option maxRecDepth 100000 in
set_option maxHeartbeats 2000000 in
theorem part5_ok {B M : Nat} {w : World} {rb : Nat} {l l' : List Int} {v : Int} {P : En} {e : Ed} (h : Rs B M w rb l P e) (hp : pAny l = .ok (v, l')) :
    Calls Try.prog 80 #[ptr rb, .int .i64 5] w fun en w' => en = .returned (.tuple #[]) ∧ Rs B M w' rb l' P { e with hn := true, next := v } ∧ Upd (Is rb) w w' := by
  have hl := h.rd.lt.1
  go_enter Try.func80, Try.ntmps80
  go_wp2_with (go_at_call 102; refine (whatever_ok h.rd hp).mono ?_; rintro en w2 ⟨rfl, hr2, hu2⟩; have R2 := h.call hr2 hu2; obtain ⟨c5, z5⟩ := R2.cell 6 _ rfl; obtain ⟨c8, z8⟩ := R2.cell 9 _ rfl; have lt2 := R2.rd.lt.1)
  go_end0
  exact ⟨rfl, (R2.set (e' := { e with hn := true }) 6 (.bool true) rfl rfl rfl).set (e' := { e with hn := true, next := v }) 9 (.int .u64 v) rfl rfl rfl, upd_box (upd_box hu2 7 _) 10 _⟩
set_option maxRecDepth 100000 in
set_option maxHeartbeats 2000000 in
theorem part5_err {B M : Nat} {w : World} {rb : Nat} {l : List Int} {c : Int} {P : En} {e : Ed} (h : Rs B M w rb l P e) (hp : pAny l = .error c) :
    Calls Try.prog 80 #[ptr rb, .int .i64 5] w fun en w' => en = pnk c ∧ Upd (Is rb) w w' := by
  have hl := h.rd.lt.1
  go_enter Try.func80, Try.ntmps80
  go_wp2_with (go_at_call 102; refine (whatever_err h.rd hp).mono ?_; rintro en w2 ⟨rfl, rfl⟩)
  exact ⟨rfl, rfl, Upd.refl _ _⟩
set_option maxRecDepth 100000 in
set_option maxHeartbeats 2000000 in
theorem part6_ok {B M : Nat} {w : World} {rb : Nat} {l l' : List Int} {v : Int} {P : En} {e : Ed} (h : Rs B M w rb l P e) (hp : pAny l = .ok (v, l')) :
    Calls Try.prog 80 #[ptr rb, .int .i64 6] w fun en w' => en = .returned (.tuple #[]) ∧ Rs B M w' rb l' P { e with hs := true, seq := v } ∧ Upd (Is rb) w w' := by
  have hl := h.rd.lt.1
  go_enter Try.func80, Try.ntmps80
  go_wp2_with (go_at_call 102; refine (whatever_ok h.rd hp).mono ?_; rintro en w2 ⟨rfl, hr2, hu2⟩; have R2 := h.call hr2 hu2; obtain ⟨c5, z5⟩ := R2.cell 7 _ rfl; obtain ⟨c8, z8⟩ := R2.cell 10 _ rfl; have lt2 := R2.rd.lt.1)
  go_end0
  exact ⟨rfl, (R2.set (e' := { e with hs := true }) 7 (.bool true) rfl rfl rfl).set (e' := { e with hs := true, seq := v }) 10 (.int .u64 v) rfl rfl rfl, upd_box (upd_box hu2 8 _) 11 _⟩
set_option maxRecDepth 100000 in
set_option maxHeartbeats 2000000 in
theorem part6_err {B M : Nat} {w : World} {rb : Nat} {l : List Int} {c : Int} {P : En} {e : Ed} (h : Rs B M w rb l P e) (hp : pAny l = .error c) :
    Calls Try.prog 80 #[ptr rb, .int .i64 6] w fun en w' => en = pnk c ∧ Upd (Is rb) w w' := by
  have hl := h.rd.lt.1
  go_enter Try.func80, Try.ntmps80
  go_wp2_with (go_at_call 102; refine (whatever_err h.rd hp).mono ?_; rintro en w2 ⟨rfl, rfl⟩)
  exact ⟨rfl, rfl, Upd.refl _ _⟩
set_option maxRecDepth 100000 in
set_option maxHeartbeats 2000000 in
theorem partx_err {B M : Nat} {w : World} {rb : Nat} {l : List Int} {n : Int} {P : En} {e : Ed} (h : Rs B M w rb l P e) (hn : n < 2 ∨ 8 < n) :
    Calls Try.prog 80 #[ptr rb, .int .i64 n] w fun en w' => en = pnk 3 ∧ Upd (Is rb) w w' := by
  have hl := h.rd.lt.1
  have q2 : (n == 2) = false := by simp; omega
  have q3 : (n == 3) = false := by simp; omega
  have q4 : (n == 4) = false := by simp; omega
  have q5 : (n == 5) = false := by simp; omega
  have q6 : (n == 6) = false := by simp; omega
  have q7 : (n == 7) = false := by simp; omega
  have q8 : (n == 8) = false := by simp; omega
  clear hn
  go_enter Try.func80, Try.ntmps80
  go_wp2
  exact ⟨rfl, rfl, Upd.refl _ _⟩
end Go.Proofs.Ytkmpcheamdadcaa
