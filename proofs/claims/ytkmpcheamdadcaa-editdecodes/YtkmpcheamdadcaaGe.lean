/-
  The reference's reader with an edit under way; part f45: all parts but those of tables.
  The reference's reader: part f45, the parts of tables.
  The reference's reader: part f45, a table that is added.
-/
import Derived.Test.YtkmpcheamdadcaaGb
import Derived.Test.YtkmpcheamdadcaaDh
namespace Go.Proofs.Ytkmpcheamdadcaa
open Go.RowKit
set_option linter.unusedVariables false
set_option linter.unusedSimpArgs false
/-- The reference's reader, and the edit's box. -/
structure Qs (B M : Nat) (w : World) (qb eb : Nat) (s : List Int × Int) (P : En) (e : Ed) : Prop where
  rd : Qr B w qb s
  bx : Blk w eb 27 (edA P e).toList
  o : OwnE w M P e
  n : e.gone.length + e.added.length ≤ 1024
  m : B ≤ M ∧ M ≤ w.heap.size
  eb : B ≤ eb
def Fq (M qb eb : Nat) : Nat → Prop := fun k => k = qb ∨ k = eb ∨ M ≤ k
theorem Qs.rb {B M : Nat} {w : World} {qb eb : Nat} {s : List Int × Int} {P : En} {e : Ed} (h : Qs B M w qb eb s P e) : ∃ v u, Blk w qb 84 [v, u] := by
  obtain ⟨a, cap, hB, _⟩ := h.rd
  exact ⟨_, _, hB⟩
theorem Qs.ne {B M : Nat} {w : World} {qb eb : Nat} {s : List Int × Int} {P : En} {e : Ed} (h : Qs B M w qb eb s P e) : qb ≠ eb := by
  obtain ⟨v, u, hB⟩ := h.rb
  exact hB.ne h.bx (by decide)
theorem Qs.call {B M : Nat} {w w' : World} {qb eb : Nat} {s s' : List Int × Int} {P : En} {e : Ed} (h : Qs B M w qb eb s P e) (hr : Qr B w' qb s') (hu : Upd (Is qb) w w') : Qs B M w' qb eb s' P e := by
  obtain ⟨v, u, hB⟩ := h.rb
  have hn := h.ne
  exact ⟨hr, h.bx.upd hu (by unfold Is; omega), ⟨row_upd h.o.g hu (fun k hk e => row_ne h.o.g hB (by decide) k hk e), row_upd h.o.a hu (fun k hk e => row_ne h.o.a hB (by decide) k hk e)⟩, h.n, ⟨h.m.1, Nat.le_trans h.m.2 hu.size⟩, h.eb⟩
theorem Qs.below {B M : Nat} {w w' : World} {qb eb : Nat} {s : List Int × Int} {P : En} {e : Ed} (h : Qs B M w qb eb s P e) (hb : Below w.heap.size w w') : Qs B M w' qb eb s P e := h.call (h.rd.below hb) (Upd.ofBelow hb)
theorem Qs.set {B M : Nat} {w : World} {qb eb : Nat} {s : List Int × Int} {P : En} {e e' : Ed} (h : Qs B M w qb eb s P e) (i : Nat) (v : Value) (hc : (edA P e).toList.set i v = (edA P e').toList) (hg : e'.gone = e.gone) (ha : e'.added = e.added) : Qs B M (w.setCell ⟨eb, i, none⟩ v) qb eb s P e' := by
  have I : Is eb eb := rfl
  have U : Upd (Is eb) w (w.setCell ⟨eb, i, none⟩ v) := Upd.setCell (p := ⟨eb, i, none⟩) (Upd.refl (Is eb) w) (fun _ => I) _
  have hn := h.ne
  have he := h.eb
  refine ⟨h.rd.upd U (by unfold Is; omega) (fun k hk => by unfold Is; omega), hc ▸ h.bx.set i v, ⟨?_, ?_⟩, by rw [hg, ha]; exact h.n, ⟨h.m.1, Nat.le_trans h.m.2 U.size⟩, h.eb⟩
  · rw [hg]; exact row_upd h.o.g U (fun k hk e => row_ne h.o.g h.bx (by decide) k hk e)
  · rw [ha]; exact row_upd h.o.a U (fun k hk e => row_ne h.o.a h.bx (by decide) k hk e)
theorem Qs.cell {B M : Nat} {w : World} {qb eb : Nat} {s : List Int × Int} {P : En} {e : Ed} (h : Qs B M w qb eb s P e) (i : Nat) (v : Value) (hv : (edA P e).toList[i]? = some v) : w.cell? ⟨eb, i, none⟩ = some v ∧ w.frozen? ⟨eb, i, none⟩ = false := ⟨h.bx.cell1 i v hv, h.bx.frozen i⟩
theorem Qs.size {B M : Nat} {w : World} {qb eb : Nat} {s : List Int × Int} {P : En} {e : Ed} (h : Qs B M w qb eb s P e) : M ≤ w.heap.size := h.m.2
theorem fq_q {M qb eb : Nat} {w w' : World} (u : Upd (Is qb) w w') : Upd (Fq M qb eb) w w' := u.mono (fun k _ hk => .inl hk)
theorem fq_e {M qb eb : Nat} {w w' : World} (u : Upd (Fq M qb eb) w w') (i : Nat) (v : Value) : Upd (Fq M qb eb) w (w'.setCell ⟨eb, i, none⟩ v) := Upd.setCell (p := ⟨eb, i, none⟩) u (fun _ => .inr (.inl rfl)) _
theorem qnum_as {most v : Int} {s s1 : List Int × Int} (h : qNum most s = (v, s1)) (m0 : 0 ≤ most) (m1 : most < 18446744073709551616) {B : Nat} {W : World} {qb : Nat} (hq : Qr B W qb s) :
    Calls Try.prog 81 #[ptr qb, .int .u64 most] W fun en w' => en = .returned (.int .u64 v) ∧ Qr B w' qb s1 ∧ Upd (Is qb) W w' := by
  have := qnum_any hq most m0 m1
  rw [h] at this; exact this
theorem qtext_as {n : Int} {t : List Int} {s s1 : List Int × Int} (h : qText n s = (t, s1)) (m0 : 0 ≤ n) (m1 : n < 18446744073709551616) {B : Nat} {W : World} {qb : Nat} (hq : Qr B W qb s) :
    Calls Try.prog 82 #[ptr qb, .int .u64 n] W fun en w' => ∃ a len cap, en = .returned (.slice a len cap) ∧ (convert 28 9 (.slice a len cap)).run Try.prog w' = .ok (.string (bstr t)) w' ∧ Qr B w' qb s1 ∧ Upd (Is qb) W w' := by
  have := qtext_any hq n m0 m1
  rw [h] at this
  refine this.mono ?_
  rintro en w' ⟨⟨a, len, cap, h1, h2, h3⟩, h4, h5⟩
  exact ⟨a, len, cap, h1, h2.str, h4, h5⟩
theorem qkey_as {k : Ky} {s s1 : List Int × Int} (h : qKey s = (k, s1)) {B : Nat} {W : World} {qb : Nat} (hq : Qr B W qb s) :
    Calls Try.prog 84 #[ptr qb] W fun en w' => en = .returned (.agg #[.string k.u, .int .u64 k.s, .int .i64 k.k]) ∧ Qr B w' qb s1 ∧ Upd (Is qb) W w' := by
  have := qkey_any hq
  rw [h] at this; exact this
set_option maxRecDepth 100000 in
set_option maxHeartbeats 2000000 in
theorem qpart1 {B M : Nat} {w : World} {qb eb : Nat} {s s1 : List Int × Int} {v : Int} {P : En} {e : Ed} (h : Qs B M w qb eb s P e) (h1 : qNum 4294967295 s = (v, s1)) :
    Calls Try.prog 45 #[ptr qb, .int .u8 1, .pointer (some ⟨eb, 0, none⟩)] w fun en w' => en = .returned (.tuple #[]) ∧ (∃ P', Qs B M w' qb eb s1 P' { e with fam := IntKind.u32.wrap v }) ∧ Upd (Fq M qb eb) w w' := by
  have le := h.bx.lt
  go_enter Try.func45, Try.ntmps45
  go_wp2_with (go_at_call 81; refine (qnum_as h1 (by decide) (by decide) h.rd).mono ?_; rintro en w2 ⟨rfl, hr2, hu2⟩; have R2 := h.call hr2 hu2; obtain ⟨c0, z0⟩ := R2.cell 0 _ rfl; have lt2 := R2.bx.lt)
  go_end0
  exact ⟨rfl, ⟨P, R2.set (e' := { e with fam := IntKind.u32.wrap v }) 0 (.int .u32 (IntKind.u32.wrap v)) rfl rfl rfl⟩, fq_e (fq_q hu2) 0 _⟩
set_option maxRecDepth 100000 in
set_option maxHeartbeats 2000000 in
theorem qpart4 {B M : Nat} {w : World} {qb eb : Nat} {s s1 : List Int × Int} {v : Int} {P : En} {e : Ed} (h : Qs B M w qb eb s P e) (h1 : qNum 18446744073709551615 s = (v, s1)) :
    Calls Try.prog 45 #[ptr qb, .int .u8 4, .pointer (some ⟨eb, 0, none⟩)] w fun en w' => en = .returned (.tuple #[]) ∧ (∃ P', Qs B M w' qb eb s1 P' { e with hl := true, log := v }) ∧ Upd (Fq M qb eb) w w' := by
  have le := h.bx.lt
  go_enter Try.func45, Try.ntmps45
  go_wp2_with (go_at_call 81; refine (qnum_as h1 (by decide) (by decide) h.rd).mono ?_; rintro en w2 ⟨rfl, hr2, hu2⟩; have R2 := h.call hr2 hu2; obtain ⟨c0, z0⟩ := R2.cell 5 _ rfl; obtain ⟨c1, z1⟩ := R2.cell 8 _ rfl; have lt2 := R2.bx.lt)
  go_end0
  exact ⟨rfl, ⟨P, (R2.set (e' := { e with hl := true }) 5 (.bool true) rfl rfl rfl).set (e' := { e with hl := true, log := v }) 8 (.int .u64 v) rfl rfl rfl⟩, fq_e (fq_e (fq_q hu2) 5 _) 8 _⟩
set_option maxRecDepth 100000 in
set_option maxHeartbeats 2000000 in
theorem qpart5 {B M : Nat} {w : World} {qb eb : Nat} {s s1 : List Int × Int} {v : Int} {P : En} {e : Ed} (h : Qs B M w qb eb s P e) (h1 : qNum 18446744073709551615 s = (v, s1)) :
    Calls Try.prog 45 #[ptr qb, .int .u8 5, .pointer (some ⟨eb, 0, none⟩)] w fun en w' => en = .returned (.tuple #[]) ∧ (∃ P', Qs B M w' qb eb s1 P' { e with hn := true, next := v }) ∧ Upd (Fq M qb eb) w w' := by
  have le := h.bx.lt
  go_enter Try.func45, Try.ntmps45
  go_wp2_with (go_at_call 81; refine (qnum_as h1 (by decide) (by decide) h.rd).mono ?_; rintro en w2 ⟨rfl, hr2, hu2⟩; have R2 := h.call hr2 hu2; obtain ⟨c0, z0⟩ := R2.cell 6 _ rfl; obtain ⟨c1, z1⟩ := R2.cell 9 _ rfl; have lt2 := R2.bx.lt)
  go_end0
  exact ⟨rfl, ⟨P, (R2.set (e' := { e with hn := true }) 6 (.bool true) rfl rfl rfl).set (e' := { e with hn := true, next := v }) 9 (.int .u64 v) rfl rfl rfl⟩, fq_e (fq_e (fq_q hu2) 6 _) 9 _⟩
set_option maxRecDepth 100000 in
set_option maxHeartbeats 2000000 in
theorem qpart6 {B M : Nat} {w : World} {qb eb : Nat} {s s1 : List Int × Int} {v : Int} {P : En} {e : Ed} (h : Qs B M w qb eb s P e) (h1 : qNum 18446744073709551615 s = (v, s1)) :
    Calls Try.prog 45 #[ptr qb, .int .u8 6, .pointer (some ⟨eb, 0, none⟩)] w fun en w' => en = .returned (.tuple #[]) ∧ (∃ P', Qs B M w' qb eb s1 P' { e with hs := true, seq := v }) ∧ Upd (Fq M qb eb) w w' := by
  have le := h.bx.lt
  go_enter Try.func45, Try.ntmps45
  go_wp2_with (go_at_call 81; refine (qnum_as h1 (by decide) (by decide) h.rd).mono ?_; rintro en w2 ⟨rfl, hr2, hu2⟩; have R2 := h.call hr2 hu2; obtain ⟨c0, z0⟩ := R2.cell 7 _ rfl; obtain ⟨c1, z1⟩ := R2.cell 10 _ rfl; have lt2 := R2.bx.lt)
  go_end0
  exact ⟨rfl, ⟨P, (R2.set (e' := { e with hs := true }) 7 (.bool true) rfl rfl rfl).set (e' := { e with hs := true, seq := v }) 10 (.int .u64 v) rfl rfl rfl⟩, fq_e (fq_e (fq_q hu2) 7 _) 10 _⟩
set_option maxRecDepth 100000 in
set_option maxHeartbeats 2000000 in
theorem qpart3y {B M : Nat} {w : World} {qb eb : Nat} {s : List Int × Int} {P : En} {e : Ed} (h : Qs B M w qb eb s P e) (hm : e.ma = false) :
    Calls Try.prog 45 #[ptr qb, .int .u8 3, .pointer (some ⟨eb, 0, none⟩)] w fun en w' => en = .returned (.tuple #[]) ∧ (∃ P', Qs B M w' qb eb s P' { e with dr := true }) ∧ Upd (Fq M qb eb) w w' := by
  have le := h.bx.lt
  obtain ⟨c1, z1⟩ := h.cell 1 _ rfl
  obtain ⟨c2, z2⟩ := h.cell 2 _ rfl
  rw [hm] at c1
  go_enter Try.func45, Try.ntmps45
  go_wp2
  go_end0
  exact ⟨rfl, ⟨P, h.set (e' := { e with dr := true }) 2 (.bool true) rfl rfl rfl⟩, fq_e (Upd.refl _ _) 2 _⟩
set_option maxRecDepth 100000 in
set_option maxHeartbeats 2000000 in
theorem qpart3n {B M : Nat} {w : World} {qb eb : Nat} {l : List Int} {P : En} {e : Ed} (h : Qs B M w qb eb (l, 0) P e) (hm : e.ma = true) :
    Calls Try.prog 45 #[ptr qb, .int .u8 3, .pointer (some ⟨eb, 0, none⟩)] w fun en w' => en = .returned (.tuple #[]) ∧ (∃ P', Qs B M w' qb eb (l, 3) P' { e with dr := true }) ∧ Upd (Fq M qb eb) w w' := by
  have le := h.bx.lt
  obtain ⟨c1, z1⟩ := h.cell 1 _ rfl
  rw [hm] at c1
  go_enter Try.func45, Try.ntmps45
  go_wp2_with (go_at_call 83; refine (bad_any h.rd 3).mono ?_; rintro en w2 ⟨rfl, hr2, hu2⟩; rw [if_pos rfl] at hr2; have R2 := h.call hr2 hu2; obtain ⟨c2, z2⟩ := R2.cell 2 _ rfl; have lt2 := R2.bx.lt)
  go_end0
  exact ⟨rfl, ⟨P, R2.set (e' := { e with dr := true }) 2 (.bool true) rfl rfl rfl⟩, fq_e (fq_q hu2) 2 _⟩
set_option maxRecDepth 100000 in
set_option maxHeartbeats 2000000 in
theorem qpart2z {B M : Nat} {w : World} {qb eb : Nat} {s s1 s4 : List Int × Int} {l2 t : List Int} {v1 v2 y2 : Int} {P : En} {e : Ed} (h : Qs B M w qb eb s P e) (h1 : qNum 1 s = (v1, s1)) (h2 : qNum 64 s1 = (v2, (l2, y2))) (hz : y2 = 0 ∧ v2 = 0) (h3 : qText v2 (l2, 3) = (t, s4)) :
    Calls Try.prog 45 #[ptr qb, .int .u8 2, .pointer (some ⟨eb, 0, none⟩)] w fun en w' => en = .returned (.tuple #[]) ∧ (∃ P', Qs B M w' qb eb s4 P' { e with ma := true, how := wrap64 v1, name := bstr t }) ∧ Upd (Fq M qb eb) w w' := by
  have le := h.bx.lt
  obtain ⟨c1, z1⟩ := h.cell 1 _ rfl
  have R1 := h.set (e' := { e with ma := true }) 1 (.bool true) rfl rfl rfl
  have hb2 := qNum_bd 64 s1
  rw [h2] at hb2
  obtain ⟨b0, b1⟩ := hb2
  dsimp only at b0 b1
  obtain ⟨rfl, rfl⟩ := hz
  go_enter Try.func45, Try.ntmps45
  go_wp2_with (first
    | (go_at_call 82; refine (qtext_as h3 b0 b1 R3z.rd).mono ?_; rintro en w4 ⟨a4, n4, k4, rfl, hs4, hr4, hu4⟩; have R4 := R3z.call hr4 hu4; obtain ⟨c3, z3⟩ := R4.cell 3 _ rfl; have lt4 := R4.bx.lt)
    | (go_at_call_of 81 (Value.int IntKind.u64 64); refine (qnum_as h2 (by decide) (by decide) R2'.rd).mono ?_; rintro en w3 ⟨rfl, hr3, hu3⟩; have R3 := R2'.call hr3 hu3; have hB3 := hr3; obtain ⟨_, _, hB3, _⟩ := hB3; have d1 := hB3.cell1 1 _ rfl; have e1 := hB3.frozen 1; have l3 := hB3.lt; dsimp only at d1; have W3 := hr3.why 3; have R3z := R3.call W3.1 W3.2)
    | (go_at_call 81; refine (qnum_as h1 (by decide) (by decide) R1.rd).mono ?_; rintro en w2 ⟨rfl, hr2, hu2⟩; have R2 := R1.call hr2 hu2; obtain ⟨c4, z4⟩ := R2.cell 4 _ rfl; have lt2 := R2.bx.lt; have R2' := R2.set (e' := { e with ma := true, how := wrap64 v1 }) 4 (.int .i64 (wrap64 v1)) rfl rfl rfl))
  go_end0
  exact ⟨rfl, ⟨P, R4.set (e' := { e with ma := true, how := wrap64 v1, name := bstr t }) 3 (.string (bstr t)) rfl rfl rfl⟩, fq_e ((((fq_e ((fq_e (Upd.refl _ _) 1 _).trans (fq_q hu2)) 4 _).trans (fq_q hu3)).trans (fq_q W3.2)).trans (fq_q hu4)) 3 _⟩
set_option maxRecDepth 100000 in
set_option maxHeartbeats 2000000 in
theorem qpart2e {B M : Nat} {w : World} {qb eb : Nat} {s s1 s4 : List Int × Int} {l2 t : List Int} {v1 v2 y2 : Int} {P : En} {e : Ed} (h : Qs B M w qb eb s P e) (h1 : qNum 1 s = (v1, s1)) (h2 : qNum 64 s1 = (v2, (l2, y2))) (hz : y2 ≠ 0) (h3 : qText v2 (l2, y2) = (t, s4)) :
    Calls Try.prog 45 #[ptr qb, .int .u8 2, .pointer (some ⟨eb, 0, none⟩)] w fun en w' => en = .returned (.tuple #[]) ∧ (∃ P', Qs B M w' qb eb s4 P' { e with ma := true, how := wrap64 v1, name := bstr t }) ∧ Upd (Fq M qb eb) w w' := by
  have le := h.bx.lt
  obtain ⟨c1, z1⟩ := h.cell 1 _ rfl
  have R1 := h.set (e' := { e with ma := true }) 1 (.bool true) rfl rfl rfl
  have hb2 := qNum_bd 64 s1
  rw [h2] at hb2
  obtain ⟨b0, b1⟩ := hb2
  dsimp only at b0 b1
  have q1 : (y2 == 0) = false := by simpa using hz
  go_enter Try.func45, Try.ntmps45
  go_wp2_with (first
    | (go_at_call 82; refine (qtext_as h3 b0 b1 R3.rd).mono ?_; rintro en w4 ⟨a4, n4, k4, rfl, hs4, hr4, hu4⟩; have R4 := R3.call hr4 hu4; obtain ⟨c3, z3⟩ := R4.cell 3 _ rfl; have lt4 := R4.bx.lt)
    | (go_at_call_of 81 (Value.int IntKind.u64 64); refine (qnum_as h2 (by decide) (by decide) R2'.rd).mono ?_; rintro en w3 ⟨rfl, hr3, hu3⟩; have R3 := R2'.call hr3 hu3; have hB3 := hr3; obtain ⟨_, _, hB3, _⟩ := hB3; have d1 := hB3.cell1 1 _ rfl; have e1 := hB3.frozen 1; have l3 := hB3.lt; dsimp only at d1)
    | (go_at_call 81; refine (qnum_as h1 (by decide) (by decide) R1.rd).mono ?_; rintro en w2 ⟨rfl, hr2, hu2⟩; have R2 := R1.call hr2 hu2; obtain ⟨c4, z4⟩ := R2.cell 4 _ rfl; have lt2 := R2.bx.lt; have R2' := R2.set (e' := { e with ma := true, how := wrap64 v1 }) 4 (.int .i64 (wrap64 v1)) rfl rfl rfl))
  go_end0
  exact ⟨rfl, ⟨P, R4.set (e' := { e with ma := true, how := wrap64 v1, name := bstr t }) 3 (.string (bstr t)) rfl rfl rfl⟩, fq_e ((((fq_e ((fq_e (Upd.refl _ _) 1 _).trans (fq_q hu2)) 4 _).trans (fq_q hu3))).trans (fq_q hu4)) 3 _⟩
set_option maxRecDepth 100000 in
set_option maxHeartbeats 2000000 in
theorem qpart2n {B M : Nat} {w : World} {qb eb : Nat} {s s1 s4 : List Int × Int} {l2 t : List Int} {v1 v2 y2 : Int} {P : En} {e : Ed} (h : Qs B M w qb eb s P e) (h1 : qNum 1 s = (v1, s1)) (h2 : qNum 64 s1 = (v2, (l2, y2))) (hz : y2 = 0 ∧ v2 ≠ 0) (h3 : qText v2 (l2, y2) = (t, s4)) :
    Calls Try.prog 45 #[ptr qb, .int .u8 2, .pointer (some ⟨eb, 0, none⟩)] w fun en w' => en = .returned (.tuple #[]) ∧ (∃ P', Qs B M w' qb eb s4 P' { e with ma := true, how := wrap64 v1, name := bstr t }) ∧ Upd (Fq M qb eb) w w' := by
  have le := h.bx.lt
  obtain ⟨c1, z1⟩ := h.cell 1 _ rfl
  have R1 := h.set (e' := { e with ma := true }) 1 (.bool true) rfl rfl rfl
  have hb2 := qNum_bd 64 s1
  rw [h2] at hb2
  obtain ⟨b0, b1⟩ := hb2
  dsimp only at b0 b1
  obtain ⟨rfl, hv⟩ := hz
  have q1 : (v2 == 0) = false := by simpa using hv
  go_enter Try.func45, Try.ntmps45
  go_wp2_with (first
    | (go_at_call 82; refine (qtext_as h3 b0 b1 R3.rd).mono ?_; rintro en w4 ⟨a4, n4, k4, rfl, hs4, hr4, hu4⟩; have R4 := R3.call hr4 hu4; obtain ⟨c3, z3⟩ := R4.cell 3 _ rfl; have lt4 := R4.bx.lt)
    | (go_at_call_of 81 (Value.int IntKind.u64 64); refine (qnum_as h2 (by decide) (by decide) R2'.rd).mono ?_; rintro en w3 ⟨rfl, hr3, hu3⟩; have R3 := R2'.call hr3 hu3; have hB3 := hr3; obtain ⟨_, _, hB3, _⟩ := hB3; have d1 := hB3.cell1 1 _ rfl; have e1 := hB3.frozen 1; have l3 := hB3.lt; dsimp only at d1)
    | (go_at_call 81; refine (qnum_as h1 (by decide) (by decide) R1.rd).mono ?_; rintro en w2 ⟨rfl, hr2, hu2⟩; have R2 := R1.call hr2 hu2; obtain ⟨c4, z4⟩ := R2.cell 4 _ rfl; have lt2 := R2.bx.lt; have R2' := R2.set (e' := { e with ma := true, how := wrap64 v1 }) 4 (.int .i64 (wrap64 v1)) rfl rfl rfl))
  go_end0
  exact ⟨rfl, ⟨P, R4.set (e' := { e with ma := true, how := wrap64 v1, name := bstr t }) 3 (.string (bstr t)) rfl rfl rfl⟩, fq_e ((((fq_e ((fq_e (Upd.refl _ _) 1 _).trans (fq_q hu2)) 4 _).trans (fq_q hu3))).trans (fq_q hu4)) 3 _⟩
end Go.Proofs.Ytkmpcheamdadcaa
namespace Go.Proofs.Ytkmpcheamdadcaa
open Go.RowKit
set_option linter.unusedVariables false
set_option linter.unusedSimpArgs false
theorem Qs.addGone {B M : Nat} {W : World} {qb eb : Nat} {s : List Int × Int} {P : En} {e : Ed} (h : Qs B M W qb eb s P e) {vb : Nat} {x : Gn} (hv : Blk W vb 66 (Gn.c x)) (hm : roomB e = true) (ty : TypeId) :
    ∃ v' w', (Builtin.append_ #[24, 24] ty #[.slice P.ga e.gone.length P.gc, .slice (some ⟨vb, 0, none⟩) 1 1]).run Try.prog W = .ok v' w' ∧ (∃ a c, v' = .slice a (e.gone.length + 1) c) ∧ Blk w' eb 27 (edA P e).toList ∧ (∃ P', Qs B M (w'.setCell ⟨eb, 11, none⟩ v') qb eb s P' { e with gone := e.gone ++ [x] }) ∧ Upd (Fq M qb eb) W (w'.setCell ⟨eb, 11, none⟩ v') := by
  have hn := h.n
  obtain ⟨v, u, hB⟩ := h.rb
  obtain ⟨v', w', hr, ho, hu, _, _⟩ := push_g gn_k gn_1 (t := 24) Try.underlying24 info66 rfl (by decide) h.o.g h.size hv ty (by omega) (by unfold maxLen; omega)
  obtain ⟨a, c, rfl⟩ := row_slice ho
  have hg := fun k hk => row_blk h.o.g k hk
  have hne := fun k hk => row_ne h.o.g hB (by decide) k hk
  have hnb := fun k hk => row_ne h.o.g h.bx (by decide) k hk
  have hbx : Blk w' eb 27 (edA P e).toList := h.bx.upd hu (fun hk => hnb _ hk rfl)
  have hrd : Qr B w' qb s := h.rd.upd hu (fun hk => hne _ hk rfl) (fun k hk e => by have := (hg k e).1; have := h.m.1; omega)
  have hoth := row_upd h.o.a hu (fun k hk e => row_row_ne h.o.a h.o.g (by decide) k hk e)
  have hB' : Blk w' qb 84 _ := hB.upd hu (fun hk => hne _ hk rfl)
  have hlen : (e.gone ++ [x]).length = e.gone.length + 1 := by simp
  rw [hlen] at ho
  have I : Is eb eb := rfl
  have U : Upd (Is eb) w' (w'.setCell ⟨eb, 11, none⟩ (.slice a (e.gone.length + 1) c)) := Upd.setCell (p := ⟨eb, 11, none⟩) (Upd.refl (Is eb) w') (fun _ => I) _
  have hqe := h.ne
  have heb := h.eb
  refine ⟨_, w', hr, ⟨a, c, by rw [hlen]⟩, hbx, ?_, ?_⟩
  · rw [hlen]
    refine ⟨⟨a, c, P.aa, P.ac⟩, hrd.upd U (by unfold Is; omega) (fun k hk => by unfold Is; omega), ?_, ?_, ?_, ⟨h.m.1, Nat.le_trans h.m.2 (Nat.le_trans hu.size U.size)⟩, heb⟩
    · have := hbx.set 11 (.slice a (e.gone.length + 1) c)
      have e1 : (edA P e).toList.set 11 (.slice a (e.gone.length + 1) c) = (edA ⟨a, c, P.aa, P.ac⟩ { e with gone := e.gone ++ [x] }).toList := by
        show _ = [_, _, _, _, _, _, _, _, _, _, _, Value.slice a (e.gone ++ [x]).length c, _]
        rw [hlen]; rfl
      rw [e1] at this; exact this
    · have q1 := row_upd ho U (fun k hk e => row_ne ho hbx (by decide) k hk e)
      have q2 := row_upd hoth U (fun k hk e => row_ne hoth hbx (by decide) k hk e)
      exact ⟨by show World.ownsRow _ _ _ _ (.slice a (e.gone ++ [x]).length c) (e.gone ++ [x]).length _; rw [hlen]; exact q1, q2⟩
    · unfold roomB at hm
      simp at hm ⊢
      omega
  · rw [hlen]
    exact (hu.mono (fun k _ hk => .inr (.inr (hg k hk).1))).trans (U.mono (fun k _ hk => .inr (.inl hk)))
theorem Qs.addAdd {B M : Nat} {W : World} {qb eb : Nat} {s : List Int × Int} {P : En} {e : Ed} (h : Qs B M W qb eb s P e) {vb : Nat} {x : Ad} (hv : Blk W vb 64 (Ad.c x)) (hm : roomB e = true) (ty : TypeId) :
    ∃ v' w', (Builtin.append_ #[25, 25] ty #[.slice P.aa e.added.length P.ac, .slice (some ⟨vb, 0, none⟩) 1 1]).run Try.prog W = .ok v' w' ∧ (∃ a c, v' = .slice a (e.added.length + 1) c) ∧ Blk w' eb 27 (edA P e).toList ∧ (∃ P', Qs B M (w'.setCell ⟨eb, 12, none⟩ v') qb eb s P' { e with added := e.added ++ [x] }) ∧ Upd (Fq M qb eb) W (w'.setCell ⟨eb, 12, none⟩ v') := by
  have hn := h.n
  obtain ⟨v, u, hB⟩ := h.rb
  obtain ⟨v', w', hr, ho, hu, _, _⟩ := push_g ad_k ad_1 (t := 25) Try.underlying25 info64 rfl (by decide) h.o.a h.size hv ty (by omega) (by unfold maxLen; omega)
  obtain ⟨a, c, rfl⟩ := row_slice ho
  have hg := fun k hk => row_blk h.o.a k hk
  have hne := fun k hk => row_ne h.o.a hB (by decide) k hk
  have hnb := fun k hk => row_ne h.o.a h.bx (by decide) k hk
  have hbx : Blk w' eb 27 (edA P e).toList := h.bx.upd hu (fun hk => hnb _ hk rfl)
  have hrd : Qr B w' qb s := h.rd.upd hu (fun hk => hne _ hk rfl) (fun k hk e => by have := (hg k e).1; have := h.m.1; omega)
  have hoth := row_upd h.o.g hu (fun k hk e => row_row_ne h.o.g h.o.a (by decide) k hk e)
  have hB' : Blk w' qb 84 _ := hB.upd hu (fun hk => hne _ hk rfl)
  have hlen : (e.added ++ [x]).length = e.added.length + 1 := by simp
  rw [hlen] at ho
  have I : Is eb eb := rfl
  have U : Upd (Is eb) w' (w'.setCell ⟨eb, 12, none⟩ (.slice a (e.added.length + 1) c)) := Upd.setCell (p := ⟨eb, 12, none⟩) (Upd.refl (Is eb) w') (fun _ => I) _
  have hqe := h.ne
  have heb := h.eb
  refine ⟨_, w', hr, ⟨a, c, by rw [hlen]⟩, hbx, ?_, ?_⟩
  · rw [hlen]
    refine ⟨⟨P.ga, P.gc, a, c⟩, hrd.upd U (by unfold Is; omega) (fun k hk => by unfold Is; omega), ?_, ?_, ?_, ⟨h.m.1, Nat.le_trans h.m.2 (Nat.le_trans hu.size U.size)⟩, heb⟩
    · have := hbx.set 12 (.slice a (e.added.length + 1) c)
      have e1 : (edA P e).toList.set 12 (.slice a (e.added.length + 1) c) = (edA ⟨P.ga, P.gc, a, c⟩ { e with added := e.added ++ [x] }).toList := by
        show _ = [_, _, _, _, _, _, _, _, _, _, _, _, Value.slice a (e.added ++ [x]).length c]
        rw [hlen]; rfl
      rw [e1] at this; exact this
    · have q1 := row_upd ho U (fun k hk e => row_ne ho hbx (by decide) k hk e)
      have q2 := row_upd hoth U (fun k hk e => row_ne hoth hbx (by decide) k hk e)
      exact ⟨q2, by show World.ownsRow _ _ _ _ (.slice a (e.added ++ [x]).length c) (e.added ++ [x]).length _; rw [hlen]; exact q1⟩
    · unfold roomB at hm
      simp at hm ⊢
      omega
  · rw [hlen]
    exact (hu.mono (fun k _ hk => .inr (.inr (hg k hk).1))).trans (U.mono (fun k _ hk => .inr (.inl hk)))
theorem Qs.other {B M : Nat} {w w' : World} {qb eb gb : Nat} {s : List Int × Int} {P : En} {e : Ed} (h : Qs B M w qb eb s P e) (U : Upd (Is gb) w w') (n1 : qb ≠ gb) (n2 : eb ≠ gb) (n3 : B ≤ gb) (n4 : ∀ k, Value.ownBlock (.slice P.ga e.gone.length P.gc) = some k → k ≠ gb) (n5 : ∀ k, Value.ownBlock (.slice P.aa e.added.length P.ac) = some k → k ≠ gb) : Qs B M w' qb eb s P e :=
  ⟨h.rd.upd U (by unfold Is; omega) (fun k hk => by unfold Is; omega), h.bx.upd U (by unfold Is; omega), ⟨row_upd h.o.g U (fun k hk e => n4 k hk e), row_upd h.o.a U (fun k hk e => n5 k hk e)⟩, h.n, ⟨h.m.1, Nat.le_trans h.m.2 U.size⟩, h.eb⟩
theorem Qs.rows {B M : Nat} {w : World} {qb eb : Nat} {s : List Int × Int} {P : En} {e : Ed} (h : Qs B M w qb eb s P e) : (∀ k, Value.ownBlock (.slice P.ga e.gone.length P.gc) = some k → k ≠ w.heap.size) ∧ (∀ k, Value.ownBlock (.slice P.aa e.added.length P.ac) = some k → k ≠ w.heap.size) :=
  ⟨fun k hk => by have := (row_blk h.o.g k hk).2; omega, fun k hk => by have := (row_blk h.o.a k hk).2; omega⟩
set_option maxRecDepth 100000 in
set_option maxHeartbeats 4000000 in
theorem qpart7 {B M : Nat} {w : World} {qb eb : Nat} {s s1 s2 : List Int × Int} {v1 v2 : Int} {P : En} {e : Ed} (h : Qs B M w qb eb s P e) (hm : roomB e = true) (h1 : qNum 6 s = (v1, s1)) (h2 : qNum 18446744073709551615 s1 = (v2, s2)) :
    Calls Try.prog 45 #[ptr qb, .int .u8 7, .pointer (some ⟨eb, 0, none⟩)] w fun en w' => en = .returned (.tuple #[]) ∧ (∃ P', Qs B M w' qb eb s2 P' { e with gone := e.gone ++ [⟨wrap64 v1, v2⟩] }) ∧ Upd (Fq M qb eb) w w' := by
  have le := h.bx.lt
  have lq := h.rd.lt.1
  have hM := h.m.2
  go_enter Try.func45, Try.ntmps45
  go_wp2_with (first
    | (have hq := HB2; clear hq; go_at_call 81; refine (qnum_as h2 (by decide) (by decide) R2'.rd).mono ?_; rintro en w3 ⟨rfl, hr3, hu3⟩
       have R3 := R2'.call hr3 hu3
       have G3 := G2.upd hu3 nI
       obtain ⟨c11, z11⟩ := R3.cell 11 _ rfl
       have g0 := G3.cell1 0 _ rfl
       have g1 := G3.cell1 1 _ rfl
       have y1 := G3.frozen 1
       have lg3 := G3.lt
       have lt3 := R3.bx.lt)
    | (go_at_call 81; refine (qnum_as h1 (by decide) (by decide) h.rd).mono ?_; rintro en w2 ⟨rfl, hr2, hu2⟩
       have HB2 : Hid True := trivial
       have R2 := h.call hr2 hu2
       have R2' := R2.below (al1 w2 (.cells #[.int .i64 (wrap64 v1), .int .u64 0] 66))
       have G2 := Blk.new w2 66 [.int .i64 (wrap64 v1), .int .u64 0]
       have sz2 := hu2.size
       have nI : ¬ Is qb w2.heap.size := by unfold Is; omega
       have lt2 := R2.bx.lt))
  have I2 : Is w2.heap.size w2.heap.size := rfl
  have U4 : Upd (Is w2.heap.size) w3 (w3.setCell ⟨w2.heap.size, 1, none⟩ (.int .u64 v2)) := Upd.setCell (p := ⟨w2.heap.size, 1, none⟩) (Upd.refl (Is w2.heap.size) w3) (fun _ => I2) _
  have hR4 := R2.rows
  have hm1 := h.m.1
  have hqs := hu2.size
  have R4 : Qs B M (w3.setCell ⟨w2.heap.size, 1, none⟩ (.int .u64 v2)).drew qb eb s2 P e := (R3.other U4 (by omega) (by omega) (by omega) hR4.1 hR4.2).below (Below.refl _ _).drew
  have G4 := (G3.set 1 (.int .u64 v2)).drew
  obtain ⟨d11, x11⟩ := R4.cell 11 _ rfl
  have e0 := G4.cell1 0 _ rfl
  have e1 := G4.cell1 1 _ rfl
  have B6 := Blk.new (w3.setCell ⟨w2.heap.size, 1, none⟩ (.int .u64 v2)).drew 66 (Gn.c ⟨wrap64 v1, v2⟩)
  have hsz : (w3.setCell ⟨w2.heap.size, 1, none⟩ (.int .u64 v2)).drew.heap.size = w3.heap.size := by show (w3.setCell ⟨w2.heap.size, 1, none⟩ (.int .u64 v2)).heap.size = _; simp
  rw [hsz] at B6
  clear hsz
  have R6 := R4.below (al1 (w3.setCell ⟨w2.heap.size, 1, none⟩ (.int .u64 v2)).drew (.cells #[.int .i64 (wrap64 v1), .int .u64 v2] 66))
  have lt4 := R4.bx.lt
  have lg4 := G4.lt
  have UU : Hid (Upd (Fq M qb eb) w ((w3.setCell ⟨w2.heap.size, 1, none⟩ (.int .u64 v2)).drew.alloc (.cells #[.int .i64 (wrap64 v1), .int .u64 v2] 66))) := by
    have q1 : Upd (Fq M qb eb) w w3 := ((fq_q hu2).alloc _).trans (fq_q hu3)
    exact ((q1.trans (U4.mono (fun k _ hk => .inr (.inr (by unfold Is at hk; omega))))).drew).alloc _
  go_region_law (refine step_appt (by rfl) _ _ (by rfl) (by rfl) (by rfl) (R6.addGone B6 hm _) ?_
                 rintro v7 w7 ⟨⟨a7, k7, hv7⟩, hb7, hq7, hu7⟩
                 have HQ : Hid ((∃ P', Qs B M (w7.setCell ⟨eb, 11, none⟩ v7) qb eb s2 P' { e with gone := e.gone ++ [⟨wrap64 v1, v2⟩] }) ∧ Upd (Fq M qb eb) w (w7.setCell ⟨eb, 11, none⟩ v7)) := ⟨hq7, UU.out.trans hu7⟩
                 subst hv7
                 clear hq7 hu7
                 have c7 := hb7.cell1 11 _ rfl
                 have z7 := hb7.frozen 11
                 have lt7 := hb7.lt)
  all_goals
    go_wp2
    go_end0
    exact ⟨rfl, HQ.out.1, HQ.out.2⟩
end Go.Proofs.Ytkmpcheamdadcaa
namespace Go.Proofs.Ytkmpcheamdadcaa
open Go.RowKit
set_option linter.unusedVariables false
set_option linter.unusedSimpArgs false
/-- Beside the edit's box one of a table that is to be added. -/
structure Qb (B M : Nat) (w W : World) (qb eb ab : Nat) (s : List Int × Int) (P : En) (e : Ed) (cs : List Value) : Prop where
  q : Qs B M W qb eb s P e
  a : Blk W ab 64 cs
  n1 : qb ≠ ab
  n2 : eb ≠ ab
  n3 : M ≤ ab
  n4 : ∀ k, Value.ownBlock (.slice P.ga e.gone.length P.gc) = some k → k ≠ ab
  n5 : ∀ k, Value.ownBlock (.slice P.aa e.added.length P.ac) = some k → k ≠ ab
  u : Upd (Fq M qb eb) w W
theorem Qb.call {B M : Nat} {w W W' : World} {qb eb ab : Nat} {s s' : List Int × Int} {P : En} {e : Ed} {cs : List Value} (h : Qb B M w W qb eb ab s P e cs) (hr : Qr B W' qb s') (hu : Upd (Is qb) W W') : Qb B M w W' qb eb ab s' P e cs :=
  ⟨h.q.call hr hu, h.a.upd hu (by have := h.n1; unfold Is; omega), h.n1, h.n2, h.n3, h.n4, h.n5, h.u.trans (fq_q hu)⟩
theorem Qb.set {B M : Nat} {w W : World} {qb eb ab : Nat} {s : List Int × Int} {P : En} {e : Ed} {cs : List Value} (h : Qb B M w W qb eb ab s P e cs) (i : Nat) (v : Value) : Qb B M w (W.setCell ⟨ab, i, none⟩ v) qb eb ab s P e (cs.set i v) := by
  have I : Is ab ab := rfl
  have U : Upd (Is ab) W (W.setCell ⟨ab, i, none⟩ v) := Upd.setCell (p := ⟨ab, i, none⟩) (Upd.refl (Is ab) W) (fun _ => I) _
  have hm := h.q.m.1
  have hn := h.n3
  exact ⟨h.q.other U h.n1 h.n2 (by omega) h.n4 h.n5, h.a.set i v, h.n1, h.n2, h.n3, h.n4, h.n5, h.u.trans (U.mono (fun k _ hk => .inr (.inr (by unfold Is at hk; omega))))⟩
theorem Qb.below {B M : Nat} {w W W' : World} {qb eb ab : Nat} {s : List Int × Int} {P : En} {e : Ed} {cs : List Value} (h : Qb B M w W qb eb ab s P e cs) (hb : Below W.heap.size W W') : Qb B M w W' qb eb ab s P e cs := h.call (h.q.rd.below hb) (Upd.ofBelow hb)
set_option maxRecDepth 100000 in
set_option maxHeartbeats 4000000 in
theorem qpart8 {B M : Nat} {w : World} {qb eb : Nat} {s s1 s2 s3 s4 s5 s6 s7 : List Int × Int} {v1 v2 v3 v4 v5 : Int} {k1 k2 : Ky} {P : En} {e : Ed} (h : Qs B M w qb eb s P e) (hm : roomB e = true) (h1 : qNum 6 s = (v1, s1)) (h2 : qNum 18446744073709551615 s1 = (v2, s2)) (h3 : qNum 18446744073709551615 s2 = (v3, s3)) (h4 : qNum 18446744073709551615 s3 = (v4, s4)) (h5 : qNum 18446744073709551615 s4 = (v5, s5)) (h6 : qKey s5 = (k1, s6)) (h7 : qKey s6 = (k2, s7)) :
    Calls Try.prog 45 #[ptr qb, .int .u8 8, .pointer (some ⟨eb, 0, none⟩)] w fun en w' => en = .returned (.tuple #[]) ∧ (∃ P', Qs B M w' qb eb s7 P' { e with added := e.added ++ [⟨wrap64 v1, ⟨v2, v3, k1, k2, v4, v5⟩⟩] }) ∧ Upd (Fq M qb eb) w w' := by
  have le := h.bx.lt
  have lq := h.rd.lt.1
  have hM := h.m.2
  go_enter Try.func45, Try.ntmps45
  go_wp2_with (first
    | (have hq := HB7; clear hq; go_at_call 84; refine (qkey_as h7 A7.q.rd).mono ?_; rintro en w8 ⟨rfl, hr8, hu8⟩
       have F8 := A7.call hr8 hu8
       have HB8 : Hid True := trivial
       have lf8 := F8.a.lt
       have x8_0 := F8.a.cell1 0 _ rfl
       have z8_0 := F8.a.frozen 0
       have x8_1 := F8.a.cell1 1 _ rfl
       have z8_1 := F8.a.frozen 1
       have x8_2 := F8.a.cell1 2 _ rfl
       have z8_2 := F8.a.frozen 2
       have x8_3 := F8.a.cell1 3 _ rfl
       have z8_3 := F8.a.frozen 3
       have x8_4 := F8.a.cell1 4 _ rfl
       have z8_4 := F8.a.frozen 4
       have x8_5 := F8.a.cell1 5 _ rfl
       have z8_5 := F8.a.frozen 5
       have x8_6 := F8.a.cell1 6 _ rfl
       have z8_6 := F8.a.frozen 6
       have x8_7 := F8.a.cell1 7 _ rfl
       have z8_7 := F8.a.frozen 7
       have x8_8 := F8.a.cell1 8 _ rfl
       have z8_8 := F8.a.frozen 8
       have x8_9 := F8.a.cell1 9 _ rfl
       have z8_9 := F8.a.frozen 9
       have x8_10 := F8.a.cell1 10 _ rfl
       have z8_10 := F8.a.frozen 10
       obtain ⟨c12, z12⟩ := F8.q.cell 12 _ rfl
       have le8 := F8.q.bx.lt
       have A8 := (((F8.set 6 (.string k2.u)).set 7 (.int .u64 k2.s)).set 8 (.int .i64 k2.k)))
    | (have hq := HB6; clear hq; go_at_call 84; refine (qkey_as h6 A6.q.rd).mono ?_; rintro en w7 ⟨rfl, hr7, hu7⟩
       have F7 := A6.call hr7 hu7
       have HB7 : Hid True := trivial
       have lf7 := F7.a.lt
       have x7_3 := F7.a.cell1 3 _ rfl
       have z7_3 := F7.a.frozen 3
       have x7_4 := F7.a.cell1 4 _ rfl
       have z7_4 := F7.a.frozen 4
       have x7_5 := F7.a.cell1 5 _ rfl
       have z7_5 := F7.a.frozen 5
       have A7 := (((F7.set 3 (.string k1.u)).set 4 (.int .u64 k1.s)).set 5 (.int .i64 k1.k)))
    | (have hq := HB5; clear hq; go_at_call 81; refine (qnum_as h5 (by decide) (by decide) A5.q.rd).mono ?_; rintro en w6 ⟨rfl, hr6, hu6⟩
       have F6 := A5.call hr6 hu6
       have HB6 : Hid True := trivial
       have lf6 := F6.a.lt
       have x6_10 := F6.a.cell1 10 _ rfl
       have z6_10 := F6.a.frozen 10
       have A6 := (F6.set 10 (.int .u64 v5)))
    | (have hq := HB4; clear hq; go_at_call 81; refine (qnum_as h4 (by decide) (by decide) A4.q.rd).mono ?_; rintro en w5 ⟨rfl, hr5, hu5⟩
       have F5 := A4.call hr5 hu5
       have HB5 : Hid True := trivial
       have lf5 := F5.a.lt
       have x5_9 := F5.a.cell1 9 _ rfl
       have z5_9 := F5.a.frozen 9
       have A5 := (F5.set 9 (.int .u64 v4)))
    | (have hq := HB3; clear hq; go_at_call 81; refine (qnum_as h3 (by decide) (by decide) A3.q.rd).mono ?_; rintro en w4 ⟨rfl, hr4, hu4⟩
       have F4 := A3.call hr4 hu4
       have HB4 : Hid True := trivial
       have lf4 := F4.a.lt
       have x4_2 := F4.a.cell1 2 _ rfl
       have z4_2 := F4.a.frozen 2
       have A4 := (F4.set 2 (.int .u64 v3)))
    | (have hq := HB2; clear hq; go_at_call 81; refine (qnum_as h2 (by decide) (by decide) A2.q.rd).mono ?_; rintro en w3 ⟨rfl, hr3, hu3⟩
       have F3 := A2.call hr3 hu3
       have HB3 : Hid True := trivial
       have lf3 := F3.a.lt
       have x3_1 := F3.a.cell1 1 _ rfl
       have z3_1 := F3.a.frozen 1
       have A3 := (F3.set 1 (.int .u64 v2)))
    | (go_at_call 81; refine (qnum_as h1 (by decide) (by decide) h.rd).mono ?_; rintro en w2 ⟨rfl, hr2, hu2⟩
       have HB2 : Hid True := trivial
       have R2 := h.call hr2 hu2
       have sz2 := hu2.size
       have lt2 := R2.bx.lt
       have A2 : Qb B M w (w2.alloc (.cells #[.int .i64 (wrap64 v1), .int .u64 0, .int .u64 0, .string ⟨#[]⟩, .int .u64 0, .int .i64 0, .string ⟨#[]⟩, .int .u64 0, .int .i64 0, .int .u64 0, .int .u64 0] 64)) qb eb w2.heap.size s1 P e [.int .i64 (wrap64 v1), .int .u64 0, .int .u64 0, .string ⟨#[]⟩, .int .u64 0, .int .i64 0, .string ⟨#[]⟩, .int .u64 0, .int .i64 0, .int .u64 0, .int .u64 0] := ⟨R2.below (al1 _ _), Blk.new w2 64 [.int .i64 (wrap64 v1), .int .u64 0, .int .u64 0, .string ⟨#[]⟩, .int .u64 0, .int .i64 0, .string ⟨#[]⟩, .int .u64 0, .int .i64 0, .int .u64 0, .int .u64 0], by omega, by omega, by omega, R2.rows.1, R2.rows.2, (fq_q hu2).alloc _⟩))
  have A9 := A8.below (Below.refl _ _).drew
  obtain ⟨d12, y12⟩ := A9.q.cell 12 _ rfl
  have e0 := A9.a.cell1 0 _ rfl
  have e1 := A9.a.cell1 1 _ rfl
  have e2 := A9.a.cell1 2 _ rfl
  have e3 := A9.a.cell1 3 _ rfl
  have e4 := A9.a.cell1 4 _ rfl
  have e5 := A9.a.cell1 5 _ rfl
  have e6 := A9.a.cell1 6 _ rfl
  have e7 := A9.a.cell1 7 _ rfl
  have e8 := A9.a.cell1 8 _ rfl
  have e9 := A9.a.cell1 9 _ rfl
  have e10 := A9.a.cell1 10 _ rfl
  have B6 := Blk.new (((w8.setCell ⟨w2.heap.size, 6, none⟩ (.string k2.u)).setCell ⟨w2.heap.size, 7, none⟩ (.int .u64 k2.s)).setCell ⟨w2.heap.size, 8, none⟩ (.int .i64 k2.k)).drew 64 (Ad.c ⟨wrap64 v1, ⟨v2, v3, k1, k2, v4, v5⟩⟩)
  have hsz : (((w8.setCell ⟨w2.heap.size, 6, none⟩ (.string k2.u)).setCell ⟨w2.heap.size, 7, none⟩ (.int .u64 k2.s)).setCell ⟨w2.heap.size, 8, none⟩ (.int .i64 k2.k)).drew.heap.size = w8.heap.size := by show (((w8.setCell ⟨w2.heap.size, 6, none⟩ (.string k2.u)).setCell ⟨w2.heap.size, 7, none⟩ (.int .u64 k2.s)).setCell ⟨w2.heap.size, 8, none⟩ (.int .i64 k2.k)).heap.size = _; simp
  rw [hsz] at B6
  clear hsz
  have R6 := A9.q.below (al1 (((w8.setCell ⟨w2.heap.size, 6, none⟩ (.string k2.u)).setCell ⟨w2.heap.size, 7, none⟩ (.int .u64 k2.s)).setCell ⟨w2.heap.size, 8, none⟩ (.int .i64 k2.k)).drew (.cells #[.int .i64 (wrap64 v1), .int .u64 v2, .int .u64 v3, .string k1.u, .int .u64 k1.s, .int .i64 k1.k, .string k2.u, .int .u64 k2.s, .int .i64 k2.k, .int .u64 v4, .int .u64 v5] 64))
  have UU : Hid (Upd (Fq M qb eb) w ((((w8.setCell ⟨w2.heap.size, 6, none⟩ (.string k2.u)).setCell ⟨w2.heap.size, 7, none⟩ (.int .u64 k2.s)).setCell ⟨w2.heap.size, 8, none⟩ (.int .i64 k2.k)).drew.alloc (.cells #[.int .i64 (wrap64 v1), .int .u64 v2, .int .u64 v3, .string k1.u, .int .u64 k1.s, .int .i64 k1.k, .string k2.u, .int .u64 k2.s, .int .i64 k2.k, .int .u64 v4, .int .u64 v5] 64))) := A9.u.alloc _
  have lt4 := A9.q.bx.lt
  have lg4 := A9.a.lt
  go_region_law (refine step_appt (by rfl) _ _ (by rfl) (by rfl) (by rfl) (R6.addAdd B6 hm _) ?_
                 rintro v7' w7' ⟨⟨a7, k7, hv7⟩, hb7, hq7, hu7⟩
                 have HQ : Hid ((∃ P', Qs B M (w7'.setCell ⟨eb, 12, none⟩ v7') qb eb s7 P' { e with added := e.added ++ [⟨wrap64 v1, ⟨v2, v3, k1, k2, v4, v5⟩⟩] }) ∧ Upd (Fq M qb eb) w (w7'.setCell ⟨eb, 12, none⟩ v7')) := ⟨hq7, UU.out.trans hu7⟩
                 subst hv7
                 clear hq7 hu7
                 have c7 := hb7.cell1 12 _ rfl
                 have z7 := hb7.frozen 12
                 have lt7 := hb7.lt)
  all_goals
    go_wp2
    go_end0
    exact ⟨rfl, HQ.out.1, HQ.out.2⟩
end Go.Proofs.Ytkmpcheamdadcaa
