/-
  The reader's table: file f105.
-/
import Derived.Test.YtkmpcheamdadcaaDd
namespace Go.Proofs.Ytkmpcheamdadcaa
open Go.RowKit
set_option linter.unusedVariables false
set_option linter.unusedSimpArgs false
/-- A table under way: two boxes behind w, the first one of no table yet, the second one of these cells. -/
structure Fw (B : Nat) (w W : World) (rb : Nat) (l : List Int) (cs xs : List Value) : Prop where
  rd : Rdl B W rb l cs
  r : Blk W w.heap.size 50 [.int .u64 0, .int .u64 0, .string ⟨#[]⟩, .int .u64 0, .int .i64 0, .string ⟨#[]⟩, .int .u64 0, .int .i64 0, .int .u64 0, .int .u64 0]
  f : Blk W (w.heap.size + 1) 50 xs
  u : Upd (Is rb) w W
  lt : rb < w.heap.size
theorem Fw.begin {B : Nat} {w : World} {rb : Nat} {l : List Int} {cs : List Value} (h : Rdl B w rb l cs) : Fw B w ((w.alloc (.cells #[.int .u64 0, .int .u64 0, .string ⟨#[]⟩, .int .u64 0, .int .i64 0, .string ⟨#[]⟩, .int .u64 0, .int .i64 0, .int .u64 0, .int .u64 0] 50)).alloc (.cells #[.int .u64 0, .int .u64 0, .string ⟨#[]⟩, .int .u64 0, .int .i64 0, .string ⟨#[]⟩, .int .u64 0, .int .i64 0, .int .u64 0, .int .u64 0] 50)) rb l cs [.int .u64 0, .int .u64 0, .string ⟨#[]⟩, .int .u64 0, .int .i64 0, .string ⟨#[]⟩, .int .u64 0, .int .i64 0, .int .u64 0, .int .u64 0] := by
  have b1 := Blk.new w 50 [.int .u64 0, .int .u64 0, .string ⟨#[]⟩, .int .u64 0, .int .i64 0, .string ⟨#[]⟩, .int .u64 0, .int .i64 0, .int .u64 0, .int .u64 0]
  have b2 := Blk.new (w.alloc (.cells #[.int .u64 0, .int .u64 0, .string ⟨#[]⟩, .int .u64 0, .int .i64 0, .string ⟨#[]⟩, .int .u64 0, .int .i64 0, .int .u64 0, .int .u64 0] 50)) 50 [.int .u64 0, .int .u64 0, .string ⟨#[]⟩, .int .u64 0, .int .i64 0, .string ⟨#[]⟩, .int .u64 0, .int .i64 0, .int .u64 0, .int .u64 0]
  rw [World.size_alloc] at b2
  exact ⟨h.below (bstep (al1 _ _) (al1 _ _)), b1.alloc _, b2, ((Upd.refl _ _).alloc _).alloc _, h.lt.1⟩
theorem Fw.call {B : Nat} {w W W' : World} {rb : Nat} {l l' : List Int} {cs xs : List Value} (h : Fw B w W rb l cs xs) (hr : Rdl B W' rb l' cs) (hu : Upd (Is rb) W W') : Fw B w W' rb l' cs xs :=
  ⟨hr, h.r.upd hu (by have := h.lt; unfold Is; omega), h.f.upd hu (by have := h.lt; unfold Is; omega), h.u.trans hu, h.lt⟩
theorem Fw.set {B : Nat} {w W : World} {rb : Nat} {l : List Int} {cs xs : List Value} (h : Fw B w W rb l cs xs) (i : Nat) (v : Value) : Fw B w (W.setCell ⟨w.heap.size + 1, i, none⟩ v) rb l cs (xs.set i v) := by
  have hl := h.lt
  have hB := h.rd.lt.2
  have I : Is (w.heap.size + 1) (w.heap.size + 1) := rfl
  have u : Upd (Is (w.heap.size + 1)) W (W.setCell ⟨w.heap.size + 1, i, none⟩ v) := Upd.setCell (p := ⟨w.heap.size + 1, i, none⟩) (Upd.refl _ _) (fun _ => I) _
  exact ⟨h.rd.upd u (by unfold Is; omega) (fun k hk => by unfold Is; omega), h.r.upd u (by unfold Is; omega), h.f.set i v, upd_new _ _ _ (by simp) h.u, hl⟩
set_option maxRecDepth 100000 in
set_option maxHeartbeats 2000000 in
theorem file_ok {B : Nat} {w : World} {rb : Nat} {l l1 l2 l3 l4 l5 l6 : List Int} {num size ents rngs : Int} {sm la : Ky} {cs : List Value} (h : Rdl B w rb l cs) (h1 : pAny l = .ok (num, l1)) (h2 : pAny l1 = .ok (size, l2)) (h3 : pAny l2 = .ok (ents, l3)) (h4 : pAny l3 = .ok (rngs, l4)) (h5 : pKey l4 = .ok (sm, l5)) (h6 : pKey l5 = .ok (la, l6)) :
    Calls Try.prog 105 #[ptr rb] w fun e w' => e = .returned (Fi.v ⟨num, size, sm, la, ents, rngs⟩) ∧ Rdl B w' rb l6 cs ∧ Upd (Is rb) w w' := by
  have F0 := Fw.begin h
  go_enter Try.func105, Try.ntmps105
  go_wp2_with (first
    | (go_at_call 124; refine (key_ok F5.rd h6).mono ?_; rintro e w6 ⟨rfl, hr6, hu6⟩; have F6 := F5.call hr6 hu6; have G6 := ((((((F6.set 2 (.string sm.u)).set 3 (.int .u64 sm.s)).set 4 (.int .i64 sm.k)).set 5 (.string la.u)).set 6 (.int .u64 la.s)).set 7 (.int .i64 la.k)); have x6_0 := F6.f.cell1 0 _ rfl; have z6_0 := F6.f.frozen 0; have x6_1 := F6.f.cell1 1 _ rfl; have z6_1 := F6.f.frozen 1; have x6_2 := F6.f.cell1 2 _ rfl; have z6_2 := F6.f.frozen 2; have x6_3 := F6.f.cell1 3 _ rfl; have z6_3 := F6.f.frozen 3; have x6_4 := F6.f.cell1 4 _ rfl; have z6_4 := F6.f.frozen 4; have x6_5 := F6.f.cell1 5 _ rfl; have z6_5 := F6.f.frozen 5; have x6_6 := F6.f.cell1 6 _ rfl; have z6_6 := F6.f.frozen 6; have x6_7 := F6.f.cell1 7 _ rfl; have z6_7 := F6.f.frozen 7; have x6_8 := F6.f.cell1 8 _ rfl; have z6_8 := F6.f.frozen 8; have x6_9 := F6.f.cell1 9 _ rfl; have z6_9 := F6.f.frozen 9; have lf6 := F6.f.lt; have y0 := F6.r.cell1 0 _ rfl; have q0 := F6.r.frozen 0; have y1 := F6.r.cell1 1 _ rfl; have q1 := F6.r.frozen 1; have y2 := F6.r.cell1 2 _ rfl; have q2 := F6.r.frozen 2; have y3 := F6.r.cell1 3 _ rfl; have q3 := F6.r.frozen 3; have y4 := F6.r.cell1 4 _ rfl; have q4 := F6.r.frozen 4; have y5 := F6.r.cell1 5 _ rfl; have q5 := F6.r.frozen 5; have y6 := F6.r.cell1 6 _ rfl; have q6 := F6.r.frozen 6; have y7 := F6.r.cell1 7 _ rfl; have q7 := F6.r.frozen 7; have y8 := F6.r.cell1 8 _ rfl; have q8 := F6.r.frozen 8; have y9 := F6.r.cell1 9 _ rfl; have q9 := F6.r.frozen 9)
    | (go_at_call 124; refine (key_ok G4.rd h5).mono ?_; rintro e w5 ⟨rfl, hr5, hu5⟩; have F5 := G4.call hr5 hu5)
    | (go_at_call 102; refine (whatever_ok F3.rd h4).mono ?_; rintro e w4 ⟨rfl, hr4, hu4⟩; have F4 := F3.call hr4 hu4; have G4 := ((F4.set 8 (.int .u64 ents)).set 9 (.int .u64 rngs)); have x4_8 := F4.f.cell1 8 _ rfl; have z4_8 := F4.f.frozen 8; have x4_9 := F4.f.cell1 9 _ rfl; have z4_9 := F4.f.frozen 9; have lf4 := F4.f.lt)
    | (go_at_call 102; refine (whatever_ok G2.rd h3).mono ?_; rintro e w3 ⟨rfl, hr3, hu3⟩; have F3 := G2.call hr3 hu3)
    | (go_at_call 102; refine (whatever_ok F1.rd h2).mono ?_; rintro e w2 ⟨rfl, hr2, hu2⟩; have F2 := F1.call hr2 hu2; have G2 := ((F2.set 0 (.int .u64 num)).set 1 (.int .u64 size)); have x2_0 := F2.f.cell1 0 _ rfl; have z2_0 := F2.f.frozen 0; have x2_1 := F2.f.cell1 1 _ rfl; have z2_1 := F2.f.frozen 1; have lf2 := F2.f.lt)
    | (go_at_call 102; refine (whatever_ok F0.rd h1).mono ?_; rintro e w1 ⟨rfl, hr1, hu1⟩; have F1 := F0.call hr1 hu1))
  have Y := ((((((((((G6.r.set 0 (.int .u64 num)).set 1 (.int .u64 size)).set 2 (.string sm.u)).set 3 (.int .u64 sm.s)).set 4 (.int .i64 sm.k)).set 5 (.string la.u)).set 6 (.int .u64 la.s)).set 7 (.int .i64 la.k)).set 8 (.int .u64 ents)).set 9 (.int .u64 rngs))
  have c0 := Y.cell1 0 _ rfl
  have c1 := Y.cell1 1 _ rfl
  have c2 := Y.cell1 2 _ rfl
  have c3 := Y.cell1 3 _ rfl
  have c4 := Y.cell1 4 _ rfl
  have c5 := Y.cell1 5 _ rfl
  have c6 := Y.cell1 6 _ rfl
  have c7 := Y.cell1 7 _ rfl
  have c8 := Y.cell1 8 _ rfl
  have c9 := Y.cell1 9 _ rfl
  have I : Is w.heap.size w.heap.size := rfl
  have hl := F0.lt
  have hB := h.lt.2
  refine bodyPost_ret (v := Fi.v ⟨num, size, sm, la, ents, rngs⟩) (by simp [results, Try.results105, go_sem, c0, c1, c2, c3, c4, c5, c6, c7, c8, c9]) rfl ⟨rfl, G6.rd.upd (S := Is w.heap.size) ?_ (by unfold Is; omega) (fun k hk => by unfold Is; omega), ?_⟩
  · exact Upd.setCell (p := ⟨w.heap.size, 9, none⟩) (Upd.setCell (p := ⟨w.heap.size, 8, none⟩) (Upd.setCell (p := ⟨w.heap.size, 7, none⟩) (Upd.setCell (p := ⟨w.heap.size, 6, none⟩) (Upd.setCell (p := ⟨w.heap.size, 5, none⟩) (Upd.setCell (p := ⟨w.heap.size, 4, none⟩) (Upd.setCell (p := ⟨w.heap.size, 3, none⟩) (Upd.setCell (p := ⟨w.heap.size, 2, none⟩) (Upd.setCell (p := ⟨w.heap.size, 1, none⟩) (Upd.setCell (p := ⟨w.heap.size, 0, none⟩) (Upd.refl _ _) (fun _ => I) _) (fun _ => I) _) (fun _ => I) _) (fun _ => I) _) (fun _ => I) _) (fun _ => I) _) (fun _ => I) _) (fun _ => I) _) (fun _ => I) _) (fun _ => I) _
  · exact upd_new ⟨w.heap.size, 9, none⟩ _ _ (Nat.le_refl _) (upd_new ⟨w.heap.size, 8, none⟩ _ _ (Nat.le_refl _) (upd_new ⟨w.heap.size, 7, none⟩ _ _ (Nat.le_refl _) (upd_new ⟨w.heap.size, 6, none⟩ _ _ (Nat.le_refl _) (upd_new ⟨w.heap.size, 5, none⟩ _ _ (Nat.le_refl _) (upd_new ⟨w.heap.size, 4, none⟩ _ _ (Nat.le_refl _) (upd_new ⟨w.heap.size, 3, none⟩ _ _ (Nat.le_refl _) (upd_new ⟨w.heap.size, 2, none⟩ _ _ (Nat.le_refl _) (upd_new ⟨w.heap.size, 1, none⟩ _ _ (Nat.le_refl _) (upd_new ⟨w.heap.size, 0, none⟩ _ _ (Nat.le_refl _) (G6.u))))))))))
set_option maxRecDepth 100000 in
set_option maxHeartbeats 2000000 in
theorem file_e1 {B : Nat} {w : World} {rb : Nat} {l : List Int} {c : Int} {cs : List Value} (h : Rdl B w rb l cs)  (hx : pAny l = .error c) :
    Calls Try.prog 105 #[ptr rb] w fun e w' => e = pnk c ∧ Upd (Is rb) w w' := by
  have F0 := Fw.begin h
  go_enter Try.func105, Try.ntmps105
  go_wp2_with (first
    | (go_at_call 102; refine (whatever_err F0.rd hx).mono ?_; rintro e w1 ⟨rfl, rfl⟩))
  exact ⟨rfl, rfl, F0.u⟩
set_option maxRecDepth 100000 in
set_option maxHeartbeats 2000000 in
theorem file_e2 {B : Nat} {w : World} {rb : Nat} {l l1 : List Int} {num : Int} {c : Int} {cs : List Value} (h : Rdl B w rb l cs) (h1 : pAny l = .ok (num, l1)) (hx : pAny l1 = .error c) :
    Calls Try.prog 105 #[ptr rb] w fun e w' => e = pnk c ∧ Upd (Is rb) w w' := by
  have F0 := Fw.begin h
  go_enter Try.func105, Try.ntmps105
  go_wp2_with (first
    | (go_at_call 102; refine (whatever_err F1.rd hx).mono ?_; rintro e w2 ⟨rfl, rfl⟩)
    | (go_at_call 102; refine (whatever_ok F0.rd h1).mono ?_; rintro e w1 ⟨rfl, hr1, hu1⟩; have F1 := F0.call hr1 hu1))
  exact ⟨rfl, rfl, F1.u⟩
set_option maxRecDepth 100000 in
set_option maxHeartbeats 2000000 in
theorem file_e3 {B : Nat} {w : World} {rb : Nat} {l l1 l2 : List Int} {num size : Int} {c : Int} {cs : List Value} (h : Rdl B w rb l cs) (h1 : pAny l = .ok (num, l1)) (h2 : pAny l1 = .ok (size, l2)) (hx : pAny l2 = .error c) :
    Calls Try.prog 105 #[ptr rb] w fun e w' => e = pnk c ∧ Upd (Is rb) w w' := by
  have F0 := Fw.begin h
  go_enter Try.func105, Try.ntmps105
  go_wp2_with (first
    | (go_at_call 102; refine (whatever_err G2.rd hx).mono ?_; rintro e w3 ⟨rfl, rfl⟩)
    | (go_at_call 102; refine (whatever_ok F1.rd h2).mono ?_; rintro e w2 ⟨rfl, hr2, hu2⟩; have F2 := F1.call hr2 hu2; have G2 := ((F2.set 0 (.int .u64 num)).set 1 (.int .u64 size)); have x2_0 := F2.f.cell1 0 _ rfl; have z2_0 := F2.f.frozen 0; have x2_1 := F2.f.cell1 1 _ rfl; have z2_1 := F2.f.frozen 1; have lf2 := F2.f.lt)
    | (go_at_call 102; refine (whatever_ok F0.rd h1).mono ?_; rintro e w1 ⟨rfl, hr1, hu1⟩; have F1 := F0.call hr1 hu1))
  exact ⟨rfl, rfl, G2.u⟩
set_option maxRecDepth 100000 in
set_option maxHeartbeats 2000000 in
theorem file_e4 {B : Nat} {w : World} {rb : Nat} {l l1 l2 l3 : List Int} {num size ents : Int} {c : Int} {cs : List Value} (h : Rdl B w rb l cs) (h1 : pAny l = .ok (num, l1)) (h2 : pAny l1 = .ok (size, l2)) (h3 : pAny l2 = .ok (ents, l3)) (hx : pAny l3 = .error c) :
    Calls Try.prog 105 #[ptr rb] w fun e w' => e = pnk c ∧ Upd (Is rb) w w' := by
  have F0 := Fw.begin h
  go_enter Try.func105, Try.ntmps105
  go_wp2_with (first
    | (go_at_call 102; refine (whatever_err F3.rd hx).mono ?_; rintro e w4 ⟨rfl, rfl⟩)
    | (go_at_call 102; refine (whatever_ok G2.rd h3).mono ?_; rintro e w3 ⟨rfl, hr3, hu3⟩; have F3 := G2.call hr3 hu3)
    | (go_at_call 102; refine (whatever_ok F1.rd h2).mono ?_; rintro e w2 ⟨rfl, hr2, hu2⟩; have F2 := F1.call hr2 hu2; have G2 := ((F2.set 0 (.int .u64 num)).set 1 (.int .u64 size)); have x2_0 := F2.f.cell1 0 _ rfl; have z2_0 := F2.f.frozen 0; have x2_1 := F2.f.cell1 1 _ rfl; have z2_1 := F2.f.frozen 1; have lf2 := F2.f.lt)
    | (go_at_call 102; refine (whatever_ok F0.rd h1).mono ?_; rintro e w1 ⟨rfl, hr1, hu1⟩; have F1 := F0.call hr1 hu1))
  exact ⟨rfl, rfl, F3.u⟩
set_option maxRecDepth 100000 in
set_option maxHeartbeats 2000000 in
theorem file_e5 {B : Nat} {w : World} {rb : Nat} {l l1 l2 l3 l4 : List Int} {num size ents rngs : Int} {c : Int} {cs : List Value} (h : Rdl B w rb l cs) (h1 : pAny l = .ok (num, l1)) (h2 : pAny l1 = .ok (size, l2)) (h3 : pAny l2 = .ok (ents, l3)) (h4 : pAny l3 = .ok (rngs, l4)) (hx : pKey l4 = .error c) :
    Calls Try.prog 105 #[ptr rb] w fun e w' => e = pnk c ∧ Upd (Is rb) w w' := by
  have F0 := Fw.begin h
  go_enter Try.func105, Try.ntmps105
  go_wp2_with (first
    | (go_at_call 124; refine (key_err G4.rd hx).mono ?_; rintro e w5 ⟨rfl, hx5⟩)
    | (go_at_call 102; refine (whatever_ok F3.rd h4).mono ?_; rintro e w4 ⟨rfl, hr4, hu4⟩; have F4 := F3.call hr4 hu4; have G4 := ((F4.set 8 (.int .u64 ents)).set 9 (.int .u64 rngs)); have x4_8 := F4.f.cell1 8 _ rfl; have z4_8 := F4.f.frozen 8; have x4_9 := F4.f.cell1 9 _ rfl; have z4_9 := F4.f.frozen 9; have lf4 := F4.f.lt)
    | (go_at_call 102; refine (whatever_ok G2.rd h3).mono ?_; rintro e w3 ⟨rfl, hr3, hu3⟩; have F3 := G2.call hr3 hu3)
    | (go_at_call 102; refine (whatever_ok F1.rd h2).mono ?_; rintro e w2 ⟨rfl, hr2, hu2⟩; have F2 := F1.call hr2 hu2; have G2 := ((F2.set 0 (.int .u64 num)).set 1 (.int .u64 size)); have x2_0 := F2.f.cell1 0 _ rfl; have z2_0 := F2.f.frozen 0; have x2_1 := F2.f.cell1 1 _ rfl; have z2_1 := F2.f.frozen 1; have lf2 := F2.f.lt)
    | (go_at_call 102; refine (whatever_ok F0.rd h1).mono ?_; rintro e w1 ⟨rfl, hr1, hu1⟩; have F1 := F0.call hr1 hu1))
  exact ⟨rfl, rfl, G4.u.trans hx5⟩
set_option maxRecDepth 100000 in
set_option maxHeartbeats 2000000 in
theorem file_e6 {B : Nat} {w : World} {rb : Nat} {l l1 l2 l3 l4 l5 : List Int} {num size ents rngs : Int} {sm : Ky} {c : Int} {cs : List Value} (h : Rdl B w rb l cs) (h1 : pAny l = .ok (num, l1)) (h2 : pAny l1 = .ok (size, l2)) (h3 : pAny l2 = .ok (ents, l3)) (h4 : pAny l3 = .ok (rngs, l4)) (h5 : pKey l4 = .ok (sm, l5)) (hx : pKey l5 = .error c) :
    Calls Try.prog 105 #[ptr rb] w fun e w' => e = pnk c ∧ Upd (Is rb) w w' := by
  have F0 := Fw.begin h
  go_enter Try.func105, Try.ntmps105
  go_wp2_with (first
    | (go_at_call 124; refine (key_err F5.rd hx).mono ?_; rintro e w6 ⟨rfl, hx6⟩)
    | (go_at_call 124; refine (key_ok G4.rd h5).mono ?_; rintro e w5 ⟨rfl, hr5, hu5⟩; have F5 := G4.call hr5 hu5)
    | (go_at_call 102; refine (whatever_ok F3.rd h4).mono ?_; rintro e w4 ⟨rfl, hr4, hu4⟩; have F4 := F3.call hr4 hu4; have G4 := ((F4.set 8 (.int .u64 ents)).set 9 (.int .u64 rngs)); have x4_8 := F4.f.cell1 8 _ rfl; have z4_8 := F4.f.frozen 8; have x4_9 := F4.f.cell1 9 _ rfl; have z4_9 := F4.f.frozen 9; have lf4 := F4.f.lt)
    | (go_at_call 102; refine (whatever_ok G2.rd h3).mono ?_; rintro e w3 ⟨rfl, hr3, hu3⟩; have F3 := G2.call hr3 hu3)
    | (go_at_call 102; refine (whatever_ok F1.rd h2).mono ?_; rintro e w2 ⟨rfl, hr2, hu2⟩; have F2 := F1.call hr2 hu2; have G2 := ((F2.set 0 (.int .u64 num)).set 1 (.int .u64 size)); have x2_0 := F2.f.cell1 0 _ rfl; have z2_0 := F2.f.frozen 0; have x2_1 := F2.f.cell1 1 _ rfl; have z2_1 := F2.f.frozen 1; have lf2 := F2.f.lt)
    | (go_at_call 102; refine (whatever_ok F0.rd h1).mono ?_; rintro e w1 ⟨rfl, hr1, hu1⟩; have F1 := F0.call hr1 hu1))
  exact ⟨rfl, rfl, F5.u.trans hx6⟩
/-- A table is read, or the reader gives up. -/
theorem file_any {B : Nat} {w : World} {rb : Nat} {l : List Int} {cs : List Value} (h : Rdl B w rb l cs) :
    (∀ f l', pFile l = .ok (f, l') → Calls Try.prog 105 #[ptr rb] w fun e w' => e = .returned f.v ∧ Rdl B w' rb l' cs ∧ Upd (Is rb) w w') ∧ (∀ c, pFile l = .error c → Calls Try.prog 105 #[ptr rb] w fun e w' => e = pnk c ∧ Upd (Is rb) w w') := by
  cases h1 : pAny l with
  | error c => exact ⟨fun f l' hp => by (simp only [pFile, h1] at hp; cases hp), fun c' hp => by simp only [pFile, h1] at hp; cases hp; exact file_e1 h h1⟩
  | ok x =>
    obtain ⟨num, l1⟩ := x
    cases h2 : pAny l1 with
    | error c => exact ⟨fun f l' hp => by (simp only [pFile, h1, h2] at hp; cases hp), fun c' hp => by simp only [pFile, h1, h2] at hp; cases hp; exact file_e2 h h1 h2⟩
    | ok x =>
      obtain ⟨size, l2⟩ := x
      cases h3 : pAny l2 with
      | error c => exact ⟨fun f l' hp => by (simp only [pFile, h1, h2, h3] at hp; cases hp), fun c' hp => by simp only [pFile, h1, h2, h3] at hp; cases hp; exact file_e3 h h1 h2 h3⟩
      | ok x =>
        obtain ⟨ents, l3⟩ := x
        cases h4 : pAny l3 with
        | error c => exact ⟨fun f l' hp => by (simp only [pFile, h1, h2, h3, h4] at hp; cases hp), fun c' hp => by simp only [pFile, h1, h2, h3, h4] at hp; cases hp; exact file_e4 h h1 h2 h3 h4⟩
        | ok x =>
          obtain ⟨rngs, l4⟩ := x
          cases h5 : pKey l4 with
          | error c => exact ⟨fun f l' hp => by (simp only [pFile, h1, h2, h3, h4, h5] at hp; cases hp), fun c' hp => by simp only [pFile, h1, h2, h3, h4, h5] at hp; cases hp; exact file_e5 h h1 h2 h3 h4 h5⟩
          | ok x =>
            obtain ⟨sm, l5⟩ := x
            cases h6 : pKey l5 with
            | error c => exact ⟨fun f l' hp => by (simp only [pFile, h1, h2, h3, h4, h5, h6] at hp; cases hp), fun c' hp => by simp only [pFile, h1, h2, h3, h4, h5, h6] at hp; cases hp; exact file_e6 h h1 h2 h3 h4 h5 h6⟩
            | ok x =>
              obtain ⟨la, l6⟩ := x
              exact ⟨fun f l' hp => by (simp only [pFile, h1, h2, h3, h4, h5, h6] at hp; cases hp; exact file_ok h h1 h2 h3 h4 h5 h6), fun c' hp => by simp only [pFile, h1, h2, h3, h4, h5, h6] at hp; cases hp⟩
end Go.Proofs.Ytkmpcheamdadcaa
