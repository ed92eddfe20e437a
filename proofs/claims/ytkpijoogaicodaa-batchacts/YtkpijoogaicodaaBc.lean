import Derived.Test.YtkpijoogaicodaaEb
namespace Go.Proofs.Ytkpijoogaicodaa
open Go.RowKit
set_option linter.unusedVariables false
set_option linter.unusedSimpArgs false

theorem rsz_bd (f k : Int) (key val : ByteArray) (h1 : key.size ≤ 100000) (h2 : val.size ≤ 100000) : rsz f k key val ≤ 300000 := by
  have b1 := vs_bd f
  have b2 := vs_bd key.size
  have b3 := vs_bd val.size
  unfold rsz ts
  split <;> omega
theorem one_rd (w : World) (r : Rec) : RdR (w.alloc (.cells #[.int .u32 r.fam, .int .i64 r.kind, .string r.key, .string r.val] 31)) (.slice (some ⟨w.heap.size, 0, none⟩) 1 1) [r] := by
  refine .inr ⟨w.heap.size, 0, 1, rfl, by simp, fun j hj => ?_⟩
  have : j = 0 := by simp at hj; omega
  subst this
  exact ⟨World.cell?_alloc_new w _ 31 0, World.cell?_alloc_new w _ 31 1, World.cell?_alloc_new w _ 31 2, World.cell?_alloc_new w _ 31 3⟩

theorem rkeepU {S : Nat → Prop} {B : Nat} {f k : Int} {key val : ByteArray} {W W' : World} (u : Upd S W W') (hlt : B < W.heap.size) (hS : ¬ S B) (h : RBox B f k key val W) : RBox B f k key val W' := by
  have e := u.block B hlt hS
  exact ⟨(World.cell?_of_block (a := ⟨B, 0, none⟩) e).trans h.1, (World.cell?_of_block (a := ⟨B, 1, none⟩) e).trans h.2.1, (World.cell?_of_block (a := ⟨B, 2, none⟩) e).trans h.2.2.1, (World.cell?_of_block (a := ⟨B, 3, none⟩) e).trans h.2.2.2⟩
theorem Bt.of_lt {w : World} {b : Nat} {rv mv : Value} {rs : List Rec} {ms : List Nat} (h : Bt w b rv mv rs ms) {k : Nat} (hk : w.heap.size ≤ k) : ¬ Of b rv k := by
  rintro (rfl | h1)
  · have := h.blk.lt; omega
  · have := (h.row.lt k h1).2; omega
theorem Bt.marks_of {w : World} {b : Nat} {rv mv : Value} {rs : List Rec} {ms : List Nat} (h : Bt w b rv mv rs ms) : ∀ k, mv.ownBlock = some k → ¬ Of b rv k := by
  rintro k hk (rfl | h1)
  · exact row_ne h.marks h.blk (by decide) k hk rfl
  · exact row_row_ne h.marks h.row (by decide) k hk h1
/-- join, in a world behind w. -/
theorem join_behind {w W : World} {b : Nat} {rv mv sv : Value} {rs l : List Rec} {ms : List Nat} (h : Bt w b rv mv rs ms) (hb : Below w.heap.size w W) (hs : RdR W sv l) (by_ : Nat) (hby : by_ = szs l) (h1 : rs.length + l.length ≤ 4096) (h2 : 12 + szs rs + szs l ≤ 4194304) :
    Calls Try.prog 53 #[ptr b, .int .i64 by_, sv] W fun e w' => ∃ rv', e = .returned (.int .i64 0) ∧ Bt w' b rv' mv (rs ++ l) ms ∧ Upd (Of b rv) w w' ∧ Upd (Of b rv) W w' ∧ (rv'.ownBlock = rv.ownBlock ∨ ∀ j, rv'.ownBlock = some j → w.heap.size ≤ j) := by
  subst hby
  have hB := h.below hb
  refine (join_yes hB.blk hB.row hs h1 h2).mono ?_
  rintro e w' ⟨rv', rfl, g1, g2, g3, g4⟩
  refine ⟨rv', rfl, ⟨by rw [szs_app]; exact g1, g2, row_upd hB.marks g3 hB.marks_of⟩, (Upd.ofBelow hb).trans g3, g3, ?_⟩
  rcases g4 with g4 | g4
  · exact .inl g4
  · refine .inr fun j hj => ?_
    rw [g4] at hj
    cases hj
    exact hb.size
set_option maxRecDepth 100000 in
set_option maxHeartbeats 1000000 in
/-- Add: a record that can't be. -/
theorem add_bad (b : Nat) (f k : Int) (key val : ByteArray) (w : World) (h : chk k key val ≠ 0) :
    Calls Try.prog 19 #[ptr b, recV f k key val] w fun e w' => e = .returned (.int .i64 (chk k key val)) ∧ Below w.heap.size w w' := by
  have hb : (chk k key val != 0) = true := by simpa using h
  have HC := check_any f k key val
  clear h
  generalize chk k key val = c at *
  go_enter Try.func19, Try.ntmps19
  go_wp2_with (go_at_call 10; refine (HC _).mono ?_; rintro e w1 ⟨rfl, hb1⟩)
  go_ret
  exact ⟨rfl, bstep ((Below.refl _ _).alloc (Nat.le_refl _) _) hb1⟩
/-- join in a world behind w, where it is too much. -/
theorem join_full {w W : World} {b : Nat} {rv mv sv : Value} {rs l : List Rec} {ms : List Nat} (h : Bt w b rv mv rs ms) (hb : Below w.heap.size w W) (hs : RdR W sv l) (by_ : Nat) (hby : by_ = szs l) (h0 : rs.length ≤ 4096) (h0' : szs rs ≤ 4194304) (h3 : l.length ≤ 4096) (h4 : szs l ≤ 4194304) (h1 : 4096 < rs.length + l.length ∨ 4194304 < 12 + szs rs + szs l) :
    Calls Try.prog 53 #[ptr b, .int .i64 by_, sv] W fun e w' => e = .returned (.int .i64 2) ∧ w' = W := by
  subst hby
  have hB := h.below hb
  obtain ⟨a, c, rfl⟩ := hs.len
  exact join_no hB.blk hB.row (by omega) (by omega) a c (by omega) (by omega) h1
theorem fzkeep {w W' : World} {f k : Int} {key val : ByteArray} (hb : Below (w.alloc (.cells #[.int .u32 f, .int .i64 k, .string key, .string val] 31)).heap.size (w.alloc (.cells #[.int .u32 f, .int .i64 k, .string key, .string val] 31)) W') : W'.frozen? ⟨w.heap.size, 3, none⟩ = false :=
  (hb.frozen (p := ⟨w.heap.size, 3, none⟩) (by simp)).trans ((Blk.new w 31 [.int .u32 f, .int .i64 k, .string key, .string val]).frozen 3)
theorem dset {w' : World} {B : Nat} {f k : Int} {key val v' : ByteArray} (d0 : w'.cell? ⟨B, 0, none⟩ = some (.int .u32 f)) (d1 : w'.cell? ⟨B, 1, none⟩ = some (.int .i64 k)) (d2 : w'.cell? ⟨B, 2, none⟩ = some (.string key)) (d3 : w'.cell? ⟨B, 3, none⟩ = some (.string val)) : RBox B f k key v' (w'.setCell ⟨B, 3, none⟩ (.string v')) :=
  ⟨(World.cell?_setCell_other _ _ _ _ (by simp)).trans d0, (World.cell?_setCell_other _ _ _ _ (by simp)).trans d1, (World.cell?_setCell_other _ _ _ _ (by simp)).trans d2, World.cell?_setCell_same' _ _ _ (by rw [d3]; rfl)⟩
set_option maxRecDepth 100000 in
set_option maxHeartbeats 1000000 in
/-- Add: one that can be, and has a value. -/
theorem add_put {w : World} {b : Nat} {rv mv : Value} {rs : List Rec} {ms : List Nat} (h : Bt w b rv mv rs ms) (f k : Int) (key val : ByteArray) (hc : chk k key val = 0) (hk : ¬ k = 0) (f0 : 0 ≤ f) (f1 : f < 4294967296) (h1 : key.size ≤ 100000) (h2 : val.size ≤ 100000)
    (hl : rs.length < 4096) (hs : 12 + szs rs + rsz f k key val ≤ 4194304) :
    Calls Try.prog 19 #[ptr b, recV f k key val] w fun e w' => ∃ rv', e = .returned (.int .i64 0) ∧ Bt w' b rv' mv (rs ++ [⟨f, k, key, val⟩]) ms ∧ Upd (Of b rv) w w' ∧ (rv'.ownBlock = rv.ownBlock ∨ ∀ j, rv'.ownBlock = some j → w.heap.size ≤ j) := by
  have HC := check_any f k key val
  rw [hc] at HC
  have HV := hasValue_yes hk
  have HS := fun w => recordSize_any f k key val w f0 f1 h1 (fun _ => h2)
  clear hc hk
  go_enter Try.func19, Try.ntmps19
  go_wp2_with (first
    | (go_at_call 10; refine (HC _).mono ?_; rintro e w1 ⟨rfl, hb1⟩; have bx := rkeep hb1 (by simp) (rnew w f k key val); obtain ⟨d0, d1, d2, d3⟩ := bx; have fz := fzkeep hb1)
    | (go_at_call 36; refine (HV _).mono ?_; rintro e w' ⟨rfl, rfl⟩))
  have hz1 : w.heap.size < w'.heap.size := by have := hb1.size; simp at this; omega
  have b1 : Below w.heap.size w w' := bstep ((Below.refl _ _).alloc (Nat.le_refl _) _) hb1
  clear hb1
  go_region_held_law (fun w' => w'.cell? ⟨w.heap.size, 0, none⟩ = some (.int .u32 f) ∧ w'.cell? ⟨w.heap.size, 1, none⟩ = some (.int .i64 k) ∧ w'.cell? ⟨w.heap.size, 2, none⟩ = some (.string key) ∧ w'.cell? ⟨w.heap.size, 3, none⟩ = some (.string val))
      (first
        | (go_keep; done)
        | (refine rkeep hb2 ?_ ?_ <;> (first | assumption | (simp; omega)))
        | (refine rkeepU hU2 ?_ (h.of_lt (Nat.le_refl _)) ?_ <;> (first | assumption | (simp; omega))))
      (first
        | (go_at_call 54; refine (HS _).mono ?_; rintro e w2 ⟨rfl, hb2⟩; have hz2 : w.heap.size < w2.heap.size := (by have := hb2.size; first | omega | (simp at this; omega)))
        | (go_at_call 53; refine (join_behind (l := [⟨f, k, key, val⟩]) h (by first | exact (bstep b1.drew hb2).alloc (Nat.le_of_lt hz2) _ | exact bstep (b1.drew.alloc (Nat.le_of_lt hz1) _) hb2) (by first | exact one_rd w2 ⟨f, k, key, val⟩ | exact (one_rd w'.drew ⟨f, k, key, val⟩).below hb2) _ (by simp [szs]) (by simp; omega) (by simp [szs]; omega)).mono ?_; rintro e w3 ⟨rv', rfl, hB, hU, hU2, hloc⟩))
  all_goals
    go_wp2
    go_ret
    exact ⟨rv', rfl, hB, hU, hloc⟩
set_option maxRecDepth 100000 in
set_option maxHeartbeats 1000000 in
/-- Add: a Delete. -/
theorem add_del {w : World} {b : Nat} {rv mv : Value} {rs : List Rec} {ms : List Nat} (h : Bt w b rv mv rs ms) (f k : Int) (key val : ByteArray) (hc : chk k key val = 0) (hk : k = 0) (f0 : 0 ≤ f) (f1 : f < 4294967296) (h1 : key.size ≤ 100000)
    (hl : rs.length < 4096) (hs : 12 + szs rs + rsz f k key ⟨#[]⟩ ≤ 4194304) :
    Calls Try.prog 19 #[ptr b, recV f k key val] w fun e w' => ∃ rv', e = .returned (.int .i64 0) ∧ Bt w' b rv' mv (rs ++ [⟨f, k, key, ⟨#[]⟩⟩]) ms ∧ Upd (Of b rv) w w' ∧ (rv'.ownBlock = rv.ownBlock ∨ ∀ j, rv'.ownBlock = some j → w.heap.size ≤ j) := by
  have HC := check_any f k key val
  rw [hc] at HC
  have HV := hasValue_no hk
  have HS := fun w => recordSize_any f k key ⟨#[]⟩ w f0 f1 h1 (fun _ => by decide)
  clear hc hk
  go_enter Try.func19, Try.ntmps19
  go_wp2_with (first
    | (go_at_call 10; refine (HC _).mono ?_; rintro e w1 ⟨rfl, hb1⟩; have bx := rkeep hb1 (by simp) (rnew w f k key val); obtain ⟨d0, d1, d2, d3⟩ := bx; have fz := fzkeep hb1)
    | (go_at_call 36; refine (HV _).mono ?_; rintro e w' ⟨rfl, rfl⟩))
  have hz1 : w.heap.size < w'.heap.size := by have := hb1.size; simp at this; omega
  have b1 : Below w.heap.size w (w'.setCell ⟨w.heap.size, 3, none⟩ (.string ⟨#[]⟩)) := (bstep ((Below.refl _ _).alloc (Nat.le_refl _) _) hb1).setCell (Nat.le_refl _) _
  have hz1' : w.heap.size < (w'.setCell ⟨w.heap.size, 3, none⟩ (.string ⟨#[]⟩)).heap.size := by simpa using hz1
  clear hb1
  have D0 := dset (v' := ⟨#[]⟩) d0 d1 d2 d3
  have g0 := D0.1
  have g1 := D0.2.1
  have g2 := D0.2.2.1
  have g3 := D0.2.2.2
  clear D0 d0 d1 d2 d3
  generalize w'.setCell ⟨w.heap.size, 3, none⟩ (.string ⟨#[]⟩) = wx at *
  go_region_held_law (fun w' => w'.cell? ⟨w.heap.size, 0, none⟩ = some (.int .u32 f) ∧ w'.cell? ⟨w.heap.size, 1, none⟩ = some (.int .i64 k) ∧ w'.cell? ⟨w.heap.size, 2, none⟩ = some (.string key) ∧ w'.cell? ⟨w.heap.size, 3, none⟩ = some (.string ⟨#[]⟩))
      (first
        | (go_keep; done)
        | (refine rkeep hb2 ?_ ?_ <;> (first | assumption | (simp; omega)))
        | (refine rkeepU hU2 ?_ (h.of_lt (Nat.le_refl _)) ?_ <;> (first | assumption | (simp; omega))))
      (first
        | (go_at_call 54; refine (HS _).mono ?_; rintro e w2 ⟨rfl, hb2⟩; have hz2 : w.heap.size < w2.heap.size := (by have := hb2.size; first | omega | (simp at this; omega)))
        | (go_at_call 53; refine (join_behind (l := [⟨f, k, key, ⟨#[]⟩⟩]) h (by first | exact (bstep b1.drew hb2).alloc (Nat.le_of_lt hz2) _ | exact bstep (b1.drew.alloc (Nat.le_of_lt hz1') _) hb2) (by first | exact one_rd w2 ⟨f, k, key, ⟨#[]⟩⟩ | exact (one_rd wx.drew ⟨f, k, key, ⟨#[]⟩⟩).below hb2) _ (by simp [szs]) (by simp; omega) (by simp [szs]; omega)).mono ?_; rintro e w3 ⟨rv', rfl, hB, hU, hU2, hloc⟩))
  all_goals
    go_wp2
    go_ret
    exact ⟨rv', rfl, hB, hU, hloc⟩
set_option maxRecDepth 100000 in
set_option maxHeartbeats 1000000 in
/-- Add: too much. -/
theorem add_put_full {w : World} {b : Nat} {rv mv : Value} {rs : List Rec} {ms : List Nat} (h : Bt w b rv mv rs ms) (f k : Int) (key val : ByteArray) (hc : chk k key val = 0) (hk : ¬ k = 0) (f0 : 0 ≤ f) (f1 : f < 4294967296) (h1 : key.size ≤ 100000) (h2 : val.size ≤ 100000)
    (hl : rs.length ≤ 4096) (hs : 12 + szs rs ≤ 4194304) (hno : 4096 < rs.length + 1 ∨ 4194304 < 12 + szs rs + rsz f k key val) :
    Calls Try.prog 19 #[ptr b, recV f k key val] w fun e w' => e = .returned (.int .i64 2) ∧ Below w.heap.size w w' := by
  have HC := check_any f k key val
  rw [hc] at HC
  have HV := hasValue_yes hk
  have HS := fun w => recordSize_any f k key val w f0 f1 h1 (fun _ => h2)
  have hrz := rsz_bd f k key val h1 h2
  clear hc hk
  go_enter Try.func19, Try.ntmps19
  go_wp2_with (first
    | (go_at_call 10; refine (HC _).mono ?_; rintro e w1 ⟨rfl, hb1⟩; have bx := rkeep hb1 (by simp) (rnew w f k key val); obtain ⟨d0, d1, d2, d3⟩ := bx; have fz := fzkeep hb1)
    | (go_at_call 36; refine (HV _).mono ?_; rintro e w' ⟨rfl, rfl⟩))
  have hz1 : w.heap.size < w'.heap.size := by have := hb1.size; simp at this; omega
  have b1 : Below w.heap.size w w' := bstep ((Below.refl _ _).alloc (Nat.le_refl _) _) hb1
  clear hb1
  go_region_held_law (fun w' => w'.cell? ⟨w.heap.size, 0, none⟩ = some (.int .u32 f) ∧ w'.cell? ⟨w.heap.size, 1, none⟩ = some (.int .i64 k) ∧ w'.cell? ⟨w.heap.size, 2, none⟩ = some (.string key) ∧ w'.cell? ⟨w.heap.size, 3, none⟩ = some (.string val))
      (first
        | (go_keep; done)
        | (refine rkeep hb2 ?_ ?_ <;> (first | assumption | (simp; omega)))
        | assumption)
      (first
        | (go_at_call 54; refine (HS _).mono ?_; rintro e w2 ⟨rfl, hb2⟩; have hz2 : w.heap.size < w2.heap.size := (by have := hb2.size; first | omega | (simp at this; omega)))
        | (go_at_call 53; refine (join_full (l := [⟨f, k, key, val⟩]) h (by first | exact (bstep b1.drew hb2).alloc (Nat.le_of_lt hz2) _ | exact bstep (b1.drew.alloc (Nat.le_of_lt hz1) _) hb2) (by first | exact one_rd w2 ⟨f, k, key, val⟩ | exact (one_rd w'.drew ⟨f, k, key, val⟩).below hb2) _ (by simp [szs]) hl (by omega) (by simp) (by simp [szs]; omega) (by simpa [szs] using hno)).mono ?_; rintro e w3 ⟨rfl, rfl⟩))
  · go_wp2
    go_ret
    exact ⟨rfl, (bstep b1.drew hb2).alloc (Nat.le_of_lt hz2) _⟩
  · go_wp2
    go_ret
    exact ⟨rfl, bstep (b1.drew.alloc (Nat.le_of_lt hz1) _) hb2⟩
set_option maxRecDepth 100000 in
set_option maxHeartbeats 1000000 in
/-- Add: a Delete too much. -/
theorem add_del_full {w : World} {b : Nat} {rv mv : Value} {rs : List Rec} {ms : List Nat} (h : Bt w b rv mv rs ms) (f k : Int) (key val : ByteArray) (hc : chk k key val = 0) (hk : k = 0) (f0 : 0 ≤ f) (f1 : f < 4294967296) (h1 : key.size ≤ 100000)
    (hl : rs.length ≤ 4096) (hs : 12 + szs rs ≤ 4194304) (hno : 4096 < rs.length + 1 ∨ 4194304 < 12 + szs rs + rsz f k key ⟨#[]⟩) :
    Calls Try.prog 19 #[ptr b, recV f k key val] w fun e w' => e = .returned (.int .i64 2) ∧ Below w.heap.size w w' := by
  have HC := check_any f k key val
  rw [hc] at HC
  have HV := hasValue_no hk
  have HS := fun w => recordSize_any f k key ⟨#[]⟩ w f0 f1 h1 (fun _ => by decide)
  have hrz := rsz_bd f k key ⟨#[]⟩ h1 (by decide)
  clear hc hk
  go_enter Try.func19, Try.ntmps19
  go_wp2_with (first
    | (go_at_call 10; refine (HC _).mono ?_; rintro e w1 ⟨rfl, hb1⟩; have bx := rkeep hb1 (by simp) (rnew w f k key val); obtain ⟨d0, d1, d2, d3⟩ := bx; have fz := fzkeep hb1)
    | (go_at_call 36; refine (HV _).mono ?_; rintro e w' ⟨rfl, rfl⟩))
  have hz1 : w.heap.size < w'.heap.size := by have := hb1.size; simp at this; omega
  have b1 : Below w.heap.size w (w'.setCell ⟨w.heap.size, 3, none⟩ (.string ⟨#[]⟩)) := (bstep ((Below.refl _ _).alloc (Nat.le_refl _) _) hb1).setCell (Nat.le_refl _) _
  have hz1' : w.heap.size < (w'.setCell ⟨w.heap.size, 3, none⟩ (.string ⟨#[]⟩)).heap.size := by simpa using hz1
  clear hb1
  have D0 := dset (v' := ⟨#[]⟩) d0 d1 d2 d3
  have g0 := D0.1
  have g1 := D0.2.1
  have g2 := D0.2.2.1
  have g3 := D0.2.2.2
  clear D0 d0 d1 d2 d3
  generalize w'.setCell ⟨w.heap.size, 3, none⟩ (.string ⟨#[]⟩) = wx at *
  go_region_held_law (fun w' => w'.cell? ⟨w.heap.size, 0, none⟩ = some (.int .u32 f) ∧ w'.cell? ⟨w.heap.size, 1, none⟩ = some (.int .i64 k) ∧ w'.cell? ⟨w.heap.size, 2, none⟩ = some (.string key) ∧ w'.cell? ⟨w.heap.size, 3, none⟩ = some (.string ⟨#[]⟩))
      (first
        | (go_keep; done)
        | (refine rkeep hb2 ?_ ?_ <;> (first | assumption | (simp; omega)))
        | assumption)
      (first
        | (go_at_call 54; refine (HS _).mono ?_; rintro e w2 ⟨rfl, hb2⟩; have hz2 : w.heap.size < w2.heap.size := (by have := hb2.size; first | omega | (simp at this; omega)))
        | (go_at_call 53; refine (join_full (l := [⟨f, k, key, ⟨#[]⟩⟩]) h (by first | exact (bstep b1.drew hb2).alloc (Nat.le_of_lt hz2) _ | exact bstep (b1.drew.alloc (Nat.le_of_lt hz1') _) hb2) (by first | exact one_rd w2 ⟨f, k, key, ⟨#[]⟩⟩ | exact (one_rd wx.drew ⟨f, k, key, ⟨#[]⟩⟩).below hb2) _ (by simp [szs]) hl (by omega) (by simp) (by simp [szs]; omega) (by simpa [szs] using hno)).mono ?_; rintro e w3 ⟨rfl, rfl⟩))
  · go_wp2
    go_ret
    exact ⟨rfl, (bstep b1.drew hb2).alloc (Nat.le_of_lt hz2) _⟩
  · go_wp2
    go_ret
    exact ⟨rfl, bstep (b1.drew.alloc (Nat.le_of_lt hz1') _) hb2⟩
end Go.Proofs.Ytkpijoogaicodaa
