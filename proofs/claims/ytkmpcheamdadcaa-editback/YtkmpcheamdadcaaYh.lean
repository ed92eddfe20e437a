/-
  The law EditBack, walked.
-/
import Derived.Test.YtkmpcheamdadcaaYf
import Derived.Test.YtkmpcheamdadcaaYg
import Derived.Test.YtkmpcheamdadcaaWc
namespace Go.Proofs.Ytkmpcheamdadcaa
open Go.RowKit
set_option linter.unusedVariables false
set_option linter.unusedSimpArgs false
abbrev Ad.v (a : Ad) : Value := .agg #[.int .i64 a.lv, .int .u64 a.f.num, .int .u64 a.f.size, .string a.f.sm.u, .int .u64 a.f.sm.s, .int .i64 a.f.sm.k, .string a.f.la.u, .int .u64 a.f.la.s, .int .i64 a.f.la.k, .int .u64 a.f.ents, .int .u64 a.f.rngs]
theorem blk_rda {w : World} {b : Nat} {a : Ad} (h : Blk w b 64 a.c) : RdA w (some ⟨b, 0, none⟩) [a] := .inr ⟨b, 0, rfl, fun j y hj i v hv => by
  cases j with
  | zero => simp at hj; subst hj; rw [Nat.zero_mul, Nat.add_zero, Nat.zero_add]; exact h.cell1 i v hv
  | succ j => simp at hj⟩
theorem blk_rdg {w : World} {b : Nat} {g : Gn} (h : Blk w b 66 g.c) : RdG w (some ⟨b, 0, none⟩) [g] := .inr ⟨b, 0, rfl, fun j y hj i v hv => by
  cases j with
  | zero => simp at hj; subst hj; rw [Nat.zero_mul, Nat.add_zero, Nat.zero_add]; exact h.cell1 i v hv
  | succ j => simp at hj⟩
theorem add_rd {w : World} {b : Nat} {a : Ad} (h : Blk w b 64 a.c) : RdEd w ⟨none, 0, some ⟨b, 0, none⟩, 1⟩ (addEd a) :=
  ⟨.inl rfl, blk_rda h, fun _ => rfl, (fun h => by cases h), by simp [addEd], by simp [addEd]⟩
theorem gon_rd {w : World} {b : Nat} {a : Ad} (h : Blk w b 66 [.int .i64 a.lv, .int .u64 a.f.num]) : RdEd w ⟨some ⟨b, 0, none⟩, 1, none, 0⟩ (gonEd a) :=
  ⟨blk_rdg (g := ⟨a.lv, a.f.num⟩) h, .inl rfl, (fun h => by cases h), fun _ => rfl, by simp [gonEd], by simp [gonEd]⟩
theorem apply_add {w : World} {V : Vn} {L : Nat → List Fi} (h : RdV w V L) {b : Nat} {a : Ad} (ha : FOk a.f) (hB : Blk w b 64 a.c) (how : Int) {E : Int} {M : Nat → List Fi} (hr : appR how L (addEd a) = (E, M)) :
    Calls Try.prog 18 #[.int .i64 how, .agg (verA V L), .agg #[.int .u32 0, .bool false, .bool false, .string ⟨#[]⟩, .int .i64 0, .bool false, .bool false, .bool false, .int .u64 0, .int .u64 0, .int .u64 0, .slice none 0 0, .slice (some ⟨b, 0, none⟩) 1 1]] w
      fun e w' => ∃ V', e = .returned (.tuple #[.agg (verA V' M), .int .i64 E]) ∧ RdV w' V' M ∧ Below w.heap.size w w' := by
  have h1 := apply_any h (add_rd hB) (fun x hx => by simp [addEd] at hx; subst hx; exact ha) how
  rw [hr] at h1
  exact h1.mono fun e w' ⟨V', h1, _, h3, h4⟩ => ⟨V', h1, h3, h4⟩
theorem rapply_add {w : World} {V : Vn} {L : Nat → List Fi} (h : RdV w V L) (hc : ∀ i, i < 7 → (L i).length ≤ V.c i) {b : Nat} {a : Ad} (ha : FOk a.f) (hB : Blk w b 64 a.c) (how : Int) {E : Int} {M : Nat → List Fi} (hr : appR how L (addEd a) = (E, M)) :
    Calls Try.prog 19 #[.int .i64 how, .agg (verA V L), .agg #[.int .u32 0, .bool false, .bool false, .string ⟨#[]⟩, .int .i64 0, .bool false, .bool false, .bool false, .int .u64 0, .int .u64 0, .int .u64 0, .slice none 0 0, .slice (some ⟨b, 0, none⟩) 1 1]] w
      fun e w' => ∃ V', e = .returned (.tuple #[.agg (verA V' M), .int .i64 E]) ∧ RdV w' V' M ∧ Below w.heap.size w w' := by
  have h1 := rapply_any h hc (add_rd hB) (fun x hx => by simp [addEd] at hx; subst hx; exact ha) how
  rw [hr] at h1
  exact h1
theorem apply_gon {w : World} {V : Vn} {L M : Nat → List Fi} (h : RdV w V L) {b : Nat} {a : Ad} (hB : Blk w b 66 [.int .i64 a.lv, .int .u64 a.f.num]) (how : Int) (hr : appR how L (gonEd a) = (0, M)) :
    Calls Try.prog 18 #[.int .i64 how, .agg (verA V L), .agg #[.int .u32 0, .bool false, .bool false, .string ⟨#[]⟩, .int .i64 0, .bool false, .bool false, .bool false, .int .u64 0, .int .u64 0, .int .u64 0, .slice (some ⟨b, 0, none⟩) 1 1, .slice none 0 0]] w
      fun e w' => ∃ V', e = .returned (.tuple #[.agg (verA V' M), .int .i64 0]) ∧ RdV w' V' M ∧ Below w.heap.size w w' := by
  have h1 := apply_any h (gon_rd hB) (fun x hx => by simp [gonEd] at hx) how
  rw [hr] at h1
  exact h1.mono fun e w' ⟨V', h1, _, h3, h4⟩ => ⟨V', h1, h3, h4⟩
theorem Blk.new1 (w : World) (o : Obj) (t : TypeId) (cs : List Value) : Blk ((w.alloc o).alloc (.cells cs.toArray t)) (w.heap.size + 1) t cs := by
  have := Blk.new (w.alloc o) t cs
  rw [World.size_alloc] at this
  exact this
abbrev zO : Obj := .cells #[.slice none 0 0, .slice none 0 0, .slice none 0 0, .slice none 0 0, .slice none 0 0, .slice none 0 0, .slice none 0 0] 41
theorem xn0 {a : Ad} (w : World) : Blk (w.alloc a.o) w.heap.size 64 a.c := Blk.new w 64 a.c
theorem xn1 {a : Ad} (w : World) (o : Obj) : Blk ((w.alloc o).alloc a.o) (w.heap.size + 1) 64 a.c := Blk.new1 w o 64 a.c
theorem zn0 (w : World) : Blk (w.alloc zO) w.heap.size 41 (cells7 nil7) := Blk.new w 41 (cells7 nil7)
theorem zn1 (w : World) (o : Obj) : Blk ((w.alloc o).alloc zO) (w.heap.size + 1) 41 (cells7 nil7) := Blk.new1 w o 41 (cells7 nil7)
theorem fin_set {w W : World} {X : Nat} {V : Vn} {M : Nat → List Fi} (hZ : Blk W X 41 (cells7 nil7)) (hv : RdV W V M) (hb : Below w.heap.size w W) (hX : w.heap.size ≤ X) :
    Blk (((((((W.setCell ⟨X, 0, none⟩ (vsl V M 0)).setCell ⟨X, 1, none⟩ (vsl V M 1)).setCell ⟨X, 2, none⟩ (vsl V M 2)).setCell ⟨X, 3, none⟩ (vsl V M 3)).setCell ⟨X, 4, none⟩ (vsl V M 4)).setCell ⟨X, 5, none⟩ (vsl V M 5)).setCell ⟨X, 6, none⟩ (vsl V M 6)) X 41 (cells7 (vsl V M)) ∧
      RdV (((((((W.setCell ⟨X, 0, none⟩ (vsl V M 0)).setCell ⟨X, 1, none⟩ (vsl V M 1)).setCell ⟨X, 2, none⟩ (vsl V M 2)).setCell ⟨X, 3, none⟩ (vsl V M 3)).setCell ⟨X, 4, none⟩ (vsl V M 4)).setCell ⟨X, 5, none⟩ (vsl V M 5)).setCell ⟨X, 6, none⟩ (vsl V M 6)) V M ∧
      Below w.heap.size w (((((((W.setCell ⟨X, 0, none⟩ (vsl V M 0)).setCell ⟨X, 1, none⟩ (vsl V M 1)).setCell ⟨X, 2, none⟩ (vsl V M 2)).setCell ⟨X, 3, none⟩ (vsl V M 3)).setCell ⟨X, 4, none⟩ (vsl V M 4)).setCell ⟨X, 5, none⟩ (vsl V M 5)).setCell ⟨X, 6, none⟩ (vsl V M 6)) := by
  have U := upd7 W X (vsl V M 0) (vsl V M 1) (vsl V M 2) (vsl V M 3) (vsl V M 4) (vsl V M 5) (vsl V M 6)
  refine ⟨?_, ⟨fun i hi => rdf_upd hZ (fun _ => ⟨_, _, _, rfl⟩) (hv.rd i hi) U, hv.nil, hv.len, hv.ok⟩, Upd.bel hb U (fun j hj => by omega) hb.size⟩
  exact ((((((hZ.set 0 _).set 1 _).set 2 _).set 3 _).set 4 _).set 5 _).set 6 _
set_option maxRecDepth 100000 in
set_option maxHeartbeats 4000000 in
theorem back_walk {w : World} {V : Vn} {L : Nat → List Fi} (h : RdV w V L) (hcap : ∀ i, i < 7 → (L i).length ≤ V.c i) (a : Ad) (ha : FOk a.f) (how : Int) :
    Calls Try.prog 8 #[.int .i64 how, .agg (verA V L), a.v] w fun e w' => e = .returned (.bool true) ∧ Below w.heap.size w w' := by
  have HV : Hid (RdV w V L ∧ (∀ i, i < 7 → (L i).length ≤ V.c i) ∧ FOk a.f) := ⟨h, hcap, ha⟩
  have HLv := fun w => lives_any w
  obtain ⟨E, M, hr⟩ : ∃ E M, appR how L (addEd a) = (E, M) := ⟨_, _, rfl⟩
  have HR : Hid (appR how L (addEd a) = (E, M)) := hr
  have HBk : Hid (E = 0 → appR how M (gonEd a) = (0, L)) := fun he => by
    have h1 := back_same (how := how) (L := L) (a := a) (by rw [hr]; exact he)
    rw [hr] at h1
    exact h1
  have hbA := (Blk.new (w.alloc (.cells (verA V L) 41)) 64 a.c)
  rw [World.size_alloc] at hbA
  have HBx : Hid (∀ W, Below ((w.alloc (.cells (verA V L) 41)).alloc a.o).heap.size ((w.alloc (.cells (verA V L) 41)).alloc a.o) W → Blk W w.heap.size 41 (cells7 (vsl V L)) ∧ Blk W (w.heap.size + 1) 64 a.c) := fun W hb =>
    ⟨((Blk.new w 41 (cells7 (vsl V L))).alloc a.o).upd (S := Non) (Upd.ofBelow hb) (fun h => h), hbA.upd (S := Non) (Upd.ofBelow hb) (fun h => h)⟩
  have HB1 : Hid (Below w.heap.size w ((w.alloc (.cells (verA V L) 41)).alloc a.o)) := bstep (al1 _ _) (al1 _ _)
  clear h hcap ha hr hbA
  go_enter Try.func8, Try.ntmps8
  go_wp2_with fail
  generalize hW1 : (w.alloc (.cells (verA V L) 41)).alloc a.o = W1 at *
  clear hW1
  have HVr : Hid (∀ W, Below W1.heap.size W1 W → RdV W V L) := fun W hb => HV.out.1.below (bstep HB1.out hb)
  have HA : Hid (∀ w', Below W1.heap.size W1 w' → w'.cell? ⟨w.heap.size, 0, none⟩ = some (vsl V L 0) ∧ w'.cell? ⟨w.heap.size, 1, none⟩ = some (vsl V L 1) ∧ w'.cell? ⟨w.heap.size, 2, none⟩ = some (vsl V L 2) ∧ w'.cell? ⟨w.heap.size, 3, none⟩ = some (vsl V L 3) ∧ w'.cell? ⟨w.heap.size, 4, none⟩ = some (vsl V L 4) ∧ w'.cell? ⟨w.heap.size, 5, none⟩ = some (vsl V L 5) ∧ w'.cell? ⟨w.heap.size, 6, none⟩ = some (vsl V L 6) ∧ w'.cell? ⟨w.heap.size + 1, 0, none⟩ = some (.int .i64 a.lv) ∧ w'.cell? ⟨w.heap.size + 1, 1, none⟩ = some (.int .u64 a.f.num) ∧ w'.cell? ⟨w.heap.size + 1, 2, none⟩ = some (.int .u64 a.f.size) ∧ w'.cell? ⟨w.heap.size + 1, 3, none⟩ = some (.string a.f.sm.u) ∧ w'.cell? ⟨w.heap.size + 1, 4, none⟩ = some (.int .u64 a.f.sm.s) ∧ w'.cell? ⟨w.heap.size + 1, 5, none⟩ = some (.int .i64 a.f.sm.k) ∧ w'.cell? ⟨w.heap.size + 1, 6, none⟩ = some (.string a.f.la.u) ∧ w'.cell? ⟨w.heap.size + 1, 7, none⟩ = some (.int .u64 a.f.la.s) ∧ w'.cell? ⟨w.heap.size + 1, 8, none⟩ = some (.int .i64 a.f.la.k) ∧ w'.cell? ⟨w.heap.size + 1, 9, none⟩ = some (.int .u64 a.f.ents) ∧ w'.cell? ⟨w.heap.size + 1, 10, none⟩ = some (.int .u64 a.f.rngs)) := fun W hb => by
    obtain ⟨B0, B1⟩ := HBx.out W hb
    exact ⟨B0.cell1 0 _ rfl, B0.cell1 1 _ rfl, B0.cell1 2 _ rfl, B0.cell1 3 _ rfl, B0.cell1 4 _ rfl, B0.cell1 5 _ rfl, B0.cell1 6 _ rfl, B1.cell1 0 _ rfl, B1.cell1 1 _ rfl, B1.cell1 2 _ rfl, B1.cell1 3 _ rfl, B1.cell1 4 _ rfl, B1.cell1 5 _ rfl, B1.cell1 6 _ rfl, B1.cell1 7 _ rfl, B1.cell1 8 _ rfl, B1.cell1 9 _ rfl, B1.cell1 10 _ rfl⟩
  have HCp : Hid (∀ W, Below W1.heap.size W1 W → Calls Try.prog 17 #[.agg (verA V L)] W fun e w' => ∃ V', e = .returned (.agg (verA V' L)) ∧ RdV w' V' L ∧ Below W.heap.size W w') := fun W hb =>
    (copied_any (HVr.out W hb)).mono fun e w' ⟨V', h1, h2, h3⟩ => ⟨V', h1, h2.rdv (HVr.out W hb).len (HVr.out W hb).ok, h3⟩
  go_cut [7, 8] (fun x y wd => ∃ X V8, x = ptr X ∧ y = .int .i64 E ∧ Hid (Blk wd X 41 (cells7 (vsl V8 M)) ∧ RdV wd V8 M ∧ Below W1.heap.size W1 wd))
  case first =>
    obtain ⟨v0, v1, v2, v3, v4, v5, v6, x0, x1, x2, x3, x4, x5, x6, x7, x8, x9, x10⟩ := HA.out W1 (Below.refl _ _)
    go_region_held_law (fun w' => w'.cell? ⟨w.heap.size, 0, none⟩ = some (vsl V L 0) ∧ w'.cell? ⟨w.heap.size, 1, none⟩ = some (vsl V L 1) ∧ w'.cell? ⟨w.heap.size, 2, none⟩ = some (vsl V L 2) ∧ w'.cell? ⟨w.heap.size, 3, none⟩ = some (vsl V L 3) ∧ w'.cell? ⟨w.heap.size, 4, none⟩ = some (vsl V L 4) ∧ w'.cell? ⟨w.heap.size, 5, none⟩ = some (vsl V L 5) ∧ w'.cell? ⟨w.heap.size, 6, none⟩ = some (vsl V L 6) ∧ w'.cell? ⟨w.heap.size + 1, 0, none⟩ = some (.int .i64 a.lv) ∧ w'.cell? ⟨w.heap.size + 1, 1, none⟩ = some (.int .u64 a.f.num) ∧ w'.cell? ⟨w.heap.size + 1, 2, none⟩ = some (.int .u64 a.f.size) ∧ w'.cell? ⟨w.heap.size + 1, 3, none⟩ = some (.string a.f.sm.u) ∧ w'.cell? ⟨w.heap.size + 1, 4, none⟩ = some (.int .u64 a.f.sm.s) ∧ w'.cell? ⟨w.heap.size + 1, 5, none⟩ = some (.int .i64 a.f.sm.k) ∧ w'.cell? ⟨w.heap.size + 1, 6, none⟩ = some (.string a.f.la.u) ∧ w'.cell? ⟨w.heap.size + 1, 7, none⟩ = some (.int .u64 a.f.la.s) ∧ w'.cell? ⟨w.heap.size + 1, 8, none⟩ = some (.int .i64 a.f.la.k) ∧ w'.cell? ⟨w.heap.size + 1, 9, none⟩ = some (.int .u64 a.f.ents) ∧ w'.cell? ⟨w.heap.size + 1, 10, none⟩ = some (.int .u64 a.f.rngs))
      (first
        | with_reducible exact HA.out _ HB8.out
        | (have hz := HZ'; clear hz; exact HA.out _ (Upd.bel HB8.out (upd7 w8 _ (vsl V8 M 0) (vsl V8 M 1) (vsl V8 M 2) (vsl V8 M 3) (vsl V8 M 4) (vsl V8 M 5) (vsl V8 M 6)) (fun j hj => by have := HB7.out.size; omega) HB8.out.size))
        | with_reducible exact HA.out _ (bstep HB8.out (al1 _ _))
        | with_reducible exact HA.out _ (bstep (bstep HB7.out (al1 _ _)) (al1 _ _))
        | with_reducible exact HA.out _ (bstep HB7.out (al1 _ _))
        | with_reducible exact HA.out _ HB7.out
        | with_reducible exact HA.out _ (bstep (al1 _ _) (al1 _ _)).drew
        | with_reducible exact HA.out _ (al1 _ _).drew
        | with_reducible exact HA.out _ (Below.refl _ _).drew)
      (first
        | (go_at_call 18; refine (apply_add (by first | with_reducible exact hv7 | with_reducible exact hv7.below (al1 _ _) | with_reducible exact hv7.below (bstep (al1 _ _) (al1 _ _))) HV.out.2.2 (by first | with_reducible exact HxS.out | with_reducible exact HxS.out.alloc _ | with_reducible exact HxS1.out | with_reducible exact HxS1.out.alloc _ | with_reducible exact xn0 (a := a) _ | with_reducible exact (xn0 (a := a) _).alloc _ | with_reducible exact xn1 (a := a) _ _) how HR.out).mono ?_
           rintro e w8 ⟨V8, rfl, hv8, hb8⟩
           first
             | ((with_reducible (have hHB8 : Below W1.heap.size W1 w8 := bstep HB7.out hb8)); have HB8 : Hid _ := hHB8; clear hHB8)
             | ((with_reducible (have hHB8 : Below W1.heap.size W1 w8 := bstep (bstep HB7.out (al1 _ _)) hb8)); have HB8 : Hid _ := hHB8; clear hHB8)
             | ((with_reducible (have hHB8 : Below W1.heap.size W1 w8 := bstep (bstep (bstep HB7.out (al1 _ _)) (al1 _ _)) hb8)); have HB8 : Hid _ := hHB8; clear hHB8)
           have HV8 : Hid (RdV w8 V8 M) := hv8
           first
             | ((with_reducible (have HZ := HxZ.out.upd (S := Non) (Upd.ofBelow hb8) (fun h => h))); obtain ⟨r0, r1, r2, r3, r4, r5, r6, f0, f1, f2, f3, f4, f5, f6, lr⟩ := blk7 HZ; have HZ' : Hid _ := HZ; clear HZ)
             | ((with_reducible (have HZ := (HxZ.out.alloc _).upd (S := Non) (Upd.ofBelow hb8) (fun h => h))); obtain ⟨r0, r1, r2, r3, r4, r5, r6, f0, f1, f2, f3, f4, f5, f6, lr⟩ := blk7 HZ; have HZ' : Hid _ := HZ; clear HZ)
             | ((with_reducible (have HZ := HxZ1.out.upd (S := Non) (Upd.ofBelow hb8) (fun h => h))); obtain ⟨r0, r1, r2, r3, r4, r5, r6, f0, f1, f2, f3, f4, f5, f6, lr⟩ := blk7 HZ; have HZ' : Hid _ := HZ; clear HZ)
             | ((with_reducible (have HZ := (HxZ1.out.alloc _).upd (S := Non) (Upd.ofBelow hb8) (fun h => h))); obtain ⟨r0, r1, r2, r3, r4, r5, r6, f0, f1, f2, f3, f4, f5, f6, lr⟩ := blk7 HZ; have HZ' : Hid _ := HZ; clear HZ)
             | ((with_reducible (have HZ := (zn0 w7).upd (S := Non) (Upd.ofBelow hb8) (fun h => h))); obtain ⟨r0, r1, r2, r3, r4, r5, r6, f0, f1, f2, f3, f4, f5, f6, lr⟩ := blk7 HZ; have HZ' : Hid _ := HZ; clear HZ)
             | ((with_reducible (have HZ := ((zn0 w7).alloc _).upd (S := Non) (Upd.ofBelow hb8) (fun h => h))); obtain ⟨r0, r1, r2, r3, r4, r5, r6, f0, f1, f2, f3, f4, f5, f6, lr⟩ := blk7 HZ; have HZ' : Hid _ := HZ; clear HZ)
             | ((with_reducible (have HZ := (zn1 w7 _).upd (S := Non) (Upd.ofBelow hb8) (fun h => h))); obtain ⟨r0, r1, r2, r3, r4, r5, r6, f0, f1, f2, f3, f4, f5, f6, lr⟩ := blk7 HZ; have HZ' : Hid _ := HZ; clear HZ)
             | skip
           clear hv8 hb8)
        | (go_at_call 17; refine (HCp.out _ (by first | with_reducible exact (Below.refl _ _).drew | with_reducible exact (al1 _ _).drew | with_reducible exact (bstep (al1 _ _) (al1 _ _)).drew)).mono ?_
           rintro e w7 ⟨V7, rfl, hv7, hb7⟩
           first
             | ((with_reducible (have hHB7 : Below W1.heap.size W1 w7 := bstep (Below.refl _ _).drew hb7)); have HB7 : Hid _ := hHB7; clear hHB7)
             | ((with_reducible (have hHB7 : Below W1.heap.size W1 w7 := bstep (al1 _ _).drew hb7)); have HB7 : Hid _ := hHB7; clear hHB7)
             | ((with_reducible (have hHB7 : Below W1.heap.size W1 w7 := bstep (bstep (al1 _ _) (al1 _ _)).drew hb7)); have HB7 : Hid _ := hHB7; clear hHB7)
           first
             | ((with_reducible (have hHxS : Blk w7 W1.heap.size 64 a.c := (xn0 (a := a) W1).drew.upd (S := Non) (Upd.ofBelow hb7) (fun h => h))); have HxS : Hid (Blk w7 W1.heap.size 64 a.c) := hHxS; clear hHxS)
             | ((with_reducible (have hHxS : Blk w7 W1.heap.size 64 a.c := ((xn0 (a := a) W1).alloc _).drew.upd (S := Non) (Upd.ofBelow hb7) (fun h => h))); have HxS : Hid (Blk w7 W1.heap.size 64 a.c) := hHxS; clear hHxS)
             | ((with_reducible (have hHxS1 : Blk w7 (W1.heap.size + 1) 64 a.c := (xn1 (a := a) W1 _).drew.upd (S := Non) (Upd.ofBelow hb7) (fun h => h))); have HxS1 : Hid (Blk w7 (W1.heap.size + 1) 64 a.c) := hHxS1; clear hHxS1)
             | skip
           first
             | ((with_reducible (have hHxZ : Blk w7 W1.heap.size 41 (cells7 nil7) := (zn0 W1).drew.upd (S := Non) (Upd.ofBelow hb7) (fun h => h))); have HxZ : Hid (Blk w7 W1.heap.size 41 (cells7 nil7)) := hHxZ; clear hHxZ)
             | ((with_reducible (have hHxZ : Blk w7 W1.heap.size 41 (cells7 nil7) := ((zn0 W1).alloc _).drew.upd (S := Non) (Upd.ofBelow hb7) (fun h => h))); have HxZ : Hid (Blk w7 W1.heap.size 41 (cells7 nil7)) := hHxZ; clear hHxZ)
             | ((with_reducible (have hHxZ1 : Blk w7 (W1.heap.size + 1) 41 (cells7 nil7) := (zn1 W1 _).drew.upd (S := Non) (Upd.ofBelow hb7) (fun h => h))); have HxZ1 : Hid (Blk w7 (W1.heap.size + 1) 41 (cells7 nil7)) := hHxZ1; clear hHxZ1)
             | skip
           clear hb7))
    all_goals
      go_wp2
      go_meet
      first
        | (have hz := HZ'; clear hz; exact ⟨_, V8, rfl, rfl, fin_set HZ'.out HV8.out HB8.out (by have := HB7.out.size; omega)⟩)
        | exact ⟨_, V8, rfl, rfl, ⟨Blk.new w8 41 (cells7 (vsl V8 M)), HV8.out.below (al1 _ _), bstep HB8.out (al1 _ _)⟩⟩
  case rest =>
    obtain ⟨X, V8, rfl, rfl, H8⟩ := hcut
    obtain ⟨v0, v1, v2, v3, v4, v5, v6, x0, x1, x2, x3, x4, x5, x6, x7, x8, x9, x10⟩ := HA.out wc H8.out.2.2
    have lV := cell_lt v0
    have lA := cell_lt x0
    have hEE : (E != E) = false := by simp
    have h19 := rapply_add ((HVr.out wc H8.out.2.2).below (al1 wc a.o)) HV.out.2.1 HV.out.2.2 (xn0 (a := a) wc) how HR.out
    by_cases hE : E = 0
    · subst hE
      go_wp2_with (first
        | (have hq := HB12; clear hq; go_at_call 14; refine (HLv _).mono ?_; rintro e w13 ⟨rfl, hb13⟩)
        | (go_at_call 25; refine h25.mono ?_; rintro e w12 ⟨rfl, hb12⟩
           have HB12 : Hid (Below W1.heap.size W1 w12) := bstep (bstep HB11.out (al1 _ _)) hb12
           have hes : eqV L L = true := eqV_self L)
        | (go_at_call 18; refine h18.mono ?_; rintro e w11 ⟨V11, rfl, hv11, hb11⟩
           have HB11 : Hid (Below W1.heap.size W1 w11) := bstep (bstep (bstep HB9.out (al1 _ _)) (al1 _ _)) hb11
           clear v0 v1 v2 v3 v4 v5 v6 x0 x1 x2 x3 x4 x5 x6 x7 x8 x9 x10 lV lA s0 s1 s2 s3 s4 s5 s6 lX
           obtain ⟨v0, v1, v2, v3, v4, v5, v6, x0, x1, x2, x3, x4, x5, x6, x7, x8, x9, x10⟩ := HA.out w11 HB11.out
           have lV := cell_lt v0
           have h25 := equal_any (hv11.below (al1 w11 (.cells (verA V11 L) 41))) ((HVr.out w11 HB11.out).below (al1 w11 (.cells (verA V11 L) 41)))
           rw [eqV_self] at h25
           clear hv11 hb11)
        | (go_at_call 19; refine h19.mono ?_; rintro e w9 ⟨V9, rfl, hv9, hb9⟩
           have HB9 : Hid (Below W1.heap.size W1 w9) := bstep (bstep H8.out.2.2 (al1 _ _)) hb9
           have hX9 := H8.out.1.upd (S := Non) (Upd.ofBelow (bstep (al1 _ _) hb9)) (fun h => h)
           obtain ⟨s0, s1, s2, s3, s4, s5, s6, _, _, _, _, _, _, _, lX⟩ := blk7 hX9
           clear v0 v1 v2 v3 v4 v5 v6 x0 x1 x2 x3 x4 x5 x6 x7 x8 x9 x10 lV lA
           obtain ⟨v0, v1, v2, v3, v4, v5, v6, x0, x1, x2, x3, x4, x5, x6, x7, x8, x9, x10⟩ := HA.out w9 HB9.out
           have lV := cell_lt v0
           have lA := cell_lt x0
           have h18 := apply_gon ((H8.out.2.1.below (bstep (al1 _ _) hb9)).below (bstep (al1 w9 (.cells (verA V9 M) 41)) (al1 _ (.cells #[.int .i64 a.lv, .int .u64 a.f.num] 66)))) (Blk.new1 w9 (.cells (verA V9 M) 41) 66 [.int .i64 a.lv, .int .u64 a.f.num]) how (HBk.out rfl)
           clear hX9 hv9 hb9))
      go_ret
      exact ⟨rfl, bstep HB1.out (bstep HB12.out hb13)⟩
    · have hE' : (E != 0) = true := by simp [hE]
      go_wp2_with (first
        | (go_at_call 14; refine (HLv _).mono ?_; rintro e w13 ⟨rfl, hb13⟩)
        | (go_at_call 19; refine h19.mono ?_; rintro e w9 ⟨V9, rfl, hv9, hb9⟩
           have HB9 : Hid (Below W1.heap.size W1 w9) := bstep (bstep H8.out.2.2 (al1 _ _)) hb9))
      go_ret
      exact ⟨rfl, bstep HB1.out (bstep (bstep HB9.out (al1 _ _)) hb13)⟩
end Go.Proofs.Ytkmpcheamdadcaa
