/-
  The law EditApplies, walked.
-/
import Derived.Test.YtkmpcheamdadcaaYn
import Derived.Deep.RegionHeldLaw
namespace Go.Proofs.Ytkmpcheamdadcaa
open Go.RowKit
set_option linter.unusedVariables false
set_option linter.unusedSimpArgs false
set_option maxRecDepth 100000 in
set_option maxHeartbeats 8000000 in
theorem applies_walk {w : World} {V : Vn} {L : Nat → List Fi} (h : RdV w V L) (hcap : ∀ i, i < 7 → (L i).length ≤ V.c i) {P : En} {e : Ed} (hd : RdEd w P e) (hao : ∀ a ∈ e.added, FOk a.f) (how : Int) :
    Calls Try.prog 5 #[.int .i64 how, .agg (verA V L), .agg (edA P e)] w fun en w' => en = .returned (.bool true) ∧ Below w.heap.size w w' := by
  have HV : Hid (RdV w V L ∧ (∀ i, i < 7 → (L i).length ≤ V.c i) ∧ RdEd w P e ∧ ∀ a ∈ e.added, FOk a.f) := ⟨h, hcap, hd, hao⟩
  have HLv := fun w => lives_any w
  have hbA := ed_box (w.alloc (.cells (verA V L) 41)) P e
  rw [World.size_alloc] at hbA
  have HBx : Hid (∀ W, Below ((w.alloc (.cells (verA V L) 41)).alloc (edO P e)).heap.size ((w.alloc (.cells (verA V L) 41)).alloc (edO P e)) W → Blk W w.heap.size 41 (cells7 (vsl V L)) ∧ Blk W (w.heap.size + 1) 27 (edA P e).toList) := fun W hb =>
    ⟨((Blk.new w 41 (cells7 (vsl V L))).alloc (edO P e)).upd (S := Non) (Upd.ofBelow hb) (fun h => h), hbA.upd (S := Non) (Upd.ofBelow hb) (fun h => h)⟩
  have HB1 : Hid (Below w.heap.size w ((w.alloc (.cells (verA V L) 41)).alloc (edO P e))) := bstep (al1 _ _) (al1 _ _)
  clear h hcap hd hao hbA
  go_enter Try.func5, Try.ntmps5
  go_wp2_with fail
  generalize hW1 : (w.alloc (.cells (verA V L) 41)).alloc (edO P e) = W1 at *
  clear hW1
  have HVr : Hid (∀ W, Below W1.heap.size W1 W → RdV W V L ∧ RdEd W P e) := fun W hb => ⟨HV.out.1.below (bstep HB1.out hb), HV.out.2.2.1.below (bstep HB1.out hb)⟩
  have HA : Hid (∀ w', Below W1.heap.size W1 w' → w'.cell? ⟨w.heap.size, 0, none⟩ = some (vsl V L 0) ∧ w'.cell? ⟨w.heap.size, 1, none⟩ = some (vsl V L 1) ∧ w'.cell? ⟨w.heap.size, 2, none⟩ = some (vsl V L 2) ∧ w'.cell? ⟨w.heap.size, 3, none⟩ = some (vsl V L 3) ∧ w'.cell? ⟨w.heap.size, 4, none⟩ = some (vsl V L 4) ∧ w'.cell? ⟨w.heap.size, 5, none⟩ = some (vsl V L 5) ∧ w'.cell? ⟨w.heap.size, 6, none⟩ = some (vsl V L 6) ∧ w'.cell? ⟨w.heap.size + 1, 0, none⟩ = some (.int .u32 e.fam) ∧ w'.cell? ⟨w.heap.size + 1, 1, none⟩ = some (.bool e.ma) ∧ w'.cell? ⟨w.heap.size + 1, 2, none⟩ = some (.bool e.dr) ∧ w'.cell? ⟨w.heap.size + 1, 3, none⟩ = some (.string e.name) ∧ w'.cell? ⟨w.heap.size + 1, 4, none⟩ = some (.int .i64 e.how) ∧ w'.cell? ⟨w.heap.size + 1, 5, none⟩ = some (.bool e.hl) ∧ w'.cell? ⟨w.heap.size + 1, 6, none⟩ = some (.bool e.hn) ∧ w'.cell? ⟨w.heap.size + 1, 7, none⟩ = some (.bool e.hs) ∧ w'.cell? ⟨w.heap.size + 1, 8, none⟩ = some (.int .u64 e.log) ∧ w'.cell? ⟨w.heap.size + 1, 9, none⟩ = some (.int .u64 e.next) ∧ w'.cell? ⟨w.heap.size + 1, 10, none⟩ = some (.int .u64 e.seq) ∧ w'.cell? ⟨w.heap.size + 1, 11, none⟩ = some (.slice P.ga e.gone.length P.gc) ∧ w'.cell? ⟨w.heap.size + 1, 12, none⟩ = some (.slice P.aa e.added.length P.ac)) := fun W hb => by
    obtain ⟨B0, B1⟩ := HBx.out W hb
    exact ⟨B0.cell1 0 _ rfl, B0.cell1 1 _ rfl, B0.cell1 2 _ rfl, B0.cell1 3 _ rfl, B0.cell1 4 _ rfl, B0.cell1 5 _ rfl, B0.cell1 6 _ rfl, B1.cell1 0 _ rfl, B1.cell1 1 _ rfl, B1.cell1 2 _ rfl, B1.cell1 3 _ rfl, B1.cell1 4 _ rfl, B1.cell1 5 _ rfl, B1.cell1 6 _ rfl, B1.cell1 7 _ rfl, B1.cell1 8 _ rfl, B1.cell1 9 _ rfl, B1.cell1 10 _ rfl, B1.cell1 11 _ rfl, B1.cell1 12 _ rfl⟩
  have HCp : Hid (∀ W, Below W1.heap.size W1 W → Calls Try.prog 17 #[.agg (verA V L)] W fun e w' => ∃ V', e = .returned (.agg (verA V' L)) ∧ OwnV w' W1.heap.size V' L ∧ Below W.heap.size W w') := fun W hb =>
    (copied_any (HVr.out W hb).1).mono fun e w' ⟨V', h1, h2, h3⟩ => ⟨V', h1, ⟨fun i hi => World.ownsRow.mono (h2.rows i hi) (by have := hb.size; omega), h2.apart⟩, h3⟩
  have HCe : Hid (∀ W, Below W1.heap.size W1 W → Calls Try.prog 10 #[.agg (edA P e)] W fun en w' => ∃ P', en = .returned (.agg (edA P' e)) ∧ OwnE w' W1.heap.size P' e ∧ Below W.heap.size W w') := fun W hb =>
    (cpedit_any (HVr.out W hb).2).mono fun e w' ⟨P', h1, h2, h3⟩ => ⟨P', h1, ⟨World.ownsRow.mono h2.g hb.size, World.ownsRow.mono h2.a hb.size⟩, h3⟩
  go_cut [7, 8] (fun x y wd => ∃ X Y V7 P7, x = ptr X ∧ y = ptr Y ∧ Hid (Cq W1 wd X Y V7 L P7 e))
  case first =>
    obtain ⟨v0, v1, v2, v3, v4, v5, v6, d0, d1, d2, d3, d4, d5, d6, d7, d8, d9, d10, d11, d12⟩ := HA.out W1 (Below.refl _ _)
    go_region_held_law (fun w' => w'.cell? ⟨w.heap.size, 0, none⟩ = some (vsl V L 0) ∧ w'.cell? ⟨w.heap.size, 1, none⟩ = some (vsl V L 1) ∧ w'.cell? ⟨w.heap.size, 2, none⟩ = some (vsl V L 2) ∧ w'.cell? ⟨w.heap.size, 3, none⟩ = some (vsl V L 3) ∧ w'.cell? ⟨w.heap.size, 4, none⟩ = some (vsl V L 4) ∧ w'.cell? ⟨w.heap.size, 5, none⟩ = some (vsl V L 5) ∧ w'.cell? ⟨w.heap.size, 6, none⟩ = some (vsl V L 6) ∧ w'.cell? ⟨w.heap.size + 1, 0, none⟩ = some (.int .u32 e.fam) ∧ w'.cell? ⟨w.heap.size + 1, 1, none⟩ = some (.bool e.ma) ∧ w'.cell? ⟨w.heap.size + 1, 2, none⟩ = some (.bool e.dr) ∧ w'.cell? ⟨w.heap.size + 1, 3, none⟩ = some (.string e.name) ∧ w'.cell? ⟨w.heap.size + 1, 4, none⟩ = some (.int .i64 e.how) ∧ w'.cell? ⟨w.heap.size + 1, 5, none⟩ = some (.bool e.hl) ∧ w'.cell? ⟨w.heap.size + 1, 6, none⟩ = some (.bool e.hn) ∧ w'.cell? ⟨w.heap.size + 1, 7, none⟩ = some (.bool e.hs) ∧ w'.cell? ⟨w.heap.size + 1, 8, none⟩ = some (.int .u64 e.log) ∧ w'.cell? ⟨w.heap.size + 1, 9, none⟩ = some (.int .u64 e.next) ∧ w'.cell? ⟨w.heap.size + 1, 10, none⟩ = some (.int .u64 e.seq) ∧ w'.cell? ⟨w.heap.size + 1, 11, none⟩ = some (.slice P.ga e.gone.length P.gc) ∧ w'.cell? ⟨w.heap.size + 1, 12, none⟩ = some (.slice P.aa e.added.length P.ac))
      (first
        | with_reducible exact HA.out _ (HB8.out)
        | with_reducible exact HA.out _ (bal HB8.out)
        | with_reducible exact HA.out _ (bal (bal HB8.out))
        | with_reducible exact HA.out _ ((kx (V := V7) (L := L) HB8.out (by have := HB7.out.size; omega)))
        | with_reducible exact HA.out _ ((ky (P := P8) (e := e) HB8.out (by have := HB7.out.size; omega)))
        | with_reducible exact HA.out _ ((ky (P := P8) (e := e) (kx (V := V7) (L := L) HB8.out (by have := HB7.out.size; omega)) (by have := HB7.out.size; omega)))
        | with_reducible exact HA.out _ (bal (kx (V := V7) (L := L) HB8.out (by have := HB7.out.size; omega)))
        | with_reducible exact HA.out _ (bal (ky (P := P8) (e := e) HB8.out (by have := HB7.out.size; omega)))
        | with_reducible exact HA.out _ (HB7.out)
        | with_reducible exact HA.out _ (bal HB7.out)
        | with_reducible exact HA.out _ (bal (bal HB7.out))
        | with_reducible exact HA.out _ ((Below.refl _ _).drew)
        | with_reducible exact HA.out _ ((bal (Below.refl _ _)).drew)
        | with_reducible exact HA.out _ ((bal (bal (Below.refl _ _))).drew)
)
      (first
        | (go_at_call 10; refine (HCe.out _ (by first | with_reducible exact HB8.out | with_reducible exact bal HB8.out | with_reducible exact bal (bal HB8.out) | with_reducible exact (kx (V := V7) (L := L) HB8.out (by have := HB7.out.size; omega)) | with_reducible exact (ky (P := P8) (e := e) HB8.out (by have := HB7.out.size; omega)) | with_reducible exact (ky (P := P8) (e := e) (kx (V := V7) (L := L) HB8.out (by have := HB7.out.size; omega)) (by have := HB7.out.size; omega)) | with_reducible exact bal (kx (V := V7) (L := L) HB8.out (by have := HB7.out.size; omega)) | with_reducible exact bal (ky (P := P8) (e := e) HB8.out (by have := HB7.out.size; omega)) | with_reducible exact HB7.out | with_reducible exact bal HB7.out | with_reducible exact bal (bal HB7.out) | with_reducible exact (Below.refl _ _).drew | with_reducible exact (bal (Below.refl _ _)).drew | with_reducible exact (bal (bal (Below.refl _ _))).drew)).mono ?_
           rintro en w8 ⟨P8, rfl, hp8, hb8⟩
           first
             | (with_reducible (have hb8p : Below w7.heap.size w7 w8 := hb8))
             | (with_reducible (have hb8p : Below w7.heap.size w7 w8 := bstep (al1 _ _) hb8))
             | (with_reducible (have hb8p : Below w7.heap.size w7 w8 := bstep (bstep (al1 _ _) (al1 _ _)) hb8))
           have HB8 : Hid (Below W1.heap.size W1 w8) := bstep HB7.out hb8p
           have HV8 : Hid (OwnV w8 W1.heap.size V7 L) := hv7.below hb8p
           have HE8 : Hid (OwnE w8 W1.heap.size P8 e) := hp8
           first
             | ((with_reducible (have HZ := HxZ.out.upd (S := Non) (Upd.ofBelow hb8p) (fun h => h))); obtain ⟨r0, r1, r2, r3, r4, r5, r6, f0, f1, f2, f3, f4, f5, f6, lr⟩ := blk7 HZ; have HZ' : Hid _ := HZ; clear HZ)
             | ((with_reducible (have HZ := HxZ1.out.upd (S := Non) (Upd.ofBelow hb8p) (fun h => h))); obtain ⟨r0, r1, r2, r3, r4, r5, r6, f0, f1, f2, f3, f4, f5, f6, lr⟩ := blk7 HZ; have HZ' : Hid _ := HZ; clear HZ)
             | ((with_reducible (have HZ := (zv0 w7).upd (S := Non) (Upd.ofBelow hb8) (fun h => h))); obtain ⟨r0, r1, r2, r3, r4, r5, r6, f0, f1, f2, f3, f4, f5, f6, lr⟩ := blk7 HZ; have HZ' : Hid _ := HZ; clear HZ)
             | ((with_reducible (have HZ := ((zv0 w7).alloc _).upd (S := Non) (Upd.ofBelow hb8) (fun h => h))); obtain ⟨r0, r1, r2, r3, r4, r5, r6, f0, f1, f2, f3, f4, f5, f6, lr⟩ := blk7 HZ; have HZ' : Hid _ := HZ; clear HZ)
             | ((with_reducible (have HZ := (zv1 w7 _).upd (S := Non) (Upd.ofBelow hb8) (fun h => h))); obtain ⟨r0, r1, r2, r3, r4, r5, r6, f0, f1, f2, f3, f4, f5, f6, lr⟩ := blk7 HZ; have HZ' : Hid _ := HZ; clear HZ)
             | skip
           first
             | ((with_reducible (have HY := HxY.out.upd (S := Non) (Upd.ofBelow hb8p) (fun h => h))); have t0 := HY.cell1 0 _ rfl; have tf0 := HY.frozen 0; have t1 := HY.cell1 1 _ rfl; have tf1 := HY.frozen 1; have t2 := HY.cell1 2 _ rfl; have tf2 := HY.frozen 2; have t3 := HY.cell1 3 _ rfl; have tf3 := HY.frozen 3; have t4 := HY.cell1 4 _ rfl; have tf4 := HY.frozen 4; have t5 := HY.cell1 5 _ rfl; have tf5 := HY.frozen 5; have t6 := HY.cell1 6 _ rfl; have tf6 := HY.frozen 6; have t7 := HY.cell1 7 _ rfl; have tf7 := HY.frozen 7; have t8 := HY.cell1 8 _ rfl; have tf8 := HY.frozen 8; have t9 := HY.cell1 9 _ rfl; have tf9 := HY.frozen 9; have t10 := HY.cell1 10 _ rfl; have tf10 := HY.frozen 10; have t11 := HY.cell1 11 _ rfl; have tf11 := HY.frozen 11; have t12 := HY.cell1 12 _ rfl; have tf12 := HY.frozen 12; have lt := HY.lt; have HY' : Hid _ := HY; clear HY)
             | ((with_reducible (have HY := HxY1.out.upd (S := Non) (Upd.ofBelow hb8p) (fun h => h))); have t0 := HY.cell1 0 _ rfl; have tf0 := HY.frozen 0; have t1 := HY.cell1 1 _ rfl; have tf1 := HY.frozen 1; have t2 := HY.cell1 2 _ rfl; have tf2 := HY.frozen 2; have t3 := HY.cell1 3 _ rfl; have tf3 := HY.frozen 3; have t4 := HY.cell1 4 _ rfl; have tf4 := HY.frozen 4; have t5 := HY.cell1 5 _ rfl; have tf5 := HY.frozen 5; have t6 := HY.cell1 6 _ rfl; have tf6 := HY.frozen 6; have t7 := HY.cell1 7 _ rfl; have tf7 := HY.frozen 7; have t8 := HY.cell1 8 _ rfl; have tf8 := HY.frozen 8; have t9 := HY.cell1 9 _ rfl; have tf9 := HY.frozen 9; have t10 := HY.cell1 10 _ rfl; have tf10 := HY.frozen 10; have t11 := HY.cell1 11 _ rfl; have tf11 := HY.frozen 11; have t12 := HY.cell1 12 _ rfl; have tf12 := HY.frozen 12; have lt := HY.lt; have HY' : Hid _ := HY; clear HY)
             | ((with_reducible (have HY := (ze0 w7).upd (S := Non) (Upd.ofBelow hb8) (fun h => h))); have t0 := HY.cell1 0 _ rfl; have tf0 := HY.frozen 0; have t1 := HY.cell1 1 _ rfl; have tf1 := HY.frozen 1; have t2 := HY.cell1 2 _ rfl; have tf2 := HY.frozen 2; have t3 := HY.cell1 3 _ rfl; have tf3 := HY.frozen 3; have t4 := HY.cell1 4 _ rfl; have tf4 := HY.frozen 4; have t5 := HY.cell1 5 _ rfl; have tf5 := HY.frozen 5; have t6 := HY.cell1 6 _ rfl; have tf6 := HY.frozen 6; have t7 := HY.cell1 7 _ rfl; have tf7 := HY.frozen 7; have t8 := HY.cell1 8 _ rfl; have tf8 := HY.frozen 8; have t9 := HY.cell1 9 _ rfl; have tf9 := HY.frozen 9; have t10 := HY.cell1 10 _ rfl; have tf10 := HY.frozen 10; have t11 := HY.cell1 11 _ rfl; have tf11 := HY.frozen 11; have t12 := HY.cell1 12 _ rfl; have tf12 := HY.frozen 12; have lt := HY.lt; have HY' : Hid _ := HY; clear HY)
             | ((with_reducible (have HY := ((ze0 w7).alloc _).upd (S := Non) (Upd.ofBelow hb8) (fun h => h))); have t0 := HY.cell1 0 _ rfl; have tf0 := HY.frozen 0; have t1 := HY.cell1 1 _ rfl; have tf1 := HY.frozen 1; have t2 := HY.cell1 2 _ rfl; have tf2 := HY.frozen 2; have t3 := HY.cell1 3 _ rfl; have tf3 := HY.frozen 3; have t4 := HY.cell1 4 _ rfl; have tf4 := HY.frozen 4; have t5 := HY.cell1 5 _ rfl; have tf5 := HY.frozen 5; have t6 := HY.cell1 6 _ rfl; have tf6 := HY.frozen 6; have t7 := HY.cell1 7 _ rfl; have tf7 := HY.frozen 7; have t8 := HY.cell1 8 _ rfl; have tf8 := HY.frozen 8; have t9 := HY.cell1 9 _ rfl; have tf9 := HY.frozen 9; have t10 := HY.cell1 10 _ rfl; have tf10 := HY.frozen 10; have t11 := HY.cell1 11 _ rfl; have tf11 := HY.frozen 11; have t12 := HY.cell1 12 _ rfl; have tf12 := HY.frozen 12; have lt := HY.lt; have HY' : Hid _ := HY; clear HY)
             | ((with_reducible (have HY := (ze1 w7 _).upd (S := Non) (Upd.ofBelow hb8) (fun h => h))); have t0 := HY.cell1 0 _ rfl; have tf0 := HY.frozen 0; have t1 := HY.cell1 1 _ rfl; have tf1 := HY.frozen 1; have t2 := HY.cell1 2 _ rfl; have tf2 := HY.frozen 2; have t3 := HY.cell1 3 _ rfl; have tf3 := HY.frozen 3; have t4 := HY.cell1 4 _ rfl; have tf4 := HY.frozen 4; have t5 := HY.cell1 5 _ rfl; have tf5 := HY.frozen 5; have t6 := HY.cell1 6 _ rfl; have tf6 := HY.frozen 6; have t7 := HY.cell1 7 _ rfl; have tf7 := HY.frozen 7; have t8 := HY.cell1 8 _ rfl; have tf8 := HY.frozen 8; have t9 := HY.cell1 9 _ rfl; have tf9 := HY.frozen 9; have t10 := HY.cell1 10 _ rfl; have tf10 := HY.frozen 10; have t11 := HY.cell1 11 _ rfl; have tf11 := HY.frozen 11; have t12 := HY.cell1 12 _ rfl; have tf12 := HY.frozen 12; have lt := HY.lt; have HY' : Hid _ := HY; clear HY)
             | skip
           first
             | (have hne := Blk.ne HY'.out HZ'.out (by decide); have hne' := Ne.symm hne)
             | skip
           clear hp8 hb8 hb8p)
        | (go_at_call 17; refine (HCp.out _ (by first | with_reducible exact HB8.out | with_reducible exact bal HB8.out | with_reducible exact bal (bal HB8.out) | with_reducible exact (kx (V := V7) (L := L) HB8.out (by have := HB7.out.size; omega)) | with_reducible exact (ky (P := P8) (e := e) HB8.out (by have := HB7.out.size; omega)) | with_reducible exact (ky (P := P8) (e := e) (kx (V := V7) (L := L) HB8.out (by have := HB7.out.size; omega)) (by have := HB7.out.size; omega)) | with_reducible exact bal (kx (V := V7) (L := L) HB8.out (by have := HB7.out.size; omega)) | with_reducible exact bal (ky (P := P8) (e := e) HB8.out (by have := HB7.out.size; omega)) | with_reducible exact HB7.out | with_reducible exact bal HB7.out | with_reducible exact bal (bal HB7.out) | with_reducible exact (Below.refl _ _).drew | with_reducible exact (bal (Below.refl _ _)).drew | with_reducible exact (bal (bal (Below.refl _ _))).drew)).mono ?_
           rintro en w7 ⟨V7, rfl, hv7, hb7⟩
           first
             | ((with_reducible (have hHB7 : Below W1.heap.size W1 w7 := bstep (Below.refl _ _).drew hb7)); have HB7 : Hid _ := hHB7; clear hHB7)
             | ((with_reducible (have hHB7 : Below W1.heap.size W1 w7 := bstep (al1 _ _).drew hb7)); have HB7 : Hid _ := hHB7; clear hHB7)
             | ((with_reducible (have hHB7 : Below W1.heap.size W1 w7 := bstep (bstep (al1 _ _) (al1 _ _)).drew hb7)); have HB7 : Hid _ := hHB7; clear hHB7)
           first
             | ((with_reducible (have hHxZ : Blk w7 W1.heap.size 41 (cells7 nil7) := (zv0 W1).drew.upd (S := Non) (Upd.ofBelow hb7) (fun h => h))); have HxZ : Hid (Blk w7 W1.heap.size 41 (cells7 nil7)) := hHxZ; clear hHxZ)
             | ((with_reducible (have hHxZ : Blk w7 W1.heap.size 41 (cells7 nil7) := ((zv0 W1).alloc _).drew.upd (S := Non) (Upd.ofBelow hb7) (fun h => h))); have HxZ : Hid (Blk w7 W1.heap.size 41 (cells7 nil7)) := hHxZ; clear hHxZ)
             | ((with_reducible (have hHxZ1 : Blk w7 (W1.heap.size + 1) 41 (cells7 nil7) := (zv1 W1 _).drew.upd (S := Non) (Upd.ofBelow hb7) (fun h => h))); have HxZ1 : Hid (Blk w7 (W1.heap.size + 1) 41 (cells7 nil7)) := hHxZ1; clear hHxZ1)
             | skip
           first
             | ((with_reducible (have hHxY : Blk w7 W1.heap.size 27 zEc := (ze0 W1).drew.upd (S := Non) (Upd.ofBelow hb7) (fun h => h))); have HxY : Hid (Blk w7 W1.heap.size 27 zEc) := hHxY; clear hHxY)
             | ((with_reducible (have hHxY : Blk w7 W1.heap.size 27 zEc := ((ze0 W1).alloc _).drew.upd (S := Non) (Upd.ofBelow hb7) (fun h => h))); have HxY : Hid (Blk w7 W1.heap.size 27 zEc) := hHxY; clear hHxY)
             | ((with_reducible (have hHxY1 : Blk w7 (W1.heap.size + 1) 27 zEc := (ze1 W1 _).drew.upd (S := Non) (Upd.ofBelow hb7) (fun h => h))); have HxY1 : Hid (Blk w7 (W1.heap.size + 1) 27 zEc) := hHxY1; clear hHxY1)
             | skip
           clear hb7))
    all_goals
      go_wp2
      go_meet
      first
        | (have a := HZ'; have b := HY'; clear a b; exact ⟨_, _, V7, P8, rfl, rfl, leaf_ee HV8.out HE8.out HB8.out HZ'.out (by have := HB7.out.size; omega) HY'.out (by have := HB7.out.size; omega)⟩)
        | (have a := HZ'; clear a; exact ⟨_, _, V7, P8, rfl, rfl, leaf_el HV8.out HE8.out HB8.out HZ'.out (by have := HB7.out.size; omega)⟩)
        | (have b := HY'; clear b; exact ⟨_, _, V7, P8, rfl, rfl, leaf_le HV8.out HE8.out HB8.out HY'.out (by have := HB7.out.size; omega)⟩)
        | exact ⟨_, _, V7, P8, rfl, rfl, leaf_l1 HV8.out HE8.out HB8.out⟩
        | exact ⟨_, _, V7, P8, rfl, rfl, leaf_l2 HV8.out HE8.out HB8.out⟩
  case rest =>
    generalize wc = wa at *
    obtain ⟨X, Y, V7, P7, rfl, rfl, H8⟩ := hcut
    have HN : Hid (∀ W, Below wa.heap.size wa W → RdV W V7 L ∧ RdV W V L ∧ RdEd W P7 e ∧ RdEd W P e) := fun W hb =>
      ⟨(H8.out.ov.rdv (HV.out.1).len (HV.out.1).ok).below hb, (HVr.out W (bstep H8.out.b hb)).1, (H8.out.oe.rd HV.out.2.2.1.gl HV.out.2.2.1.al).below hb, (HVr.out W (bstep H8.out.b hb)).2⟩
    have HQ : Hid (∀ w', Below wa.heap.size wa w' → (w'.cell? ⟨w.heap.size, 0, none⟩ = some (vsl V L 0) ∧ w'.cell? ⟨w.heap.size, 1, none⟩ = some (vsl V L 1) ∧ w'.cell? ⟨w.heap.size, 2, none⟩ = some (vsl V L 2) ∧ w'.cell? ⟨w.heap.size, 3, none⟩ = some (vsl V L 3) ∧ w'.cell? ⟨w.heap.size, 4, none⟩ = some (vsl V L 4) ∧ w'.cell? ⟨w.heap.size, 5, none⟩ = some (vsl V L 5) ∧ w'.cell? ⟨w.heap.size, 6, none⟩ = some (vsl V L 6)) ∧ (w'.cell? ⟨(w.heap.size + 1), 0, none⟩ = some (.int .u32 e.fam) ∧ w'.cell? ⟨(w.heap.size + 1), 1, none⟩ = some (.bool e.ma) ∧ w'.cell? ⟨(w.heap.size + 1), 2, none⟩ = some (.bool e.dr) ∧ w'.cell? ⟨(w.heap.size + 1), 3, none⟩ = some (.string e.name) ∧ w'.cell? ⟨(w.heap.size + 1), 4, none⟩ = some (.int .i64 e.how) ∧ w'.cell? ⟨(w.heap.size + 1), 5, none⟩ = some (.bool e.hl) ∧ w'.cell? ⟨(w.heap.size + 1), 6, none⟩ = some (.bool e.hn) ∧ w'.cell? ⟨(w.heap.size + 1), 7, none⟩ = some (.bool e.hs) ∧ w'.cell? ⟨(w.heap.size + 1), 8, none⟩ = some (.int .u64 e.log) ∧ w'.cell? ⟨(w.heap.size + 1), 9, none⟩ = some (.int .u64 e.next) ∧ w'.cell? ⟨(w.heap.size + 1), 10, none⟩ = some (.int .u64 e.seq) ∧ w'.cell? ⟨(w.heap.size + 1), 11, none⟩ = some (.slice P.ga e.gone.length P.gc) ∧ w'.cell? ⟨(w.heap.size + 1), 12, none⟩ = some (.slice P.aa e.added.length P.ac)) ∧ (w'.cell? ⟨X, 0, none⟩ = some (vsl V7 L 0) ∧ w'.cell? ⟨X, 1, none⟩ = some (vsl V7 L 1) ∧ w'.cell? ⟨X, 2, none⟩ = some (vsl V7 L 2) ∧ w'.cell? ⟨X, 3, none⟩ = some (vsl V7 L 3) ∧ w'.cell? ⟨X, 4, none⟩ = some (vsl V7 L 4) ∧ w'.cell? ⟨X, 5, none⟩ = some (vsl V7 L 5) ∧ w'.cell? ⟨X, 6, none⟩ = some (vsl V7 L 6)) ∧ (w'.cell? ⟨Y, 0, none⟩ = some (.int .u32 e.fam) ∧ w'.cell? ⟨Y, 1, none⟩ = some (.bool e.ma) ∧ w'.cell? ⟨Y, 2, none⟩ = some (.bool e.dr) ∧ w'.cell? ⟨Y, 3, none⟩ = some (.string e.name) ∧ w'.cell? ⟨Y, 4, none⟩ = some (.int .i64 e.how) ∧ w'.cell? ⟨Y, 5, none⟩ = some (.bool e.hl) ∧ w'.cell? ⟨Y, 6, none⟩ = some (.bool e.hn) ∧ w'.cell? ⟨Y, 7, none⟩ = some (.bool e.hs) ∧ w'.cell? ⟨Y, 8, none⟩ = some (.int .u64 e.log) ∧ w'.cell? ⟨Y, 9, none⟩ = some (.int .u64 e.next) ∧ w'.cell? ⟨Y, 10, none⟩ = some (.int .u64 e.seq) ∧ w'.cell? ⟨Y, 11, none⟩ = some (.slice P7.ga e.gone.length P7.gc) ∧ w'.cell? ⟨Y, 12, none⟩ = some (.slice P7.aa e.added.length P7.ac))) := fun W hb => by
      obtain ⟨B0, B1⟩ := HBx.out W (bstep H8.out.b hb)
      have B2 := H8.out.x.upd (S := Non) (Upd.ofBelow hb) (fun h => h)
      have B3 := H8.out.y.upd (S := Non) (Upd.ofBelow hb) (fun h => h)
      exact ⟨⟨B0.cell1 0 _ rfl, B0.cell1 1 _ rfl, B0.cell1 2 _ rfl, B0.cell1 3 _ rfl, B0.cell1 4 _ rfl, B0.cell1 5 _ rfl, B0.cell1 6 _ rfl⟩, ⟨B1.cell1 0 _ rfl, B1.cell1 1 _ rfl, B1.cell1 2 _ rfl, B1.cell1 3 _ rfl, B1.cell1 4 _ rfl, B1.cell1 5 _ rfl, B1.cell1 6 _ rfl, B1.cell1 7 _ rfl, B1.cell1 8 _ rfl, B1.cell1 9 _ rfl, B1.cell1 10 _ rfl, B1.cell1 11 _ rfl, B1.cell1 12 _ rfl⟩, ⟨B2.cell1 0 _ rfl, B2.cell1 1 _ rfl, B2.cell1 2 _ rfl, B2.cell1 3 _ rfl, B2.cell1 4 _ rfl, B2.cell1 5 _ rfl, B2.cell1 6 _ rfl⟩, ⟨B3.cell1 0 _ rfl, B3.cell1 1 _ rfl, B3.cell1 2 _ rfl, B3.cell1 3 _ rfl, B3.cell1 4 _ rfl, B3.cell1 5 _ rfl, B3.cell1 6 _ rfl, B3.cell1 7 _ rfl, B3.cell1 8 _ rfl, B3.cell1 9 _ rfl, B3.cell1 10 _ rfl, B3.cell1 11 _ rfl, B3.cell1 12 _ rfl⟩⟩
    obtain ⟨E, M, hr⟩ : ∃ E M, appR how L e = (E, M) := ⟨_, _, rfl⟩
    have h18 := apply_any (HN.out wa (Below.refl _ _)).1 (HN.out wa (Below.refl _ _)).2.2.1 HV.out.2.2.2 how
    rw [hr] at h18
    have HR9 : Hid (∀ W, Below wa.heap.size wa W → Calls Try.prog 19 #[.int .i64 how, .agg (verA V L), .agg (edA P e)] W (RApp W (E, M))) := fun W hb => by
      have := rapply_any (HN.out W hb).2.1 HV.out.2.1 (HN.out W hb).2.2.2 HV.out.2.2.2 how
      rw [hr] at this
      exact this
    have HWc : Hid (Below w.heap.size w wa) := bstep HB1.out H8.out.b
    clear HA HCp HCe HVr HBx
    obtain ⟨⟨v0, v1, v2, v3, v4, v5, v6⟩, ⟨d0, d1, d2, d3, d4, d5, d6, d7, d8, d9, d10, d11, d12⟩, ⟨x0, x1, x2, x3, x4, x5, x6⟩, ⟨y0, y1, y2, y3, y4, y5, y6, y7, y8, y9, y10, y11, y12⟩⟩ := HQ.out wa (Below.refl _ _)
    have lv := cell_lt v0
    have ld := cell_lt d0
    have lx := cell_lt x0
    have ly := cell_lt y0
    go_wp2_with (first
      | (go_at_call 19; refine (HR9.out _ (bstep HB9.out (al1 _ _))).mono ?_
         rintro en w11 ⟨V11, rfl, hv11, hb11⟩
         have HB11 : Hid (Below wa.heap.size wa w11) := bstep (bstep HB9.out (al1 _ _)) hb11
         have HV11 : Hid (RdV w11 V11 M) := hv11
         have HO11 : Hid (OwnV w11 wa.heap.size V9 M) := (HO9.out.below (al1 _ _)).below hb11
         have HZ9 : Hid (Blk w11 w9.heap.size 41 (cells7 (vsl V9 M))) := (Blk.new w9 41 (cells7 (vsl V9 M))).upd (S := Non) (Upd.ofBelow hb11) (fun h => h)
         have HR11 : Hid (RdV w11 V9 M) := (HR9v.out.below (al1 _ _)).below hb11
         clear hv11 hb11 v0 v1 v2 v3 v4 v5 v6 d0 d1 d2 d3 d4 d5 d6 d7 d8 d9 d10 d11 d12 lv ld)
      | (go_at_call 18; refine h18.mono ?_
         rintro en w9 ⟨V9, rfl, ho9, hv9, hb9⟩
         have HB9 : Hid (Below wa.heap.size wa w9) := hb9
         have HO9 : Hid (OwnV w9 wa.heap.size V9 M) := ho9
         have HR9v : Hid (RdV w9 V9 M) := hv9
         clear v0 v1 v2 v3 v4 v5 v6 d0 d1 d2 d3 d4 d5 d6 d7 d8 d9 d10 d11 d12 x0 x1 x2 x3 x4 x5 x6 y0 y1 y2 y3 y4 y5 y6 y7 y8 y9 y10 y11 y12 lv ld lx ly
         obtain ⟨⟨v0, v1, v2, v3, v4, v5, v6⟩, ⟨d0, d1, d2, d3, d4, d5, d6, d7, d8, d9, d10, d11, d12⟩, _, _⟩ := HQ.out w9 hb9
         have lv := cell_lt v0
         have ld := cell_lt d0
         clear ho9 hv9 hb9))
    have hs4 : Below w11.heap.size w11 (w11.alloc (.cells (verA V11 M) 41)) := al1 _ _
    have HB4 : Hid (Below wa.heap.size wa (w11.alloc (.cells (verA V11 M) 41))) := bstep HB11.out hs4
    have H4 : Hid (∀ W, Below (w11.alloc (.cells (verA V11 M) 41)).heap.size (w11.alloc (.cells (verA V11 M) 41)) W → Blk W w9.heap.size 41 (cells7 (vsl V9 M)) ∧ Blk W w11.heap.size 41 (cells7 (vsl V11 M)) ∧ RdV W V9 M ∧ RdV W V11 M ∧ OwnV W wa.heap.size V9 M) := fun W hb =>
      ⟨(HZ9.out.alloc _).upd (S := Non) (Upd.ofBelow hb) (fun h => h), (Blk.new w11 41 (cells7 (vsl V11 M))).upd (S := Non) (Upd.ofBelow hb) (fun h => h), (HR11.out.below hs4).below hb, (HV11.out.below hs4).below hb, (HO11.out.below hs4).below hb⟩
    clear hs4 HB9 HO9 HR9v HB11 HV11 HO11 HZ9 HR11 HR9 h18 hr
    generalize hW4 : w11.alloc (Obj.cells _ 41) = W4 at *
    clear hW4
    obtain ⟨C, hC⟩ : ∃ C, chkE how L = C := ⟨_, rfl⟩
    have hEE : (E != E) = false := by simp
    have hCC : (C != C) = false := by simp
    have K20 : Hid (∀ W, Below W4.heap.size W4 W → Calls Try.prog 20 #[.agg (verA V9 M), .agg (verA V11 M)] W fun e w' => e = .returned (.bool true) ∧ Below W.heap.size W w') := fun W hb => by
      have := requal_any (H4.out W hb).2.2.1 (H4.out W hb).2.2.2.1
      rw [eqV_self] at this
      exact this
    have K21 : Hid (∀ W, Below W4.heap.size W4 W → Calls Try.prog 21 #[.int .i64 how, .agg (verA V7 L)] W fun e w' => e = .returned (.int .i64 C) ∧ Below W.heap.size W w') := fun W hb => by
      have := check_any (HN.out W (bstep HB4.out hb)).1 how
      rw [hC] at this
      exact this
    have K22 : Hid (∀ W, Below W4.heap.size W4 W → Calls Try.prog 22 #[.int .i64 how, .agg (verA V L)] W fun e w' => e = .returned (.int .i64 C) ∧ Below W.heap.size W w') := fun W hb => by
      have := qcheck_any (HN.out W (bstep HB4.out hb)).2.1 how
      rw [hC] at this
      exact this
    have K20b : Hid (∀ W, Below wa.heap.size wa W → Calls Try.prog 20 #[.agg (verA V7 L), .agg (verA V L)] W fun e w' => e = .returned (.bool true) ∧ Below W.heap.size W w') := fun W hb => by
      have := requal_any (HN.out W hb).1 (HN.out W hb).2.1
      rw [eqV_self] at this
      exact this
    have K13 : Hid (∀ W, Below wa.heap.size wa W → Calls Try.prog 13 #[.agg (edA P7 e), .agg (edA P e)] W fun e w' => e = .returned (.bool true) ∧ Below W.heap.size W w') := fun W hb =>
      same_self (HN.out W hb).2.2.1 (HN.out W hb).2.2.2
    have HS : Hid (∀ w', Below W4.heap.size W4 w' → w'.cell? ⟨w.heap.size, 0, none⟩ = some (vsl V L 0) ∧ w'.cell? ⟨w.heap.size, 1, none⟩ = some (vsl V L 1) ∧ w'.cell? ⟨w.heap.size, 2, none⟩ = some (vsl V L 2) ∧ w'.cell? ⟨w.heap.size, 3, none⟩ = some (vsl V L 3) ∧ w'.cell? ⟨w.heap.size, 4, none⟩ = some (vsl V L 4) ∧ w'.cell? ⟨w.heap.size, 5, none⟩ = some (vsl V L 5) ∧ w'.cell? ⟨w.heap.size, 6, none⟩ = some (vsl V L 6) ∧ w'.cell? ⟨(w.heap.size + 1), 0, none⟩ = some (.int .u32 e.fam) ∧ w'.cell? ⟨(w.heap.size + 1), 1, none⟩ = some (.bool e.ma) ∧ w'.cell? ⟨(w.heap.size + 1), 2, none⟩ = some (.bool e.dr) ∧ w'.cell? ⟨(w.heap.size + 1), 3, none⟩ = some (.string e.name) ∧ w'.cell? ⟨(w.heap.size + 1), 4, none⟩ = some (.int .i64 e.how) ∧ w'.cell? ⟨(w.heap.size + 1), 5, none⟩ = some (.bool e.hl) ∧ w'.cell? ⟨(w.heap.size + 1), 6, none⟩ = some (.bool e.hn) ∧ w'.cell? ⟨(w.heap.size + 1), 7, none⟩ = some (.bool e.hs) ∧ w'.cell? ⟨(w.heap.size + 1), 8, none⟩ = some (.int .u64 e.log) ∧ w'.cell? ⟨(w.heap.size + 1), 9, none⟩ = some (.int .u64 e.next) ∧ w'.cell? ⟨(w.heap.size + 1), 10, none⟩ = some (.int .u64 e.seq) ∧ w'.cell? ⟨(w.heap.size + 1), 11, none⟩ = some (.slice P.ga e.gone.length P.gc) ∧ w'.cell? ⟨(w.heap.size + 1), 12, none⟩ = some (.slice P.aa e.added.length P.ac) ∧ w'.cell? ⟨X, 0, none⟩ = some (vsl V7 L 0) ∧ w'.cell? ⟨X, 1, none⟩ = some (vsl V7 L 1) ∧ w'.cell? ⟨X, 2, none⟩ = some (vsl V7 L 2) ∧ w'.cell? ⟨X, 3, none⟩ = some (vsl V7 L 3) ∧ w'.cell? ⟨X, 4, none⟩ = some (vsl V7 L 4) ∧ w'.cell? ⟨X, 5, none⟩ = some (vsl V7 L 5) ∧ w'.cell? ⟨X, 6, none⟩ = some (vsl V7 L 6) ∧ w'.cell? ⟨Y, 0, none⟩ = some (.int .u32 e.fam) ∧ w'.cell? ⟨Y, 1, none⟩ = some (.bool e.ma) ∧ w'.cell? ⟨Y, 2, none⟩ = some (.bool e.dr) ∧ w'.cell? ⟨Y, 3, none⟩ = some (.string e.name) ∧ w'.cell? ⟨Y, 4, none⟩ = some (.int .i64 e.how) ∧ w'.cell? ⟨Y, 5, none⟩ = some (.bool e.hl) ∧ w'.cell? ⟨Y, 6, none⟩ = some (.bool e.hn) ∧ w'.cell? ⟨Y, 7, none⟩ = some (.bool e.hs) ∧ w'.cell? ⟨Y, 8, none⟩ = some (.int .u64 e.log) ∧ w'.cell? ⟨Y, 9, none⟩ = some (.int .u64 e.next) ∧ w'.cell? ⟨Y, 10, none⟩ = some (.int .u64 e.seq) ∧ w'.cell? ⟨Y, 11, none⟩ = some (.slice P7.ga e.gone.length P7.gc) ∧ w'.cell? ⟨Y, 12, none⟩ = some (.slice P7.aa e.added.length P7.ac) ∧ w'.cell? ⟨w9.heap.size, 0, none⟩ = some (vsl V9 M 0) ∧ w'.cell? ⟨w9.heap.size, 1, none⟩ = some (vsl V9 M 1) ∧ w'.cell? ⟨w9.heap.size, 2, none⟩ = some (vsl V9 M 2) ∧ w'.cell? ⟨w9.heap.size, 3, none⟩ = some (vsl V9 M 3) ∧ w'.cell? ⟨w9.heap.size, 4, none⟩ = some (vsl V9 M 4) ∧ w'.cell? ⟨w9.heap.size, 5, none⟩ = some (vsl V9 M 5) ∧ w'.cell? ⟨w9.heap.size, 6, none⟩ = some (vsl V9 M 6) ∧ w'.cell? ⟨w11.heap.size, 0, none⟩ = some (vsl V11 M 0) ∧ w'.cell? ⟨w11.heap.size, 1, none⟩ = some (vsl V11 M 1) ∧ w'.cell? ⟨w11.heap.size, 2, none⟩ = some (vsl V11 M 2) ∧ w'.cell? ⟨w11.heap.size, 3, none⟩ = some (vsl V11 M 3) ∧ w'.cell? ⟨w11.heap.size, 4, none⟩ = some (vsl V11 M 4) ∧ w'.cell? ⟨w11.heap.size, 5, none⟩ = some (vsl V11 M 5) ∧ w'.cell? ⟨w11.heap.size, 6, none⟩ = some (vsl V11 M 6)) := fun W hb => by
      obtain ⟨⟨v0, v1, v2, v3, v4, v5, v6⟩, ⟨d0, d1, d2, d3, d4, d5, d6, d7, d8, d9, d10, d11, d12⟩, ⟨x0, x1, x2, x3, x4, x5, x6⟩, ⟨y0, y1, y2, y3, y4, y5, y6, y7, y8, y9, y10, y11, y12⟩⟩ := HQ.out W (bstep HB4.out hb)
      obtain ⟨B9, B11, _⟩ := H4.out W hb
      exact ⟨v0, v1, v2, v3, v4, v5, v6, d0, d1, d2, d3, d4, d5, d6, d7, d8, d9, d10, d11, d12, x0, x1, x2, x3, x4, x5, x6, y0, y1, y2, y3, y4, y5, y6, y7, y8, y9, y10, y11, y12, B9.cell1 0 _ rfl, B9.cell1 1 _ rfl, B9.cell1 2 _ rfl, B9.cell1 3 _ rfl, B9.cell1 4 _ rfl, B9.cell1 5 _ rfl, B9.cell1 6 _ rfl, B11.cell1 0 _ rfl, B11.cell1 1 _ rfl, B11.cell1 2 _ rfl, B11.cell1 3 _ rfl, B11.cell1 4 _ rfl, B11.cell1 5 _ rfl, B11.cell1 6 _ rfl⟩
    clear hC
    go_cut [62] (fun x wd => x = .bool false ∧ Hid (Below W4.heap.size W4 wd))
    case first =>
      obtain ⟨v0, v1, v2, v3, v4, v5, v6, d0, d1, d2, d3, d4, d5, d6, d7, d8, d9, d10, d11, d12, x0, x1, x2, x3, x4, x5, x6, y0, y1, y2, y3, y4, y5, y6, y7, y8, y9, y10, y11, y12, z0, z1, z2, z3, z4, z5, z6, q0, q1, q2, q3, q4, q5, q6⟩ := HS.out W4 (Below.refl _ _)
      go_region_held_law (fun w' => w'.cell? ⟨w.heap.size, 0, none⟩ = some (vsl V L 0) ∧ w'.cell? ⟨w.heap.size, 1, none⟩ = some (vsl V L 1) ∧ w'.cell? ⟨w.heap.size, 2, none⟩ = some (vsl V L 2) ∧ w'.cell? ⟨w.heap.size, 3, none⟩ = some (vsl V L 3) ∧ w'.cell? ⟨w.heap.size, 4, none⟩ = some (vsl V L 4) ∧ w'.cell? ⟨w.heap.size, 5, none⟩ = some (vsl V L 5) ∧ w'.cell? ⟨w.heap.size, 6, none⟩ = some (vsl V L 6) ∧ w'.cell? ⟨(w.heap.size + 1), 0, none⟩ = some (.int .u32 e.fam) ∧ w'.cell? ⟨(w.heap.size + 1), 1, none⟩ = some (.bool e.ma) ∧ w'.cell? ⟨(w.heap.size + 1), 2, none⟩ = some (.bool e.dr) ∧ w'.cell? ⟨(w.heap.size + 1), 3, none⟩ = some (.string e.name) ∧ w'.cell? ⟨(w.heap.size + 1), 4, none⟩ = some (.int .i64 e.how) ∧ w'.cell? ⟨(w.heap.size + 1), 5, none⟩ = some (.bool e.hl) ∧ w'.cell? ⟨(w.heap.size + 1), 6, none⟩ = some (.bool e.hn) ∧ w'.cell? ⟨(w.heap.size + 1), 7, none⟩ = some (.bool e.hs) ∧ w'.cell? ⟨(w.heap.size + 1), 8, none⟩ = some (.int .u64 e.log) ∧ w'.cell? ⟨(w.heap.size + 1), 9, none⟩ = some (.int .u64 e.next) ∧ w'.cell? ⟨(w.heap.size + 1), 10, none⟩ = some (.int .u64 e.seq) ∧ w'.cell? ⟨(w.heap.size + 1), 11, none⟩ = some (.slice P.ga e.gone.length P.gc) ∧ w'.cell? ⟨(w.heap.size + 1), 12, none⟩ = some (.slice P.aa e.added.length P.ac) ∧ w'.cell? ⟨X, 0, none⟩ = some (vsl V7 L 0) ∧ w'.cell? ⟨X, 1, none⟩ = some (vsl V7 L 1) ∧ w'.cell? ⟨X, 2, none⟩ = some (vsl V7 L 2) ∧ w'.cell? ⟨X, 3, none⟩ = some (vsl V7 L 3) ∧ w'.cell? ⟨X, 4, none⟩ = some (vsl V7 L 4) ∧ w'.cell? ⟨X, 5, none⟩ = some (vsl V7 L 5) ∧ w'.cell? ⟨X, 6, none⟩ = some (vsl V7 L 6) ∧ w'.cell? ⟨Y, 0, none⟩ = some (.int .u32 e.fam) ∧ w'.cell? ⟨Y, 1, none⟩ = some (.bool e.ma) ∧ w'.cell? ⟨Y, 2, none⟩ = some (.bool e.dr) ∧ w'.cell? ⟨Y, 3, none⟩ = some (.string e.name) ∧ w'.cell? ⟨Y, 4, none⟩ = some (.int .i64 e.how) ∧ w'.cell? ⟨Y, 5, none⟩ = some (.bool e.hl) ∧ w'.cell? ⟨Y, 6, none⟩ = some (.bool e.hn) ∧ w'.cell? ⟨Y, 7, none⟩ = some (.bool e.hs) ∧ w'.cell? ⟨Y, 8, none⟩ = some (.int .u64 e.log) ∧ w'.cell? ⟨Y, 9, none⟩ = some (.int .u64 e.next) ∧ w'.cell? ⟨Y, 10, none⟩ = some (.int .u64 e.seq) ∧ w'.cell? ⟨Y, 11, none⟩ = some (.slice P7.ga e.gone.length P7.gc) ∧ w'.cell? ⟨Y, 12, none⟩ = some (.slice P7.aa e.added.length P7.ac) ∧ w'.cell? ⟨w9.heap.size, 0, none⟩ = some (vsl V9 M 0) ∧ w'.cell? ⟨w9.heap.size, 1, none⟩ = some (vsl V9 M 1) ∧ w'.cell? ⟨w9.heap.size, 2, none⟩ = some (vsl V9 M 2) ∧ w'.cell? ⟨w9.heap.size, 3, none⟩ = some (vsl V9 M 3) ∧ w'.cell? ⟨w9.heap.size, 4, none⟩ = some (vsl V9 M 4) ∧ w'.cell? ⟨w9.heap.size, 5, none⟩ = some (vsl V9 M 5) ∧ w'.cell? ⟨w9.heap.size, 6, none⟩ = some (vsl V9 M 6) ∧ w'.cell? ⟨w11.heap.size, 0, none⟩ = some (vsl V11 M 0) ∧ w'.cell? ⟨w11.heap.size, 1, none⟩ = some (vsl V11 M 1) ∧ w'.cell? ⟨w11.heap.size, 2, none⟩ = some (vsl V11 M 2) ∧ w'.cell? ⟨w11.heap.size, 3, none⟩ = some (vsl V11 M 3) ∧ w'.cell? ⟨w11.heap.size, 4, none⟩ = some (vsl V11 M 4) ∧ w'.cell? ⟨w11.heap.size, 5, none⟩ = some (vsl V11 M 5) ∧ w'.cell? ⟨w11.heap.size, 6, none⟩ = some (vsl V11 M 6))
        (first
          | with_reducible exact HS.out _ HB16.out
          | with_reducible exact HS.out _ HB15.out
          | with_reducible exact HS.out _ HB14.out
          | with_reducible exact HS.out _ HB13.out
          | with_reducible exact HS.out _ HB12.out
          | with_reducible exact HS.out _ (Below.refl _ _).drew)
        (first
          | (go_at_call 13; refine (K13.out _ (bstep HB4.out HB15.out)).mono ?_; rintro en w16 ⟨rfl, hb⟩; have HB16 : Hid (Below W4.heap.size W4 w16) := bstep HB15.out hb; clear hb)
          | (go_at_call 20; refine (K20b.out _ (bstep HB4.out HB14.out)).mono ?_; rintro en w15 ⟨rfl, hb⟩; have HB15 : Hid (Below W4.heap.size W4 w15) := bstep HB14.out hb; clear hb)
          | (go_at_call 22; refine (K22.out _ HB13.out).mono ?_; rintro en w14 ⟨rfl, hb⟩; have HB14 : Hid (Below W4.heap.size W4 w14) := bstep HB13.out hb; clear hb)
          | (go_at_call 21; refine (K21.out _ HB12.out).mono ?_; rintro en w13 ⟨rfl, hb⟩; have HB13 : Hid (Below W4.heap.size W4 w13) := bstep HB12.out hb; clear hb)
          | (go_at_call 20; refine (K20.out _ (Below.refl _ _).drew).mono ?_; rintro en w12 ⟨rfl, hb⟩; have HB12 : Hid (Below W4.heap.size W4 w12) := bstep (Below.refl _ _).drew hb; clear hb))
      all_goals
        go_wp2
        go_meet
        exact ⟨rfl, HB16.out⟩
    case rest =>
      obtain ⟨rfl, HB16⟩ := hcut
      have hZ0 : Hid (Zr wa wc w9.heap.size V9 M) := ⟨(H4.out _ HB16.out).1, fun i hi => ⟨_, (H4.out _ HB16.out).2.2.2.2.rows i hi⟩, bstep HB4.out HB16.out⟩
      have HL : Hid (∀ i, i < 7 → (M i).length * 96 ≤ 140737488355328) := (H4.out _ HB16.out).2.2.1.len
      clear K20 K21 K22 HS HB16 H4 HB4 hEE hCC
      go_wp2
      go_loopw [13] (fun i wr => ∃ k : Nat, k ≤ 7 ∧ i = .int .i64 k ∧ Hid (Zr wa wr w9.heap.size V9 M)) (fun i _ => (7 - intOf i).toNat)
      case atStart => exact ⟨0, by decide, rfl, hZ0.out⟩
      case round =>
        clear hZ0
        obtain ⟨k, hk, rfl, HZ⟩ := hrel
        rcases Nat.lt_or_ge k 7 with hk7 | hk7
        · have hkz : (k : Int) < 7 := by omega
          have hl := HL.out k hk7
          obtain ⟨N, hN⟩ : ∃ N, Hid ((M k).length = N) := ⟨_, rfl⟩
          rw [hN.out] at hl
          go_wp2_with (go_quiet (fail))
          go_loopw [14] (fun j wr => ∃ i : Nat, i ≤ N ∧ j = .int .i64 i ∧ Hid (Zr wa wr w9.heap.size V9 M)) (fun j _ => ((N : Int) - intOf j).toNat)
          case atStart => exact ⟨0, Nat.zero_le _, rfl, HZ.out⟩
          case round =>
            clear HZ
            obtain ⟨i, hi, rfl, HZ⟩ := hrel
            have c : wr.cell? ⟨w9.heap.size, k, none⟩ = some (vsl V9 M k) := HZ.out.z.cell1 k _ (cells7_get _ k hk7)
            have lc := cell_lt c
            unfold vsl at c
            rw [hN.out] at c
            rcases Nat.lt_or_ge i N with hiN | hiN
            · have hiz : (i : Int) < (N : Int) := by omega
              obtain ⟨g, hg, hgb, hgz, hgl, hcs, hfs⟩ := HZ.out.at_ hk7 (k := i) (by rw [hN.out]; exact hiN)
              rw [hg] at c
              obtain ⟨u0, c0⟩ := hcs 0 (by decide)
              rw [Nat.add_zero] at c0
              obtain ⟨u1, c1⟩ := hcs 1 (by decide)
              obtain ⟨u2, c2⟩ := hcs 2 (by decide)
              obtain ⟨u3, c3⟩ := hcs 3 (by decide)
              obtain ⟨u4, c4⟩ := hcs 4 (by decide)
              obtain ⟨u5, c5⟩ := hcs 5 (by decide)
              obtain ⟨u6, c6⟩ := hcs 6 (by decide)
              obtain ⟨u7, c7⟩ := hcs 7 (by decide)
              obtain ⟨u8, c8⟩ := hcs 8 (by decide)
              obtain ⟨u9, c9⟩ := hcs 9 (by decide)
              have f0 := hfs (i * 10)
              have f1 := hfs (i * 10 + 1)
              have f2 := hfs (i * 10 + 2)
              have f3 := hfs (i * 10 + 3)
              have f4 := hfs (i * 10 + 4)
              have f5 := hfs (i * 10 + 5)
              have f6 := hfs (i * 10 + 6)
              have f7 := hfs (i * 10 + 7)
              have f8 := hfs (i * 10 + 8)
              have f9 := hfs (i * 10 + 9)
              clear hcs hfs
              go_wp2_with (go_quiet (fail))
              go_roundw
              case rel => exact ⟨i + 1, by omega, by go_num, ((((((((((HZ.out).set hgb hgz _ _).set hgb hgz _ _).set hgb hgz _ _).set hgb hgz _ _).set hgb hgz _ _).set hgb hgz _ _).set hgb hgz _ _).set hgb hgz _ _).set hgb hgz _ _).set hgb hgz _ _⟩
              case measure => simp [intOf]; omega
            · obtain rfl : i = N := by omega
              have hz : ¬ ((i : Int) < i) := by omega
              go_wp2
              go_roundw
              case rel => exact ⟨k + 1, by omega, by go_num, HZ.out⟩
              case measure => simp [intOf]; omega
        · obtain rfl : k = 7 := by omega
          obtain ⟨⟨v0, v1, v2, v3, v4, v5, v6⟩, ⟨d0, d1, d2, d3, d4, d5, d6, d7, d8, d9, d10, d11, d12⟩, ⟨x0, x1, x2, x3, x4, x5, x6⟩, ⟨y0, y1, y2, y3, y4, y5, y6, y7, y8, y9, y10, y11, y12⟩⟩ := HQ.out wr HZ.out.b
          have lv := cell_lt v0
          have ld := cell_lt d0
          have lx := cell_lt x0
          have ly := cell_lt y0
          go_wp2_with (first
            | (go_at_call 14; refine (HLv _).mono ?_; rintro en w16 ⟨rfl, hb16⟩)
            | (go_at_call 13; refine (K13.out _ HB15.out).mono ?_; rintro en w17 ⟨rfl, hb17⟩
               have HB17 : Hid (Below wa.heap.size wa w17) := bstep HB15.out hb17)
            | (go_at_call 20; refine (K20b.out _ HZ.out.b).mono ?_; rintro en w15 ⟨rfl, hb15⟩
               have HB15 : Hid (Below wa.heap.size wa w15) := bstep HZ.out.b hb15
               clear v0 v1 v2 v3 v4 v5 v6 d0 d1 d2 d3 d4 d5 d6 d7 d8 d9 d10 d11 d12 x0 x1 x2 x3 x4 x5 x6 y0 y1 y2 y3 y4 y5 y6 y7 y8 y9 y10 y11 y12 lv ld lx ly
               obtain ⟨_, ⟨d0, d1, d2, d3, d4, d5, d6, d7, d8, d9, d10, d11, d12⟩, _, ⟨y0, y1, y2, y3, y4, y5, y6, y7, y8, y9, y10, y11, y12⟩⟩ := HQ.out w15 HB15.out
               have ld := cell_lt d0
               have ly := cell_lt y0))
          go_ret
          exact ⟨rfl, bstep HWc.out (bstep HB17.out hb16)⟩
end Go.Proofs.Ytkmpcheamdadcaa
