/-
  The reference's Same where two edits differ: comparisons 2 to 3.
-/
import Derived.Test.YtkmpcheamdadcaaZo
import Derived.Test.YtkmpcheamdadcaaYk
namespace Go.Proofs.Ytkmpcheamdadcaa
open Go.RowKit
set_option linter.unusedVariables false
set_option linter.unusedSimpArgs false
set_option maxRecDepth 100000 in
set_option maxHeartbeats 4000000 in
theorem rsame_b {w : World} {P1 P2 : En} {e f : Ed} (h1 : RdEd w P1 e) (h2 : RdEd w P2 f) (HD : Hid ((plainE e).fam = (plainE f).fam ∧ (plainE e).ma = (plainE f).ma ∧ ¬ ((plainE e).dr = (plainE f).dr ∧ (plainE e).name = (plainE f).name))) : Calls Try.prog 13 #[.agg (edA P1 e), .agg (edA P2 f)] w fun en w' => en = .returned (.bool false) ∧ Below w.heap.size w w' := by
  have HE : Hid (RdEd w P1 e ∧ RdEd w P2 f) := ⟨h1, h2⟩
  obtain ⟨p, hp⟩ : ∃ p, plainE e = p := ⟨_, rfl⟩
  obtain ⟨q, hq0⟩ : ∃ q, plainE f = q := ⟨_, rfl⟩
  rw [hp, hq0] at HD
  have H1 : ∀ w, Calls Try.prog 42 #[.agg (edA P1 e)] w fun en w' => en = .returned (.agg (edA P1 p)) ∧ Below w.heap.size w w' := fun w => by rw [← hp]; exact plain_any P1 e w
  have H2 : ∀ w, Calls Try.prog 42 #[.agg (edA P2 f)] w fun en w' => en = .returned (.agg (edA P2 q)) ∧ Below w.heap.size w w' := fun w => by rw [← hq0]; exact plain_any P2 f w
  have HG : Hid ((p.gone = e.gone ∧ p.added = e.added) ∧ q.gone = f.gone ∧ q.added = f.added) := by show _ ∧ _; rw [← hp, ← hq0]; exact ⟨⟨rfl, rfl⟩, rfl, rfl⟩
  obtain ⟨W1, hW1⟩ : ∃ W1, (w.alloc (edO P1 e)).alloc (edO P2 f) = W1 := ⟨_, rfl⟩
  have hA := (ed_box w P1 e).alloc (edO P2 f)
  have hB := ed_box (w.alloc (edO P1 e)) P2 f
  rw [World.size_alloc] at hB
  have hb1 : Below w.heap.size w ((w.alloc (edO P1 e)).alloc (edO P2 f)) := bstep (al1 _ _) (al1 _ _)
  rw [hW1] at hA hB hb1
  have HA1 : Hid (Blk W1 w.heap.size 27 (edA P1 e).toList ∧ Blk W1 (w.heap.size + 1) 27 (edA P2 f).toList ∧ Below w.heap.size w W1) := ⟨hA, hB, hb1⟩
  clear h1 h2 hp hq0 hA hB hb1
  go_enter Try.func13, Try.ntmps13
  go_wp2_with fail
  clear hW1
  go_cut [8] (fun _ wd => Hid (Blk wd w.heap.size 27 (edA P1 p).toList ∧ Blk wd (w.heap.size + 1) 27 (edA P2 q).toList ∧ Below w.heap.size w wd))
  case first =>
    obtain ⟨a0, a1, a2, a3, a4, a5, a6, a7, a8, a9, a10, a11, a12, la⟩ := ed13 HA1.out.1
    obtain ⟨b0, b1, b2, b3, b4, b5, b6, b7, b8, b9, b10, b11, b12, lb⟩ := ed13 HA1.out.2.1
    go_region_with (first
      | (have hq := HB2; clear hq; go_at_call 42; refine (H2 _).mono ?_; rintro en w3 ⟨rfl, hb3⟩
         have HB3 : Hid (Below W1.heap.size W1 w3) := bstep HB2.out hb3
         have HA3 := HA1.out.1.upd (S := Non) (Upd.ofBelow HB3.out) (fun h => h)
         have HC3 := HA1.out.2.1.upd (S := Non) (Upd.ofBelow HB3.out) (fun h => h)
         clear a0 a1 a2 a3 a4 a5 a6 a7 a8 a9 a10 a11 a12 b0 b1 b2 b3 b4 b5 b6 b7 b8 b9 b10 b11 b12 la lb
         obtain ⟨a0, a1, a2, a3, a4, a5, a6, a7, a8, a9, a10, a11, a12, la⟩ := ed13 HA3
         obtain ⟨b0, b1, b2, b3, b4, b5, b6, b7, b8, b9, b10, b11, b12, lb⟩ := ed13 HC3
         have fa0 := HA3.frozen 0
         have fb0 := HC3.frozen 0
         have fa1 := HA3.frozen 1
         have fb1 := HC3.frozen 1
         have fa2 := HA3.frozen 2
         have fb2 := HC3.frozen 2
         have fa3 := HA3.frozen 3
         have fb3 := HC3.frozen 3
         have fa4 := HA3.frozen 4
         have fb4 := HC3.frozen 4
         have fa5 := HA3.frozen 5
         have fb5 := HC3.frozen 5
         have fa6 := HA3.frozen 6
         have fb6 := HC3.frozen 6
         have fa7 := HA3.frozen 7
         have fb7 := HC3.frozen 7
         have fa8 := HA3.frozen 8
         have fb8 := HC3.frozen 8
         have fa9 := HA3.frozen 9
         have fb9 := HC3.frozen 9
         have fa10 := HA3.frozen 10
         have fb10 := HC3.frozen 10
         have fa11 := HA3.frozen 11
         have fb11 := HC3.frozen 11
         have fa12 := HA3.frozen 12
         have fb12 := HC3.frozen 12
         have HA4 : Hid (Blk w3 w.heap.size 27 (edA P1 e).toList ∧ Blk w3 (w.heap.size + 1) 27 (edA P2 f).toList ∧ Below w.heap.size w w3) := ⟨HA3, HC3, bstep HA1.out.2.2 HB3.out⟩
         clear HA3 HC3)
      | (go_at_call 42; refine (H1 _).mono ?_; rintro en w2 ⟨rfl, hb2⟩
         have HB2 : Hid (Below W1.heap.size W1 w2) := bstep (Below.refl _ _).drew hb2
         clear b0 b1 b2 b3 b4 b5 b6 b7 b8 b9 b10 b11 b12 lb
         obtain ⟨b0, b1, b2, b3, b4, b5, b6, b7, b8, b9, b10, b11, b12, lb⟩ := ed13 (HA1.out.2.1.upd (S := Non) (Upd.ofBelow HB2.out) (fun h => h))))
    all_goals
      go_wp2
      go_meet
      have U1 := upd13 w3 w.heap.size (.int .u32 p.fam) (.bool p.ma) (.bool p.dr) (.string p.name) (.int .i64 p.how) (.bool p.hl) (.bool p.hn) (.bool p.hs) (.int .u64 p.log) (.int .u64 p.next) (.int .u64 p.seq) (.slice P1.ga p.gone.length P1.gc) (.slice P1.aa p.added.length P1.ac)
      have X1 := set13 HA4.out.1 (.int .u32 p.fam) (.bool p.ma) (.bool p.dr) (.string p.name) (.int .i64 p.how) (.bool p.hl) (.bool p.hn) (.bool p.hs) (.int .u64 p.log) (.int .u64 p.next) (.int .u64 p.seq) (.slice P1.ga p.gone.length P1.gc) (.slice P1.aa p.added.length P1.ac)
      have Y1 := HA4.out.2.1.upd U1 (by omega)
      have hb5 := Upd.bel HA4.out.2.2 U1 (fun j hj => by omega) HA4.out.2.2.size
      have X2 := set13 Y1 (.int .u32 q.fam) (.bool q.ma) (.bool q.dr) (.string q.name) (.int .i64 q.how) (.bool q.hl) (.bool q.hn) (.bool q.hs) (.int .u64 q.log) (.int .u64 q.next) (.int .u64 q.seq) (.slice P2.ga q.gone.length P2.gc) (.slice P2.aa q.added.length P2.ac)
      exact ⟨X1.upd (upd13 _ (w.heap.size + 1) (.int .u32 q.fam) (.bool q.ma) (.bool q.dr) (.string q.name) (.int .i64 q.how) (.bool q.hl) (.bool q.hn) (.bool q.hs) (.int .u64 q.log) (.int .u64 q.next) (.int .u64 q.seq) (.slice P2.ga q.gone.length P2.gc) (.slice P2.aa q.added.length P2.ac)) (by omega), X2, Upd.bel hb5 (upd13 _ (w.heap.size + 1) (.int .u32 q.fam) (.bool q.ma) (.bool q.dr) (.string q.name) (.int .i64 q.how) (.bool q.hl) (.bool q.hn) (.bool q.hs) (.int .u64 q.log) (.int .u64 q.next) (.int .u64 q.seq) (.slice P2.ga q.gone.length P2.gc) (.slice P2.aa q.added.length P2.ac)) (fun j hj => by omega) hb5.size⟩
  case rest =>
    have HH := hcut
    obtain ⟨N, hN⟩ : ∃ N, Hid (e.gone.length = N) := ⟨_, rfl⟩
    obtain ⟨A, hA⟩ : ∃ A, Hid (e.added.length = A) := ⟨_, rfl⟩
    obtain ⟨N2, hN2⟩ : ∃ N, Hid (f.gone.length = N) := ⟨_, rfl⟩
    obtain ⟨A2, hA2⟩ : ∃ A, Hid (f.added.length = A) := ⟨_, rfl⟩
    have hNz : (N : Int) * 16 ≤ 140737488355328 := by have := HE.out.1.gl; rw [hN.out] at this; omega
    have hAz : (A : Int) * 104 ≤ 140737488355328 := by have := HE.out.1.al; rw [hA.out] at this; omega
    have HC : Hid (∀ W, Below wc.heap.size wc W → (W.cell? ⟨w.heap.size, 11, none⟩ = some (.slice P1.ga N P1.gc) ∧ W.cell? ⟨w.heap.size, 12, none⟩ = some (.slice P1.aa A P1.ac) ∧ W.cell? ⟨w.heap.size + 1, 11, none⟩ = some (.slice P2.ga N2 P2.gc) ∧ W.cell? ⟨w.heap.size + 1, 12, none⟩ = some (.slice P2.aa A2 P2.ac))) := fun W hb => by
      have X1 := HH.out.1.upd (S := Non) (Upd.ofBelow hb) (fun h => h)
      have X2 := HH.out.2.1.upd (S := Non) (Upd.ofBelow hb) (fun h => h)
      have y1 := X1.cell1 11 _ rfl
      have y2 := X1.cell1 12 _ rfl
      have y3 := X2.cell1 11 _ rfl
      have y4 := X2.cell1 12 _ rfl
      rw [HG.out.1.1, hN.out] at y1
      rw [HG.out.1.2, hA.out] at y2
      rw [HG.out.2.1, hN2.out] at y3
      rw [HG.out.2.2, hA2.out] at y4
      exact ⟨y1, y2, y3, y4⟩
    have HBc : Hid (Below w.heap.size w wc) := HH.out.2.2
    obtain ⟨a11, a12, b11, b12⟩ := HC.out wc (Below.refl _ _)
    have a0 := HH.out.1.cell1 0 _ rfl
    have b0 := HH.out.2.1.cell1 0 _ rfl
    have a1 := HH.out.1.cell1 1 _ rfl
    have b1 := HH.out.2.1.cell1 1 _ rfl
    have a2 := HH.out.1.cell1 2 _ rfl
    have b2 := HH.out.2.1.cell1 2 _ rfl
    have a3 := HH.out.1.cell1 3 _ rfl
    have b3 := HH.out.2.1.cell1 3 _ rfl
    have a4 := HH.out.1.cell1 4 _ rfl
    have b4 := HH.out.2.1.cell1 4 _ rfl
    have a5 := HH.out.1.cell1 5 _ rfl
    have b5 := HH.out.2.1.cell1 5 _ rfl
    have a6 := HH.out.1.cell1 6 _ rfl
    have b6 := HH.out.2.1.cell1 6 _ rfl
    have a7 := HH.out.1.cell1 7 _ rfl
    have b7 := HH.out.2.1.cell1 7 _ rfl
    have a8 := HH.out.1.cell1 8 _ rfl
    have b8 := HH.out.2.1.cell1 8 _ rfl
    have a9 := HH.out.1.cell1 9 _ rfl
    have b9 := HH.out.2.1.cell1 9 _ rfl
    have a10 := HH.out.1.cell1 10 _ rfl
    have b10 := HH.out.2.1.cell1 10 _ rfl
    have la := HH.out.1.lt
    have lb := HH.out.2.1.lt
    clear hcut H1 H2
    rw [(HD.out.1 : p.fam = q.fam)] at a0
    have y0 : (q.fam != q.fam) = false := by simp
    rw [(HD.out.2.1 : p.ma = q.ma)] at a1
    have y1 : (q.ma != q.ma) = false := by simp
    by_cases x2 : p.dr = q.dr
    case neg =>
      rcases (by revert x2; cases p.dr <;> cases q.dr <;> simp : (p.dr = true ∧ q.dr = false) ∨ (p.dr = false ∧ q.dr = true)) with ⟨g1, g2⟩ | ⟨g1, g2⟩
      all_goals
        rw [g1] at a2
        rw [g2] at b2
        clear x2 g1 g2
        go_wp2
        go_ret
        exact ⟨rfl, HBc.out⟩
    have X2 : Hid (p.dr = q.dr) := x2
    rw [x2] at a2
    have y2 : (q.dr != q.dr) = false := by simp
    clear x2
    by_cases x3 : p.name = q.name
    case neg =>
      have y3 : (p.name.toList == q.name.toList) = false := by
        apply Bool.eq_false_iff.2
        intro h
        rw [beq_iff_eq, ByteArray.toList_eq, ByteArray.toList_eq] at h
        exact x3 (ByteArray.ext (Array.ext' h))
      clear x3
      go_wp2
      go_ret
      exact ⟨rfl, HBc.out⟩
    have X3 : Hid (p.name = q.name) := x3
    rw [x3] at a3
    have y3 : (q.name.toList == q.name.toList) = true := by simp
    clear x3
    exact absurd ⟨X2.out, X3.out⟩ HD.out.2.2
end Go.Proofs.Ytkmpcheamdadcaa
