/-
  EditEncodes' walk.
-/
import Derived.Test.YtkmpcheamdadcaaDq
import Derived.Test.YtkmpcheamdadcaaDr
import Derived.Test.YtkmpcheamdadcaaEa
import Derived.Test.YtkmpcheamdadcaaZi
import Derived.Test.YtkmpcheamdadcaaZo
import Derived.Test.YtkmpcheamdadcaaZt
import Derived.Test.YtkmpcheamdadcaaWc
import Derived.Deep.RegionHeldLaw
namespace Go.Proofs.Ytkmpcheamdadcaa
open Go.RowKit
set_option linter.unusedVariables false
set_option linter.unusedSimpArgs false
set_option maxRecDepth 100000 in
set_option maxHeartbeats 4000000 in
theorem encodes_walk {w : World} {P Q : En} {e o : Ed} (h1 : RdEd w P e) (h2 : RdEd w Q o) (ho : EOk e) :
    Calls Try.prog 3 #[.agg (edA P e), .agg (edA Q o)] w fun en w' => en = .returned (.bool true) ∧ Below w.heap.size w w' := by
  have HE : Hid (RdEd w P e ∧ RdEd w Q o ∧ EOk e) := ⟨h1, h2, ho⟩
  obtain ⟨W1, hW1⟩ : ∃ W1, (w.alloc (edO P e)).alloc (edO Q o) = W1 := ⟨_, rfl⟩
  have hA := (ed_box w P e).alloc (edO Q o)
  have hB := ed_box (w.alloc (edO P e)) Q o
  rw [World.size_alloc] at hB
  have hb1 : Below w.heap.size w ((w.alloc (edO P e)).alloc (edO Q o)) := bstep (al1 _ _) (al1 _ _)
  rw [hW1] at hA hB hb1
  -- the boxes in any world behind
  have HX : Hid (∀ W, Below W1.heap.size W1 W → Blk W w.heap.size 27 (edA P e).toList ∧ Blk W (w.heap.size + 1) 27 (edA Q o).toList) := fun W hb => ⟨hA.upd (S := Non) (Upd.ofBelow hb) (fun h => h), hB.upd (S := Non) (Upd.ofBelow hb) (fun h => h)⟩
  have Hb1 : Hid (Below w.heap.size w W1) := hb1
  have HRd : Hid (∀ W, Below W1.heap.size W1 W → RdEd W P e ∧ RdEd W Q o) := fun W hb => ⟨HE.out.1.below (bstep hb1 hb), HE.out.2.1.below (bstep hb1 hb)⟩
  have HCp : Hid (∀ W, Below W1.heap.size W1 W → Calls Try.prog 10 #[.agg (edA P e)] W fun en w' => ∃ P', en = .returned (.agg (edA P' e)) ∧ RdEd w' P' e ∧ Below W.heap.size W w') := fun W hb => (cpedit_any (HRd.out W hb).1).mono (by
    rintro en w' ⟨P', rfl, hO, hb'⟩
    exact ⟨P', rfl, hO.rd HE.out.1.gl HE.out.1.al, hb'⟩)
  have HRe : Hid (∀ W, Below W1.heap.size W1 W → Calls Try.prog 11 #[.agg (edA P e)] W fun en w' => ∃ v, en = .returned (.tuple #[v, .int .i64 (canE e)]) ∧ OwnB w' W.heap.size v (encR e) ∧ Below W.heap.size W w') := fun W hb => rencode_any (HRd.out W hb).1 HE.out.2.2
  clear h1 h2 ho hA hB hb1
  obtain ⟨hA, hB⟩ := HX.out W1 (Below.refl _ _)
  obtain ⟨a0, a1, a2, a3, a4, a5, a6, a7, a8, a9, a10, a11, a12, la⟩ := ed13 hA
  clear hA hB
  go_enter Try.func3, Try.ntmps3
  go_wp2_with (first
    | (go_at_call 11; refine (HRe.out _ Hb3.out).mono ?_; rintro en w4 ⟨v4, rfl, ho4, hb4⟩; have Hb4 : Hid (Below W1.heap.size W1 w4) := bstep Hb3.out hb4)
    | (go_at_call 9; refine (encode_any hr2 HE.out.2.2).mono ?_; rintro en w3 ⟨v3, rfl, ho3, hb3⟩
       have Hb3 : Hid (Below W1.heap.size W1 w3) := bstep (bstep (Below.refl _ _) hb2) hb3
       obtain ⟨hA3, hB3⟩ := HX.out w3 Hb3.out
       clear a0 a1 a2 a3 a4 a5 a6 a7 a8 a9 a10 a11 a12 la
       obtain ⟨a0, a1, a2, a3, a4, a5, a6, a7, a8, a9, a10, a11, a12, la⟩ := ed13 hA3
       clear hA3 hB3)
    | (go_at_call 10; refine (HCp.out _ (Below.refl _ _)).mono ?_; rintro en w2 ⟨P2, rfl, hr2, hb2⟩))
  clear hW1 a0 a1 a2 a3 a4 a5 a6 a7 a8 a9 a10 a11 a12 la
  have Hb5 : Hid (Below W1.heap.size W1 w4.drew) := Hb4.out.drew
  have hs3 : (convert 28 9 v3).run Try.prog w4.drew = .ok (.string (bstr (encR e))) w4.drew := ((ho3.below hb4 (Nat.le_refl _)).drew).run_string (P := Try.prog) 28 9 Try.underlying28 Try.underlying5 Try.underlying9
  have hs4 : (convert 28 9 v4).run Try.prog w4.drew = .ok (.string (bstr (encR e))) w4.drew := (ho4.drew).run_string (P := Try.prog) 28 9 Try.underlying28 Try.underlying5 Try.underlying9
  obtain ⟨S, hS⟩ : ∃ S, bstr (encR e) = S := ⟨_, rfl⟩
  rw [hS] at hs3 hs4
  obtain ⟨C, hC⟩ : ∃ C, Hid (canE e = C) := ⟨_, rfl⟩
  rw [hC.out]
  obtain ⟨Z, hZ⟩ : ∃ Z, sameB e o = Z := ⟨_, rfl⟩
  have HS1 : Hid (∀ W, Below W1.heap.size W1 W → Calls Try.prog 12 #[.agg (edA P e), .agg (edA Q o)] W fun en w' => en = .returned (.bool Z) ∧ Below W.heap.size W w') := fun W hb => by rw [← hZ]; exact same_any (HRd.out W hb).1 (HRd.out W hb).2
  have HS2 : Hid (∀ W, Below W1.heap.size W1 W → Calls Try.prog 13 #[.agg (edA P e), .agg (edA Q o)] W fun en w' => en = .returned (.bool Z) ∧ Below W.heap.size W w') := fun W hb => by rw [← hZ]; exact rsame_any (HRd.out W hb).1 (HRd.out W hb).2
  have HS3 : Hid (∀ W P', Below W1.heap.size W1 W → RdEd W P' e → Calls Try.prog 12 #[.agg (edA P e), .agg (edA P' e)] W fun en w' => en = .returned (.bool true) ∧ Below W.heap.size W w') := fun W P' hb hr => by rw [← sameB_self e]; exact same_any (HRd.out W hb).1 hr
  clear hZ hS
  have q1 : (S.toList != S.toList) = false := by simp
  have q2 : (S.toList == S.toList) = true := by simp
  have q3 : (C != C) = false := by simp
  have q4 : (Z != Z) = false := by simp
  have HO3 : Hid (OwnB w3 W1.heap.size v3 (encR e)) := ho3.mono (bstep (Below.refl W1.heap.size W1) hb2).size
  have Hb34 : Hid (Below w3.heap.size w3 w4) := hb4
  clear ho3 ho4 hb3 hb4 hb2 hr2
  obtain ⟨hA9, hB9⟩ := HX.out w4.drew Hb5.out
  obtain ⟨a0, a1, a2, a3, a4, a5, a6, a7, a8, a9, a10, a11, a12, la⟩ := ed13 hA9
  obtain ⟨b0, b1, b2, b3, b4, b5, b6, b7, b8, b9, b10, b11, b12, lb⟩ := ed13 hB9
  clear hA9 hB9
  have HKp : Hid (∀ W, Below W1.heap.size W1 W → (W.cell? ⟨w.heap.size, 0, none⟩ = some (.int .u32 e.fam) ∧ W.cell? ⟨w.heap.size, 1, none⟩ = some (.bool e.ma) ∧ W.cell? ⟨w.heap.size, 2, none⟩ = some (.bool e.dr) ∧ W.cell? ⟨w.heap.size, 3, none⟩ = some (.string e.name) ∧ W.cell? ⟨w.heap.size, 4, none⟩ = some (.int .i64 e.how) ∧ W.cell? ⟨w.heap.size, 5, none⟩ = some (.bool e.hl) ∧ W.cell? ⟨w.heap.size, 6, none⟩ = some (.bool e.hn) ∧ W.cell? ⟨w.heap.size, 7, none⟩ = some (.bool e.hs) ∧ W.cell? ⟨w.heap.size, 8, none⟩ = some (.int .u64 e.log) ∧ W.cell? ⟨w.heap.size, 9, none⟩ = some (.int .u64 e.next) ∧ W.cell? ⟨w.heap.size, 10, none⟩ = some (.int .u64 e.seq) ∧ W.cell? ⟨w.heap.size, 11, none⟩ = some (.slice P.ga e.gone.length P.gc) ∧ W.cell? ⟨w.heap.size, 12, none⟩ = some (.slice P.aa e.added.length P.ac) ∧ W.cell? ⟨w.heap.size + 1, 0, none⟩ = some (.int .u32 o.fam) ∧ W.cell? ⟨w.heap.size + 1, 1, none⟩ = some (.bool o.ma) ∧ W.cell? ⟨w.heap.size + 1, 2, none⟩ = some (.bool o.dr) ∧ W.cell? ⟨w.heap.size + 1, 3, none⟩ = some (.string o.name) ∧ W.cell? ⟨w.heap.size + 1, 4, none⟩ = some (.int .i64 o.how) ∧ W.cell? ⟨w.heap.size + 1, 5, none⟩ = some (.bool o.hl) ∧ W.cell? ⟨w.heap.size + 1, 6, none⟩ = some (.bool o.hn) ∧ W.cell? ⟨w.heap.size + 1, 7, none⟩ = some (.bool o.hs) ∧ W.cell? ⟨w.heap.size + 1, 8, none⟩ = some (.int .u64 o.log) ∧ W.cell? ⟨w.heap.size + 1, 9, none⟩ = some (.int .u64 o.next) ∧ W.cell? ⟨w.heap.size + 1, 10, none⟩ = some (.int .u64 o.seq) ∧ W.cell? ⟨w.heap.size + 1, 11, none⟩ = some (.slice Q.ga o.gone.length Q.gc) ∧ W.cell? ⟨w.heap.size + 1, 12, none⟩ = some (.slice Q.aa o.added.length Q.ac))) := fun W hb => by
    obtain ⟨hA9, hB9⟩ := HX.out W hb
    obtain ⟨a0, a1, a2, a3, a4, a5, a6, a7, a8, a9, a10, a11, a12, la⟩ := ed13 hA9
    obtain ⟨b0, b1, b2, b3, b4, b5, b6, b7, b8, b9, b10, b11, b12, lb⟩ := ed13 hB9
    exact ⟨a0, a1, a2, a3, a4, a5, a6, a7, a8, a9, a10, a11, a12, b0, b1, b2, b3, b4, b5, b6, b7, b8, b9, b10, b11, b12⟩
  go_region_held_law (fun W => W.cell? ⟨w.heap.size, 0, none⟩ = some (.int .u32 e.fam) ∧ W.cell? ⟨w.heap.size, 1, none⟩ = some (.bool e.ma) ∧ W.cell? ⟨w.heap.size, 2, none⟩ = some (.bool e.dr) ∧ W.cell? ⟨w.heap.size, 3, none⟩ = some (.string e.name) ∧ W.cell? ⟨w.heap.size, 4, none⟩ = some (.int .i64 e.how) ∧ W.cell? ⟨w.heap.size, 5, none⟩ = some (.bool e.hl) ∧ W.cell? ⟨w.heap.size, 6, none⟩ = some (.bool e.hn) ∧ W.cell? ⟨w.heap.size, 7, none⟩ = some (.bool e.hs) ∧ W.cell? ⟨w.heap.size, 8, none⟩ = some (.int .u64 e.log) ∧ W.cell? ⟨w.heap.size, 9, none⟩ = some (.int .u64 e.next) ∧ W.cell? ⟨w.heap.size, 10, none⟩ = some (.int .u64 e.seq) ∧ W.cell? ⟨w.heap.size, 11, none⟩ = some (.slice P.ga e.gone.length P.gc) ∧ W.cell? ⟨w.heap.size, 12, none⟩ = some (.slice P.aa e.added.length P.ac) ∧ W.cell? ⟨w.heap.size + 1, 0, none⟩ = some (.int .u32 o.fam) ∧ W.cell? ⟨w.heap.size + 1, 1, none⟩ = some (.bool o.ma) ∧ W.cell? ⟨w.heap.size + 1, 2, none⟩ = some (.bool o.dr) ∧ W.cell? ⟨w.heap.size + 1, 3, none⟩ = some (.string o.name) ∧ W.cell? ⟨w.heap.size + 1, 4, none⟩ = some (.int .i64 o.how) ∧ W.cell? ⟨w.heap.size + 1, 5, none⟩ = some (.bool o.hl) ∧ W.cell? ⟨w.heap.size + 1, 6, none⟩ = some (.bool o.hn) ∧ W.cell? ⟨w.heap.size + 1, 7, none⟩ = some (.bool o.hs) ∧ W.cell? ⟨w.heap.size + 1, 8, none⟩ = some (.int .u64 o.log) ∧ W.cell? ⟨w.heap.size + 1, 9, none⟩ = some (.int .u64 o.next) ∧ W.cell? ⟨w.heap.size + 1, 10, none⟩ = some (.int .u64 o.seq) ∧ W.cell? ⟨w.heap.size + 1, 11, none⟩ = some (.slice Q.ga o.gone.length Q.gc) ∧ W.cell? ⟨w.heap.size + 1, 12, none⟩ = some (.slice Q.aa o.added.length Q.ac))
    (first
      | (go_keep; done)
      | (exact HKp.out _ Hb9.out)
      | (exact HKp.out _ Hb8.out)
      | (exact HKp.out _ Hb7.out)
      | (exact HKp.out _ Hb6.out)
      | (exact HKp.out _ Hb5.out))
    (first
      | (have hq := Hb8; clear hq; go_at_call 12; refine (HS3.out _ _ Hb8.out hr8).mono ?_; rintro en w9 ⟨rfl, hb9⟩
         have Hb9 : Hid (Below W1.heap.size W1 w9) := bstep Hb8.out hb9
         have Hc9 : Hid (Below w3.heap.size w3 w9) := bstep Hc8.out hb9)
      | (have hq := Hb7; clear hq; go_at_call 10; refine (HCp.out _ Hb7.out).mono ?_; rintro en w8 ⟨P8, rfl, hr8, hb8⟩
         have Hb8 : Hid (Below W1.heap.size W1 w8) := bstep Hb7.out hb8
         have Hc8 : Hid (Below w3.heap.size w3 w8) := bstep Hc7.out hb8)
      | (have hq := Hb6; clear hq; go_at_call 13; refine (HS2.out _ Hb6.out).mono ?_; rintro en w7 ⟨rfl, hb7⟩
         have Hb7 : Hid (Below W1.heap.size W1 w7) := bstep Hb6.out hb7
         have Hc7 : Hid (Below w3.heap.size w3 w7) := bstep Hc6.out hb7)
      | (go_at_call 12; refine (HS1.out _ Hb5.out).mono ?_; rintro en w6 ⟨rfl, hb6⟩
         have Hb6 : Hid (Below W1.heap.size W1 w6) := bstep Hb5.out hb6
         have Hc6 : Hid (Below w3.heap.size w3 w6) := bstep Hb34.out.drew hb6))
  all_goals
    clear a0 a1 a2 a3 a4 a5 a6 a7 a8 a9 a10 a11 a12 la b0 b1 b2 b3 b4 b5 b6 b7 b8 b9 b10 b11 b12 lb hs3 hs4
    by_cases hC0 : C = 0
    case neg =>
      have hCn : (C != 0) = true := by simpa using hC0
      clear hC0
      go_wp2_with (go_at_call 14; refine (lives_any _).mono ?_; rintro en w12 ⟨rfl, hb12⟩)
      go_ret
      exact ⟨rfl, bstep (bstep Hb1.out Hb9.out) hb12⟩
    case pos =>
      subst hC0
      have hcan : CanEd e := canE_iff.1 hC.out
      have hE : encR e = encB e := by unfold encR; rw [if_pos hC.out]
      have HO := HO3.out
      rw [hE] at HO
      rcases HO with ⟨_, hnil⟩ | ⟨bb, off, cap, hv3, _, hlt, hcap, _, hcell, _⟩
      · exfalso
        have : (encB e).length = 0 := by rw [hnil]; rfl
        simp [encB, eB6, eB5, eB4, eB3, eB2, eB1] at this
      have hlen : (encB e).length ≤ 140737488351232 := Nat.le_trans (encB_len hcan) (by decide)
      have hArg : Arg w9 (some ⟨bb, off, none⟩) (encB e).length cap (encB e) := ⟨rfl, encB_byt hcan HE.out.2.2, hlen, .inr ⟨bb, off, rfl, Nat.lt_of_lt_of_le hlt Hc9.out.size, fun j hj => by rw [Hc9.out.cell (p := ⟨bb, off + j, none⟩) hlt]; exact hcell j hj⟩⟩
      have hD := decode_any hArg hcap (fun p hp => by cases hp; exact Nat.lt_of_lt_of_le hlt Hc9.out.size)
      rw [pEd_enc hcan HE.out.2.2] at hD
      obtain ⟨p, hp⟩ : ∃ p, plainE e = p := ⟨_, rfl⟩
      rw [hp] at hD
      have HD : Calls Try.prog 15 #[.slice (some ⟨bb, off, none⟩) (encB e).length cap] w9 fun en w' => ∃ P', en = .returned (.tuple #[.agg (edA P' p), .int .i64 0]) ∧ RdEd w' P' p ∧ Below w9.heap.size w9 w' := hD.mono (by
        rintro en w' ⟨⟨e', P', h1, h2, h3⟩ | ⟨c, h1, _⟩, hb⟩
        · cases h1; exact ⟨P', h2, h3, hb⟩
        · cases h1)
      have HSp : Hid (sameB p e = true) := by rw [← hp]; exact sameB_plain
      have hn : ((encB e).length : Int) ≤ 140737488351232 := by omega
      subst hv3
      generalize (encB e).length = L at HD hn
      clear hD hArg hcell hcap hlt hlen hE hp HO3
      go_wp2_with (first
        | (go_at_call 14; refine (lives_any _).mono ?_; rintro en w12 ⟨rfl, hb12⟩)
        | (have hq := HSq; clear hq; go_at_call 13; refine HSq.mono ?_; rintro en w11 ⟨rfl, hb11⟩)
        | (go_at_call 15; refine HD.mono ?_; rintro en w10 ⟨P10, rfl, hr10, hb10⟩
           have Hb10 : Hid (Below W1.heap.size W1 w10) := bstep Hb9.out hb10
           have Hb11 : Hid (Below W1.heap.size W1 (w10.alloc (edO P10 p))) := bstep Hb10.out (al1 _ _)
           have HSq : Calls Try.prog 13 #[.agg (edA P10 p), .agg (edA P e)] (w10.alloc (edO P10 p)) fun en w' => en = .returned (.bool true) ∧ Below (w10.alloc (edO P10 p)).heap.size (w10.alloc (edO P10 p)) w' := by rw [← HSp.out]; exact rsame_any (hr10.below (al1 _ _)) (HRd.out _ Hb11.out).1
           obtain ⟨hA9, hB9⟩ := HX.out w10 Hb10.out
           obtain ⟨a0, a1, a2, a3, a4, a5, a6, a7, a8, a9, a10, a11, a12, la⟩ := ed13 hA9
           clear hA9 hB9))
      go_ret
      exact ⟨rfl, bstep (bstep (bstep Hb1.out Hb11.out) hb11) hb12⟩
end Go.Proofs.Ytkmpcheamdadcaa
