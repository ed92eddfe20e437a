/-
  What both tell: pair.tells.
-/
import Derived.Test.YtkpijoogaicodaaHu
import Derived.Test.YtkpijoogaicodaaGp
import Derived.Test.YtkpijoogaicodaaPa
namespace Go.Proofs.Ytkpijoogaicodaa
open Go.RowKit
set_option linter.unusedVariables false
set_option linter.unusedSimpArgs false
set_option maxRecDepth 100000 in
set_option maxHeartbeats 4000000 in
theorem tells_any {w0 w : World} {b q : Nat} {rv mv rv2 mv2 : Value} {rs : List Rec} {ms : List Nat} (h : Bq w0 w b q rv mv rv2 mv2 rs ms) :
    Calls Try.prog 18 #[.agg #[ptr b, ptr q]] w fun e w' => e = .returned (.bool true) ∧ Below w.heap.size w w' := by
  have lb := h.p.blk.lt
  have lq := h.r.blk.lt
  have hlen := h.good.len
  obtain ⟨V, hV⟩ : ∃ V, V = w.alloc (.cells #[ptr b, ptr q] 48) := ⟨_, rfl⟩
  have V0 : Below w.heap.size w V := by rw [hV]; exact (Below.refl w.heap.size w).alloc (Nat.le_refl _) _
  have S0 : Bq w0 V b q rv mv rv2 mv2 rs ms := h.step V0
  have B0 : Blk V w.heap.size 48 [ptr b, ptr q] := by rw [hV]; exact Blk.new w 48 [ptr b, ptr q]
  -- whatever lays new memory leaves all this
  have KEEP : ∀ W, Below V.heap.size V W → Bq w0 W b q rv mv rv2 mv2 rs ms ∧ W.cell? ⟨w.heap.size, 0, none⟩ = some (ptr b) ∧ W.cell? ⟨w.heap.size, 1, none⟩ = some (ptr q) ∧ W.cell? ⟨q, 0, none⟩ = some rv2 := fun W hW => by
    have S1 := S0.step hW
    have B1 := B0.upd (S := Non) (Upd.ofBelow hW) (fun hh => hh)
    exact ⟨S1, B1.cell1 0 _ rfl, B1.cell1 1 _ rfl, S1.r.blk.cell1 0 _ rfl⟩
  have KP : Hid _ := KEEP
  clear KEEP
  have c0 := B0.cell1 0 _ rfl
  rw [hV] at c0
  have HREC := records_any (KP.out V (Below.refl _ _)).1.p (by omega)
  rw [hV] at HREC
  go_enter Try.func18, Try.ntmps18
  go_wp2_with (go_at_call 20; refine HREC.mono ?_; rintro e w1 ⟨v3, rfl, ho3, hb3, hn3⟩)
  rw [← hV] at hb3 hn3
  have hb1 : Below V.heap.size V w1.drew := hb3.drew
  obtain ⟨S1, k10, k11, k12⟩ := KP.out _ hb1
  have hr1 : RdR w1 v3 rs := row_rd ho3
  obtain ⟨va, vc, rfl⟩ := hr1.len
  go_region_held_law (fun w' => w'.cell? ⟨w.heap.size, 0, none⟩ = some (ptr b) ∧ w'.cell? ⟨w.heap.size, 1, none⟩ = some (ptr q) ∧ w'.cell? ⟨q, 0, none⟩ = some rv2)
    (first
      | (go_keep; done)
      | exact ⟨k30, k31, k32⟩
      | exact ⟨k20, k21, k22⟩)
    (first
      | (go_at_call 51; refine (rfam_any S2.r.row (by omega)).mono ?_; rintro e w3 ⟨fv2, rfl, ho5, hb5⟩; obtain ⟨fa2, fc2, rfl, hfc2⟩ := urow_form ho5; have hB3 : Below V.heap.size V w3 := hB2.trans (hb5.mono hB2.size); obtain ⟨S3, k30, k31, k32⟩ := KP.out _ hB3)
      | (go_at_call 50; refine (fam_any S1.p (by omega)).mono ?_; rintro e w2 ⟨fv, rfl, ho4, hb4⟩; obtain ⟨fa, fc, rfl, hfc⟩ := urow_form ho4; have hB2 : Below V.heap.size V w2 := hb1.trans (hb4.mono hb1.size); obtain ⟨S2, k20, k21, k22⟩ := KP.out _ hB2))
  have ho4' := row_upd ho4 (S := Non) (Upd.ofBelow hb5) (fun _ _ hh => hh)
  have hr3 : RdR w3 (.slice va rs.length vc) rs := (hr1.below (Below.refl _ _).drew).below ((hb4.trans (hb5.mono hb4.size)))
  have hFl : (famI rs).length ≤ 4096 := Nat.le_trans (famI_len rs) hlen
  generalize famI rs = F at *
  obtain ⟨ra2, rc2, rfl⟩ := S3.r.row.len
  go_wp2
  have hB3d : Below V.heap.size V w3.drew := hB3.drew
  obtain ⟨S3d, k30d, k31d, k32d⟩ := KP.out _ hB3d
  have hr3d : RdR w3.drew (.slice va rs.length vc) rs := hr3.below (Below.refl _ _).drew
  obtain ⟨Z, hZ⟩ : ∃ Z, szs rs = Z := ⟨_, rfl⟩
  have hZl : Z ≤ 5000000 := by have := h.good.size; omega
  have HSZ : ∀ W, Bq w0 W b q rv mv (.slice ra2 rs.length rc2) mv2 rs ms → Calls Try.prog 21 #[ptr b] W fun e w' => e = .returned (.int .i64 (12 + (Z : Int))) ∧ w' = W := fun W hW => by
    have := size_any hW.p.blk (by omega); rw [hZ] at this; exact this
  have HSS : ∀ W, Bq w0 W b q rv mv (.slice ra2 rs.length rc2) mv2 rs ms → Calls Try.prog 32 #[.slice ra2 rs.length rc2] W fun e w' => e = .returned (.int .i64 (12 + (Z : Int))) ∧ Below W.heap.size W w' := fun W hW => by
    have := sizes_any hW.r.row (by omega) hW.fine; rw [hZ, show ((12 + Z : Nat) : Int) = 12 + (Z : Int) by omega] at this; exact this
  have HSZ' : Hid _ := HSZ
  have HSS' : Hid _ := HSS
  clear HSZ HSS hZ
  go_region_held_law (fun w' => w'.cell? ⟨w.heap.size, 0, none⟩ = some (ptr b) ∧ w'.cell? ⟨w.heap.size, 1, none⟩ = some (ptr q) ∧ w'.cell? ⟨q, 0, none⟩ = some (.slice ra2 rs.length rc2))
    (first
      | (go_keep; done)
      | exact ⟨k50, k51, k52⟩
      | exact ⟨k40, k41, k42⟩)
    (first
      | (go_at_call 32; refine (HSS'.out _ S4).mono ?_; rintro e w5 ⟨rfl, hb7⟩; have hB5 : Below V.heap.size V w5 := hB4.trans (hb7.mono hB4.size); obtain ⟨S5, k50, k51, k52⟩ := KP.out _ hB5)
      | (go_at_call 21; refine (HSZ'.out _ S4).mono ?_; rintro e w6 ⟨rfl, hw6⟩; have hw7 := hw6.symm; subst hw7; clear hw6)
      | (go_at_call 52; refine (len_any S4.p).mono ?_; rintro e w6 ⟨rfl, hw6⟩; have hw7 := hw6.symm; subst hw7; clear hw6)
      | (go_at_call 14; refine (same_yes hr3d S3d.r.row (by omega)).mono ?_; rintro e w4 ⟨rfl, hb6⟩; have hB4 : Below V.heap.size V w4 := hB3d.trans (hb6.mono hB3d.size); obtain ⟨S4, k40, k41, k42⟩ := KP.out _ hB4))
  have ho6 := row_upd (row_upd ho4' (S := Non) (Upd.ofBelow (Below.refl _ _).drew) (fun _ _ hh => hh)) (S := Non) (Upd.ofBelow (hb6.trans (hb7.mono hb6.size))) (fun _ _ hh => hh)
  have ho7 := row_upd (row_upd ho5 (S := Non) (Upd.ofBelow (Below.refl _ _).drew) (fun _ _ hh => hh)) (S := Non) (Upd.ofBelow (hb6.trans (hb7.mono hb6.size))) (fun _ _ hh => hh)
  have hb15 : Below w1.heap.size w1 w5 := ((Below.refl w1.heap.size w1).drew.trans ((hb4.trans (hb5.mono hb4.size)).mono (by simp))).trans (((Below.refl _ w3).drew.trans ((hb6.trans (hb7.mono hb6.size)).mono (by simp))).mono (Nat.le_trans (by simp) (hb4.trans (hb5.mono hb4.size)).size))
  have ho8 := row_upd ho3 (S := Non) (Upd.ofBelow hb15) (fun _ _ hh => hh)
  have hB5w : Below w.heap.size w w5 := V0.trans (hB5.mono V0.size)
  have hn5 : ∀ k, Value.ownBlock (.slice va rs.length vc) = some k → w.heap.size ≤ k := fun k hk => Nat.le_trans V0.size (hn3 k hk)
  clear ho3 ho4 ho4' ho5 hb3 hb4 hb5 hb6 hb7 hb15 hB2 hB3 hB3d hB4 S0 S1 S2 S3 S3d S4 S5 k10 k11 k12 k20 k21 k22 k30 k31 k32 k30d k31d k32d k40 k41 k42 k50 k51 k52 hr1 hr3 hr3d HSZ' HSS' KP HREC V0 B0 hb1 hB5
  go_wp2
  go_loopw [6] (fun vi wr => ∃ k : Nat, k ≤ F.length ∧ vi = .int .i64 (k : Nat) ∧ Below w5.heap.size w5 wr) (fun vi _ => F.length - (intOf vi).toNat)
  case atStart => exact ⟨0, by omega, rfl, Below.refl _ _⟩
  case round =>
    obtain ⟨k, hk, rfl, hBk⟩ := hrel
    by_cases hlt : k < F.length
    · have hlt' : (k : Int) < (F.length : Int) := by omega
      obtain ⟨g1, cp1, e1, hc1, hg1⟩ := urow_at (row_upd ho6 (S := Non) (Upd.ofBelow hBk) (fun _ _ hh => hh)) hlt
      obtain ⟨g2, cp2, e2, hc2, hg2⟩ := urow_at (row_upd ho7 (S := Non) (Upd.ofBelow hBk) (fun _ _ hh => hh)) hlt
      cases e1
      cases e2
      generalize F[k] = x at *
      clear ho6 ho7 ho8
      generalize F.length = n at *
      go_wp2
      go_quiet (fail)
      go_wp2
      go_roundw
      case rel => exact ⟨k + 1, by omega, by go_num, below_drewN hBk _⟩
      case measure => simp [intOf]; omega
    · obtain rfl : k = F.length := by omega
      have ho9 := row_upd ho8 (S := Non) (Upd.ofBelow hBk) (fun _ _ hh => hh)
      have hB9 : Below w.heap.size w wr := hB5w.trans (hBk.mono hB5w.size)
      clear ho6 ho7 ho8 hB5w hBk
      go_wp2
      go_loopw [7] (fun vi wr2 => ∃ (k : Nat) (l : List Rec), k ≤ rs.length ∧ vi = .int .i64 (k : Nat) ∧ l.length = rs.length ∧ wr2.ownsRow 0 31 4 (.slice va rs.length vc) rs.length (rcs l) ∧ Below w.heap.size w wr2) (fun vi _ => rs.length - (intOf vi).toNat)
      case atStart => exact ⟨0, rs, by omega, rfl, rfl, ho9, hB9⟩
      case round =>
        clear ho9 hB9
        obtain ⟨k, l, hk, rfl, hll, hrow, hBw⟩ := hrel
        by_cases hlt : k < rs.length
        · have hlt' : (k : Int) < (rs.length : Int) := by omega
          have hkl : k < l.length := by omega
          rcases hrow.2 with ⟨hv', h0⟩ | ⟨g, cap, cur, hv', _⟩
          · omega
          · cases hv'
            obtain ⟨⟨c0, c1, c2, c3⟩, hfz, lg⟩ := row_cells hrow hll.symm k hkl
            have hgw : w.heap.size ≤ g := hn5 g rfl
            have HP : Hid _ := row_put hrow k hkl ⟨0, 0, ⟨#[115, 112, 111, 105, 108, 116]⟩, ⟨#[]⟩⟩
            have hfk0 := hfz (k * 4)
            have hfk1 := hfz (k * 4 + 1)
            have hfk2 := hfz (k * 4 + 2)
            have hfk3 := hfz (k * 4 + 3)
            clear hrow
            generalize rs.length = n at *
            go_wp2
            refine ⟨⟨k + 1, l.set k ⟨0, 0, ⟨#[115, 112, 111, 105, 108, 116]⟩, ⟨#[]⟩⟩, by omega, by go_num, by rw [List.length_set]; exact hll, HP.out, (((hBw.setCell (p := ⟨g, k * 4, none⟩) hgw _).setCell (p := ⟨g, k * 4 + 1, none⟩) hgw _).setCell (p := ⟨g, k * 4 + 2, none⟩) hgw _).setCell (p := ⟨g, k * 4 + 3, none⟩) hgw _⟩, by simp [intOf]; omega⟩
        · obtain rfl : k = rs.length := by omega
          go_wp2
          go_ret
          exact ⟨rfl, hBw⟩
end Go.Proofs.Ytkpijoogaicodaa
