/-
  cloned; Copied.
-/
import Derived.Test.YtkmpcheamdadcaaVh
namespace Go.Proofs.Ytkmpcheamdadcaa
open Go.RowKit
set_option linter.unusedVariables false
set_option linter.unusedSimpArgs false
theorem upd7 (W : World) (B : Nat) (a b c d e f g : Value) : Upd (fun j => j = B) W (((((((W.setCell ⟨B, 0, none⟩ a).setCell ⟨B, 1, none⟩ b).setCell ⟨B, 2, none⟩ c).setCell ⟨B, 3, none⟩ d).setCell ⟨B, 4, none⟩ e).setCell ⟨B, 5, none⟩ f).setCell ⟨B, 6, none⟩ g) :=
  (((((((Upd.refl (fun j => j = B) W).setCell (p := ⟨B, 0, none⟩) (fun _ => rfl) a).setCell (p := ⟨B, 1, none⟩) (fun _ => rfl) b).setCell (p := ⟨B, 2, none⟩) (fun _ => rfl) c).setCell (p := ⟨B, 3, none⟩) (fun _ => rfl) d).setCell (p := ⟨B, 4, none⟩) (fun _ => rfl) e).setCell (p := ⟨B, 5, none⟩) (fun _ => rfl) f).setCell (p := ⟨B, 6, none⟩) (fun _ => rfl) g
set_option maxRecDepth 100000 in
set_option maxHeartbeats 2000000 in
theorem cloned_any {w : World} {V : Vn} {L : Nat → List Fi} (h : RdV w V L) : Calls Try.prog 46 #[.agg (verA V L)] w fun e w' => ∃ V', e = .returned (.agg (verA V' L)) ∧ OwnV w' (w.heap.size + 2) V' L ∧ Below w.heap.size w w' := by
  have HV : Hid (RdV w V L) := h
  have HX : Hid (∀ k : Nat, k < 7 → ∀ w, (Instr.index 39 (.agg (verA V L)) (.int .i64 k)).run Try.prog w = .ok (vsl V L k) w) := fun k hk w => ver_index V L k hk w
  have C0 : Cop w _ 39 V L 0 (fun _ => .slice none 0 0) := Cop.start
  clear h
  go_enter Try.func46, Try.ntmps46
  go_wp2
  go_loopw [6] (fun i wr => ∃ (k : Nat) (vs : Nat → Value), k ≤ 7 ∧ i = .int .i64 k ∧ Hid (Cop w wr 39 V L k vs)) (fun i _ => 7 - (intOf i).toNat)
  case atStart => exact ⟨0, _, by omega, rfl, C0⟩
  case round =>
    clear C0
    obtain ⟨k, vs, hk, rfl, HC⟩ := hrel
    by_cases hlt : k < 7
    · have hx : ∀ w, (Instr.index 39 (.agg (verA V L)) (.int .i64 k)).run Try.prog w = .ok (.slice (V.a k) (L k).length (V.c k)) w := HX.out k hlt
      have hkz : (k : Int) < 7 := by omega
      have HCl : Hid (Calls Try.prog 85 #[.slice (V.a k) (L k).length (V.c k)] wr fun e w' => ∃ v, e = .returned v ∧ RowF w' wr.heap.size v (L k) ∧ Below wr.heap.size wr w') := fclone_any ((HV.out.rd k hlt).below HC.out.bel) (HV.out.nil k hlt) (HV.out.len k hlt)
      generalize (L k).length = n at hx HCl
      go_wp2_with (go_at_call 85; refine HCl.out.mono ?_; rintro e w2 ⟨v, rfl, hr, hb⟩
                   have c2 := (HC.out.below hb).box.cell1 k _ (cells7_get _ k hlt)
                   have f2 := (HC.out.below hb).box.frozen k
                   have l2 := (HC.out.below hb).box.lt
                   have HS : Hid (Cop w (w2.setCell ⟨w.heap.size, k, none⟩ v) 39 V L (k + 1) (fun i => if i = k then v else vs i)) := HC.out.step (by decide) hlt hb hr
                   obtain ⟨va, vc, hv⟩ := row_slice hr
                   subst hv
                   clear hr)
      go_roundw
      case rel => exact ⟨k + 1, _, by omega, by go_num, HS.out⟩
      case measure => simp [intOf]; omega
    · obtain rfl : k = 7 := by omega
      obtain ⟨V', hvs, HO⟩ := HC.out.own
      have hbx : Blk wr w.heap.size 39 (cells7 (vsl V' L)) := by
        have := HC.out.box
        rw [cells7_congr (g := vsl V' L) (fun i hi => by rw [if_pos hi, hvs i hi])] at this
        exact this
      have HB : Hid (Below w.heap.size w wr) := HC.out.bel
      have hrs := HC.out.res
      have hl2 := hrs.lt
      have b0 := hbx.cell1 0 _ rfl
      have b1 := hbx.cell1 1 _ rfl
      have b2 := hbx.cell1 2 _ rfl
      have b3 := hbx.cell1 3 _ rfl
      have b4 := hbx.cell1 4 _ rfl
      have b5 := hbx.cell1 5 _ rfl
      have b6 := hbx.cell1 6 _ rfl
      have r0 := hrs.cell1 0 _ rfl
      have r1 := hrs.cell1 1 _ rfl
      have r2 := hrs.cell1 2 _ rfl
      have r3 := hrs.cell1 3 _ rfl
      have r4 := hrs.cell1 4 _ rfl
      have r5 := hrs.cell1 5 _ rfl
      have r6 := hrs.cell1 6 _ rfl
      have f0 := hrs.frozen 0
      have f1 := hrs.frozen 1
      have f2 := hrs.frozen 2
      have f3 := hrs.frozen 3
      have f4 := hrs.frozen 4
      have f5 := hrs.frozen 5
      have f6 := hrs.frozen 6
      have HO' : Hid (OwnV wr (w.heap.size + 2) V' L) := HO
      clear HO hvs hbx hrs HC HX
      go_wp2
      refine bodyPost_ret (v := .agg (verA V' L)) (by simp [results, Try.results46, go_sem, *]) rfl ⟨V', rfl, ?_, ?_⟩
      · exact HO'.out.upd (upd7 _ _ _ _ _ _ _ _ _) (fun j hj => by omega)
      · exact Upd.bel HB.out (upd7 _ _ _ _ _ _ _ _ _) (fun j hj => by omega) HB.out.size
set_option maxRecDepth 100000 in
set_option maxHeartbeats 2000000 in
theorem copied_any {w : World} {V : Vn} {L : Nat → List Fi} (h : RdV w V L) : Calls Try.prog 17 #[.agg (verA V L)] w fun e w' => ∃ V', e = .returned (.agg (verA V' L)) ∧ OwnV w' (w.heap.size + 2) V' L ∧ Below w.heap.size w w' := by
  have HV : Hid (RdV w V L) := h
  have C0 : Cop w _ 41 V L 0 (fun _ => .slice none 0 0) := Cop.start
  clear h
  go_enter Try.func17, Try.ntmps17
  go_wp2
  go_loopw [3] (fun i wr => ∃ (k : Nat) (vs : Nat → Value), k ≤ 7 ∧ i = .int .i64 k ∧ Hid (Cop w wr 41 V L k vs)) (fun i _ => 7 - (intOf i).toNat)
  case atStart => exact ⟨0, _, by omega, rfl, C0⟩
  case round =>
    clear C0
    obtain ⟨k, vs, hk, rfl, HC⟩ := hrel
    by_cases hlt : k < 7
    · have hkz : (k : Int) < 7 := by omega
      have HC1 : Hid (Cop w (wr.alloc (.cells #[] 50)) 41 V L k vs) := HC.out.below (al1 _ _)
      have hb0 := HC1.out.bel
      have ho : RowF (wr.alloc (.cells #[] 50)) wr.heap.size (.slice (some ⟨wr.heap.size, 0, none⟩) 0 0) [] := World.ownsRow_made (base := wr.heap.size) (e := 50) (size := 10) wr #[] 0 (Nat.le_refl _) (by unfold maxLen; omega) rfl
      obtain ⟨v', w', hr, h2, h3⟩ := fcopy_run ho (by simp) ((HV.out.rd k hlt).below hb0) (HV.out.nil k hlt) (by simpa using HV.out.len k hlt)
      simp only [List.nil_append] at h2
      have hbn : Below wr.heap.size wr w' := (al1 wr (.cells #[] 50)).trans (h3.below (fun j hj => Nat.lt_of_lt_of_le hj (al1 wr (.cells #[] 50)).size) (fun j hj => by cases hj; exact Nat.le_refl _))
      have HS : Hid (Cop w (w'.setCell ⟨w.heap.size, k, none⟩ v') 41 V L (k + 1) (fun i => if i = k then v' else vs i)) := HC.out.step (by decide) hlt hbn h2
      have cx : (wr.alloc (.cells #[] 50)).cell? ⟨w.heap.size, k, none⟩ = some (.slice (V.a k) (L k).length (V.c k)) := by
        have := HC1.out.box.cell1 k _ (cells7_get _ k hlt)
        rw [if_neg (by omega)] at this
        exact this
      have lx := HC1.out.box.lt
      have c2 := (HC.out.below hbn).box.cell1 k _ (cells7_get _ k hlt)
      have f2 := (HC.out.below hbn).box.frozen k
      have l2 := (HC.out.below hbn).box.lt
      obtain ⟨va, vc, hv⟩ := row_slice h2
      subst hv
      generalize (L k).length = n at hr cx HS c2 f2
      clear ho h2 h3 hbn hb0
      go_wp2_with (at_builtin; refine Lib.wpList_append_run _ rfl _ _ _ _ rfl _ _ rfl rfl _ _ hr ?_)
      go_roundw
      case rel => exact ⟨k + 1, _, by omega, by go_num, HS.out⟩
      case measure => simp [intOf]; omega
    · obtain rfl : k = 7 := by omega
      obtain ⟨V', hvs, HO⟩ := HC.out.own
      have hbx : Blk wr w.heap.size 41 (cells7 (vsl V' L)) := by
        have := HC.out.box
        rw [cells7_congr (g := vsl V' L) (fun i hi => by rw [if_pos hi, hvs i hi])] at this
        exact this
      have HB : Hid (Below w.heap.size w wr) := HC.out.bel
      have hrs := HC.out.res
      have hl2 := hrs.lt
      have b0 := hbx.cell1 0 _ rfl
      have b1 := hbx.cell1 1 _ rfl
      have b2 := hbx.cell1 2 _ rfl
      have b3 := hbx.cell1 3 _ rfl
      have b4 := hbx.cell1 4 _ rfl
      have b5 := hbx.cell1 5 _ rfl
      have b6 := hbx.cell1 6 _ rfl
      have r0 := hrs.cell1 0 _ rfl
      have r1 := hrs.cell1 1 _ rfl
      have r2 := hrs.cell1 2 _ rfl
      have r3 := hrs.cell1 3 _ rfl
      have r4 := hrs.cell1 4 _ rfl
      have r5 := hrs.cell1 5 _ rfl
      have r6 := hrs.cell1 6 _ rfl
      have f0 := hrs.frozen 0
      have f1 := hrs.frozen 1
      have f2 := hrs.frozen 2
      have f3 := hrs.frozen 3
      have f4 := hrs.frozen 4
      have f5 := hrs.frozen 5
      have f6 := hrs.frozen 6
      have HO' : Hid (OwnV wr (w.heap.size + 2) V' L) := HO
      clear HO hvs hbx hrs HC
      go_wp2
      refine bodyPost_ret (v := .agg (verA V' L)) (by simp [results, Try.results17, go_sem, *]) rfl ⟨V', rfl, ?_, ?_⟩
      · exact HO'.out.upd (upd7 _ _ _ _ _ _ _ _ _) (fun j hj => by omega)
      · exact Upd.bel HB.out (upd7 _ _ _ _ _ _ _ _ _) (fun j hj => by omega) HB.out.size
end Go.Proofs.Ytkmpcheamdadcaa
