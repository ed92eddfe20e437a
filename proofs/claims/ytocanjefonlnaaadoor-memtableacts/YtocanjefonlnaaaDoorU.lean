import Derived.Test.YtocanjefonlnaaaDoorR
namespace Go.Proofs.YtocanjefonlnaaaDoor
open Go.RowKit
set_option linter.unusedVariables false
set_option linter.unusedSimpArgs false
set_option maxRecDepth 100000 in
set_option maxHeartbeats 2000000 in
theorem reckon_any {w : World} {T : Nat} {C : Tc} {g : Nat → Value} (h : Blk w T 72 (tbC C g)) {R : List Tm} (hr : w.ownsRow 0 81 3 C.rv R.length (tcs R)) (hR : R.length ≤ 10000) (h0 : 0 ≤ C.cnt) (h1 : C.cnt ≤ 10000) (s0 : 0 ≤ C.sz) (s1 : C.sz ≤ 1000000000)
    (seq f k : Int) (key val : ByteArray) (hk : key.size ≤ 100000) (hv : val.size ≤ 100000) :
    Calls Tryd.prog 33 #[ptr T, .int .u64 seq, recV f k key val] w fun e w' => e = .returned (.tuple #[]) ∧ Blk w' T 72 (tbC { C with sz := C.sz + (key.size + val.size + 16), fi := min (if C.cnt + R.length = 1 then seq else C.fi) seq, la := max C.la seq } g) ∧ Upd (fun k => k = T) w w' := by
  have hb0 : Below w.heap.size w (w.alloc (.cells #[.int .u32 f, .int .i64 k, .string key, .string val] 36)) := (Below.refl _ _).alloc (Nat.le_refl _) _
  have B0 : Blk (w.alloc (.cells #[.int .u32 f, .int .i64 k, .string key, .string val] 36)) w.heap.size 36 (rbox f k key val) := Blk.new w 36 _
  have hT : T < w.heap.size := h.lt
  have HL : Hid (∀ W, Below w.heap.size w W → Calls Tryd.prog 18 #[ptr T] W fun e w' => e = .returned (.int .i64 (C.cnt + R.length)) ∧ w' = W.drew) := fun W hb => len_any (h.upd (S := Non) (Upd.ofBelow hb) (fun x => x)) (row_upd hr (S := Non) (Upd.ofBelow hb) (fun _ _ x => x)) (by omega) h0 (by omega)
  have H : Hid (Blk w T 72 (tbC C g)) := h
  obtain ⟨N, hN⟩ : ∃ N, C.cnt + (R.length : Int) = N := ⟨_, rfl⟩
  rw [hN] at HL ⊢
  obtain ⟨FI, hFI⟩ : ∃ FI, Hid (min (if N = 1 then seq else C.fi) seq = FI) := ⟨_, rfl⟩
  obtain ⟨LA, hLA⟩ : ∃ LA, Hid (max C.la seq = LA) := ⟨_, rfl⟩
  rw [hFI.out, hLA.out]
  clear h hr hN
  obtain ⟨ci, hci⟩ : ∃ ci, Hid (C.fi = ci) := ⟨_, rfl⟩
  obtain ⟨cl, hcl⟩ : ∃ cl, Hid (C.la = cl) := ⟨_, rfl⟩
  obtain ⟨cz, hcz⟩ : ∃ cz, Hid (C.sz = cz) := ⟨_, rfl⟩
  rw [hcz.out] at s0 s1
  have BT : Blk (w.alloc (.cells #[.int .u32 f, .int .i64 k, .string key, .string val] 36)) T 72 (tbC C g) := H.out.upd (S := Non) (Upd.ofBelow hb0) (fun x => x)
  go_enter Tryd.func33, Tryd.ntmps33
  go_upto_region 1 with fail
  obtain ⟨W0, hW0⟩ : ∃ W0, W0 = w.alloc (.cells #[.int .u32 f, .int .i64 k, .string key, .string val] 36) := ⟨_, rfl⟩
  rw [← hW0] at hb0 B0 BT ⊢
  clear hW0
  have c2 : W0.drew.cell? ⟨w.heap.size, 2, none⟩ = some (.string key) := B0.cell1 2 _ rfl
  have c3 : W0.drew.cell? ⟨w.heap.size, 3, none⟩ = some (.string val) := B0.cell1 3 _ rfl
  have t19 : W0.drew.cell? ⟨T, 19, none⟩ = some (.int .i64 cz) := by rw [← hcz.out]; exact BT.cell1 19 _ rfl
  have t20 : W0.drew.cell? ⟨T, 20, none⟩ = some (.int .u64 ci) := by rw [← hci.out]; exact BT.cell1 20 _ rfl
  have t21 : W0.drew.cell? ⟨T, 21, none⟩ = some (.int .u64 cl) := by rw [← hcl.out]; exact BT.cell1 21 _ rfl
  have f19 : W0.drew.frozen? ⟨T, 19, none⟩ = false := BT.frozen 19
  have f20 : W0.drew.frozen? ⟨T, 20, none⟩ = false := BT.frozen 20
  have f21 : W0.drew.frozen? ⟨T, 21, none⟩ = false := BT.frozen 21
  have HB0 : Hid (Below w.heap.size w W0) := hb0
  have HBT : Hid (Blk W0 T 72 (tbC C g)) := BT
  have HLc := HL.out W0 hb0
  have hTn : T ≠ w.heap.size := by omega
  clear B0 BT hb0 HL
  obtain ⟨W1, hW1⟩ : ∃ W1, W0.drew = W1 := ⟨_, rfl⟩
  rw [hW1] at c2 c3 t19 t20 t21 f19 f20 f21 HLc
  have HBT1 : Hid (Blk W1 T 72 (tbC C g)) := by show Blk W1 _ _ _; rw [← hW1]; exact HBT.out
  have HB1 : Hid (Below w.heap.size w W1) := by show Below _ _ W1; rw [← hW1]; exact HB0.out.drew
  clear hW1 HBT HB0
  have hw1 : IntKind.i64.wrap ((key.size : Int) + (val.size : Int)) = (key.size : Int) + (val.size : Int) := by rw [IntKind.wrap_i64]; omega
  have hw2 : IntKind.i64.wrap ((key.size : Int) + (val.size : Int) + 16) = (key.size : Int) + (val.size : Int) + 16 := by rw [IntKind.wrap_i64]; omega
  have hw3 : IntKind.i64.wrap (cz + ((key.size : Int) + (val.size : Int) + 16)) = cz + ((key.size : Int) + (val.size : Int) + 16) := by rw [IntKind.wrap_i64]; omega
  by_cases hn1 : N = 1
  · have hnb : (N == 1) = true := by simp [hn1]
    have HN1 : Hid (N = 1) := hn1
    clear hn1
    go_wp2_with (go_at_call 18; refine HLc.mono ?_; rintro e w2 ⟨rfl, hw2⟩; subst hw2)
    go_region
    all_goals go_wp2_with fail
    all_goals
      go_region
      go_wp2_with fail
      go_end0
      refine ⟨rfl, ?_, ?_⟩
      · first
          | (have eF : FI = seq := by (rw [← hFI.out, if_pos HN1.out]; omega)
             have eL : LA = seq := by (rw [← hLA.out, hcl.out]; omega)
             rw [eF, eL, hcz.out]
             exact (((HBT1.out.set 20 _).set 20 _).set 21 _).set 19 _)
          | (have eF : FI = seq := by (rw [← hFI.out, if_pos HN1.out]; omega)
             have eL : LA = cl := by (rw [← hLA.out, hcl.out]; omega)
             rw [eF, eL, hcz.out]
             exact (((HBT1.out.set 20 _).set 20 _).set 21 _).set 19 _)
      · have U0 : Upd (fun k => k = T) w w2 := Upd.ofBelow HB1.out
        exact ((((U0.setCell (p := ⟨T, 20, none⟩) (fun _ => rfl) _).setCell (p := ⟨T, 20, none⟩) (fun _ => rfl) _).setCell (p := ⟨T, 21, none⟩) (fun _ => rfl) _).setCell (p := ⟨T, 19, none⟩) (fun _ => rfl) _).drew.drew
  · have hnb : (N == 1) = false := by simp [hn1]
    have HN1 : Hid (¬ N = 1) := hn1
    clear hn1
    go_wp2_with (go_at_call 18; refine HLc.mono ?_; rintro e w2 ⟨rfl, hw2⟩; subst hw2)
    go_region
    all_goals go_wp2_with fail
    all_goals
      go_region
      go_wp2_with fail
      go_end0
      refine ⟨rfl, ?_, ?_⟩
      · first
          | (have eF : FI = seq := by (rw [← hFI.out, if_neg HN1.out, hci.out]; omega)
             have eL : LA = seq := by (rw [← hLA.out, hcl.out]; omega)
             rw [eF, eL, hcz.out]
             exact ((HBT1.out.set 20 _).set 21 _).set 19 _)
          | (have eF : FI = seq := by (rw [← hFI.out, if_neg HN1.out, hci.out]; omega)
             have eL : LA = cl := by (rw [← hLA.out, hcl.out]; omega)
             rw [eF, eL, hcz.out]
             exact ((HBT1.out.set 20 _).set 21 _).set 19 _)
          | (have eF : FI = ci := by (rw [← hFI.out, if_neg HN1.out, hci.out]; omega)
             have eL : LA = seq := by (rw [← hLA.out, hcl.out]; omega)
             rw [eF, eL, hcz.out]
             exact ((HBT1.out.set 20 _).set 21 _).set 19 _)
          | (have eF : FI = ci := by (rw [← hFI.out, if_neg HN1.out, hci.out]; omega)
             have eL : LA = cl := by (rw [← hLA.out, hcl.out]; omega)
             rw [eF, eL, hcz.out]
             exact ((HBT1.out.set 20 _).set 21 _).set 19 _)
      · have U0 : Upd (fun k => k = T) w w2 := Upd.ofBelow HB1.out
        exact (((U0.setCell (p := ⟨T, 20, none⟩) (fun _ => rfl) _).setCell (p := ⟨T, 21, none⟩) (fun _ => rfl) _).setCell (p := ⟨T, 19, none⟩) (fun _ => rfl) _).drew.drew
end Go.Proofs.YtocanjefonlnaaaDoor
