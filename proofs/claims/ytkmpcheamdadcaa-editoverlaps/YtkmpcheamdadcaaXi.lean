/-
  The law EditOverlaps, walked.
-/
import Derived.Test.YtkmpcheamdadcaaXh
import Derived.Deep.RegionHeldLaw
import Derived.BigQuiet
namespace Go.Proofs.Ytkmpcheamdadcaa
open Go.RowKit
set_option linter.unusedVariables false
set_option linter.unusedSimpArgs false
/-- What is asked. -/
structure Ak where
  lv : Int
  b : ByteArray
  e : ByteArray
instance : Inhabited Ak := ⟨⟨0, ByteArray.empty, ByteArray.empty⟩⟩
def Ak.c (x : Ak) : List Value := [.int .i64 x.lv, .string x.b, .string x.e]
theorem ak_k : ∀ x : Ak, x.c.length = 3 := fun _ => rfl
abbrev RdK (w : World) (a : Option Addr) (l : List Ak) : Prop := Rd Ak.c 3 w a l
theorem At.k {w : World} {g o : Nat} {x : Ak} (h : At Ak.c w g o x) : w.cell? ⟨g, o, none⟩ = some (.int .i64 x.lv) ∧ w.cell? ⟨g, o + 1, none⟩ = some (.string x.b) ∧ w.cell? ⟨g, o + 2, none⟩ = some (.string x.e) := ⟨h 0 _ rfl, h 1 _ rfl, h 2 _ rfl⟩
set_option maxRecDepth 100000 in
set_option maxHeartbeats 2000000 in
theorem overlaps_walk {w : World} {V : Vn} {L : Nat → List Fi} (h : RdV w V L) {a : Option Addr} {cap : Nat} {l : List Ak} (hr : RdK w a l) (hl : l.length * 40 ≤ 140737488355328) (how : Int) :
    Calls Try.prog 7 #[.int .i64 how, .agg (verA V L), .slice a l.length cap] w fun e w' => e = .returned (.bool true) ∧ Below w.heap.size w w' := by
  have HV : Hid (RdV w V L) := h
  have HR : Hid (RdK w a l) := hr
  have HLv := fun w => lives_any w
  have HBx : Hid (∀ W, Below (w.alloc (.cells (verA V L) 41)).heap.size (w.alloc (.cells (verA V L) 41)) W → ∀ k, k < 7 → W.cell? ⟨w.heap.size, k, none⟩ = some (vsl V L k)) := fun W hb k hk => verK hb k hk
  obtain ⟨N, hN⟩ : ∃ N, Hid (l.length = N) := ⟨_, rfl⟩
  rw [hN.out] at hl ⊢
  obtain ⟨W1, hW1⟩ : ∃ W1, Hid (w.alloc (.cells (verA V L) 41) = W1) := ⟨_, rfl⟩
  rw [hW1.out] at HBx
  have HB1 : Hid (Below w.heap.size w W1) := by show Below _ _ _; rw [← hW1.out]; exact al1 _ _
  clear h hr
  go_enter Try.func7, Try.ntmps7
  go_wp2_with fail
  rw [hW1.out]
  go_loopw [7] (fun i wr => ∃ k : Nat, k ≤ N ∧ i = .int .i64 k ∧ Hid (Below W1.heap.size W1 wr)) (fun i _ => ((N : Int) - intOf i).toNat)
  case atStart => exact ⟨0, Nat.zero_le _, rfl, Below.refl _ _⟩
  case round =>
    obtain ⟨k, hk, rfl, HB⟩ := hrel
    rcases Nat.lt_or_ge k N with hkN | hkN
    · have hkz : (k : Int) < (N : Int) := by omega
      obtain ⟨x, hx⟩ : ∃ x, l[k]? = some x := ⟨_, List.getElem?_eq_getElem (by rw [hN.out]; exact hkN)⟩
      obtain ⟨ga, oa, e', hat⟩ := (HR.out.below (bstep HB1.out HB.out)).at_ hx
      subst e'
      obtain ⟨q0, q1, q2⟩ := hat.k
      have HA : Hid (∀ W, Below wr.heap.size wr W → W.cell? ⟨ga, oa + k * 3, none⟩ = some (.int .i64 x.lv) ∧ W.cell? ⟨ga, oa + k * 3 + 1, none⟩ = some (.string x.b) ∧ W.cell? ⟨ga, oa + k * 3 + 2, none⟩ = some (.string x.e) ∧
          W.cell? ⟨w.heap.size, 0, none⟩ = some (vsl V L 0) ∧ W.cell? ⟨w.heap.size, 1, none⟩ = some (vsl V L 1) ∧ W.cell? ⟨w.heap.size, 2, none⟩ = some (vsl V L 2) ∧ W.cell? ⟨w.heap.size, 3, none⟩ = some (vsl V L 3) ∧ W.cell? ⟨w.heap.size, 4, none⟩ = some (vsl V L 4) ∧ W.cell? ⟨w.heap.size, 5, none⟩ = some (vsl V L 5) ∧ W.cell? ⟨w.heap.size, 6, none⟩ = some (vsl V L 6)) := fun W hb => by
        have hb7 := HBx.out W (bstep HB.out hb)
        exact ⟨cell_below hb q0, cell_below hb q1, cell_below hb q2, hb7 0 (by decide), hb7 1 (by decide), hb7 2 (by decide), hb7 3 (by decide), hb7 4 (by decide), hb7 5 (by decide), hb7 6 (by decide)⟩
      obtain ⟨c0, c1, c2, b0, b1, b2, b3, b4, b5, b6⟩ := HA.out wr (Below.refl _ _)
      have HCp : Hid (∀ W, Below wr.heap.size wr W → Calls Try.prog 17 #[.agg (verA V L)] W fun e w' => ∃ V', e = .returned (.agg (verA V' L)) ∧ RdV w' V' L ∧ Below W.heap.size W w') := fun W hb => by
        have hv := ((HV.out.below HB1.out).below HB.out).below hb
        exact (copied_any hv).mono fun e w' ⟨V', h1, h2, h3⟩ => ⟨V', h1, h2.rdv hv.len hv.ok, h3⟩
      clear hx hat q0 q1 q2
      go_wp2_with fail
      go_region_held_law (fun w' => w'.cell? ⟨ga, oa + k * 3, none⟩ = some (.int .i64 x.lv) ∧ w'.cell? ⟨ga, oa + k * 3 + 1, none⟩ = some (.string x.b) ∧ w'.cell? ⟨ga, oa + k * 3 + 2, none⟩ = some (.string x.e) ∧ w'.cell? ⟨w.heap.size, 0, none⟩ = some (vsl V L 0) ∧ w'.cell? ⟨w.heap.size, 1, none⟩ = some (vsl V L 1) ∧ w'.cell? ⟨w.heap.size, 2, none⟩ = some (vsl V L 2) ∧ w'.cell? ⟨w.heap.size, 3, none⟩ = some (vsl V L 3) ∧ w'.cell? ⟨w.heap.size, 4, none⟩ = some (vsl V L 4) ∧ w'.cell? ⟨w.heap.size, 5, none⟩ = some (vsl V L 5) ∧ w'.cell? ⟨w.heap.size, 6, none⟩ = some (vsl V L 6))
        (first
          | (go_keep; done)
          | exact HA.out _ (bstep (bstep (Below.refl _ _).drew hb7) hb8)
          | exact HA.out _ (bstep (Below.refl _ _).drew hb7))
        (first
          | (go_at_call 17; refine (HCp.out _ (Below.refl _ _).drew).mono ?_; rintro e w7 ⟨V7, rfl, hv7, hb7⟩)
          | (go_at_call 30; refine (overlaps_any hv7 how x.lv x.b x.e).mono ?_; rintro e w8 ⟨a8, p8, rfl, hb8, hr8⟩))
      have HB8 : Hid (Below wr.heap.size wr w8) := bstep (bstep (Below.refl _ _).drew hb7) hb8
      have HV8 : Hid (RdV w8.drew V L) := ((((HV.out.below HB1.out).below HB.out).below HB8.out).below (Below.refl _ _).drew)
      have HR8 : Hid (RdF w8 a8 (ovL how x.lv L x.b x.e)) := hr8
      clear c0 c1 c2 b0 b1 b2 b3 b4 b5 b6 hr8 hb8 hb7 hv7 HCp
      obtain ⟨c0, c1, c2, b0, b1, b2, b3, b4, b5, b6⟩ := HA.out w8 HB8.out
      go_wp2_with fail
      go_region_held_law (fun w' => w'.cell? ⟨ga, oa + k * 3, none⟩ = some (.int .i64 x.lv) ∧ w'.cell? ⟨ga, oa + k * 3 + 1, none⟩ = some (.string x.b) ∧ w'.cell? ⟨ga, oa + k * 3 + 2, none⟩ = some (.string x.e) ∧ w'.cell? ⟨w.heap.size, 0, none⟩ = some (vsl V L 0) ∧ w'.cell? ⟨w.heap.size, 1, none⟩ = some (vsl V L 1) ∧ w'.cell? ⟨w.heap.size, 2, none⟩ = some (vsl V L 2) ∧ w'.cell? ⟨w.heap.size, 3, none⟩ = some (vsl V L 3) ∧ w'.cell? ⟨w.heap.size, 4, none⟩ = some (vsl V L 4) ∧ w'.cell? ⟨w.heap.size, 5, none⟩ = some (vsl V L 5) ∧ w'.cell? ⟨w.heap.size, 6, none⟩ = some (vsl V L 6))
        (first
          | (go_keep; done)
          | exact HA.out _ (bstep HB8.out (bstep (Below.refl _ _).drew hb9)))
        ((go_at_call 31; refine (roverlaps_any HV8.out how x.lv x.b x.e).mono ?_; rintro e w9 ⟨a9, p9, rfl, hb9, hr9⟩))
      have HB9 : Hid (Below w8.heap.size w8 w9) := bstep (Below.refl _ _).drew hb9
      have HR9 : Hid (RdF w9 a8 (ovL how x.lv L x.b x.e) ∧ RdF w9 a9 (ovL how x.lv L x.b x.e)) := ⟨HR8.out.below HB9.out, hr9⟩
      have HBn : Hid (Below W1.heap.size W1 w9) := bstep (bstep HB.out HB8.out) HB9.out
      have HLo : Hid ((ovL how x.lv L x.b x.e).length * 96 ≤ 140737488355328) := ovl_len HV.out how x.lv x.b x.e
      clear c0 c1 c2 b0 b1 b2 b3 b4 b5 b6 hr9 hb9 HA HR8 HV8 HB8 HB9
      generalize ovL how x.lv L x.b x.e = lo at *
      generalize ovC how x.lv = C at *
      obtain ⟨M, hM⟩ : ∃ M, Hid (lo.length = M) := ⟨_, rfl⟩
      have hMl : M * 96 ≤ 140737488355328 := by rw [← hM.out]; exact HLo.out
      rw [hM.out]
      go_wp2_with fail
      go_loopw [12] (fun i w2 => ∃ j : Nat, j ≤ M ∧ i = .int .i64 j ∧ Hid (Below w9.heap.size w9 w2)) (fun i _ => ((M : Int) - intOf i).toNat)
      case atStart => exact ⟨0, Nat.zero_le _, rfl, Below.refl _ _⟩
      case round =>
        obtain ⟨j, hj, rfl, HI⟩ := hrel
        rcases Nat.lt_or_ge j M with hjM | hjM
        · have hjz : (j : Int) < (M : Int) := by omega
          obtain ⟨f, hf⟩ : ∃ f, lo[j]? = some f := ⟨_, List.getElem?_eq_getElem (by rw [hM.out]; exact hjM)⟩
          obtain ⟨gg, og, e1, hat1⟩ := (HR9.out.1.below HI.out).at_ hf
          obtain ⟨gh, oh, e2, hat2⟩ := (HR9.out.2.below HI.out).at_ hf
          subst e1
          subst e2
          obtain ⟨t0, t1, t2, t3, t4, t5, t6, t7, t8, t9⟩ := hat1.f
          obtain ⟨y0, y1, y2, y3, y4, y5, y6, y7, y8, y9⟩ := hat2.f
          have hq := fun w => neqf_self f w
          have HJ : Hid (∀ n, Below w9.heap.size w9 (wr.drewN n)) := fun n => ⟨HI.out.os, HI.out.tape, HI.out.output, HI.out.size, HI.out.block⟩
          clear hf hat1 hat2 HI
          go_wp2_with fail
          go_quiet (fail)
          go_wp2_with fail
          go_roundw
          case rel => exact ⟨j + 1, by omega, by go_num, HJ.out _⟩
          case measure => simp [intOf]; omega
        · obtain rfl : j = M := by omega
          have hz : ¬ ((j : Int) < j) := by omega
          have HBn' : Hid (Below W1.heap.size W1 wr) := bstep HBn.out HI.out
          clear HI
          go_wp2_with fail
          go_roundw
          case rel => exact ⟨k + 1, by omega, by go_num, HBn'⟩
          case measure => simp [intOf]; omega
    · obtain rfl : N = k := by omega
      have hz : ¬ ((N : Int) < N) := by omega
      go_wp2_with (go_at_call 14; refine (HLv _).mono ?_; rintro e w9 ⟨rfl, hb9⟩)
      go_ret
      exact ⟨rfl, bstep (bstep HB1.out HB.out) hb9⟩
end Go.Proofs.Ytkmpcheamdadcaa
