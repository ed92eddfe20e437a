import Derived.Test.YtkpijoogaicodaaBd
namespace Go.Proofs.Ytkpijoogaicodaa
open Go.RowKit
set_option linter.unusedVariables false
set_option linter.unusedSimpArgs false

theorem rvar_len (n : Int) (w : World) (h0 : 0 ≤ n) (h1 : n < 18446744073709551616) :
    Calls Try.prog 34 #[.int .u64 n] w fun e w' => ∃ a cap, e = .returned (.slice a (vs n) cap) ∧ Below w.heap.size w w' := by
  refine (rvarint_any n w h0 h1).mono ?_
  rintro e w' ⟨v, rfl, ho, hb⟩
  obtain ⟨a, cap, rfl⟩ := ho.len
  exact ⟨a, cap, rfl, hb⟩
set_option maxRecDepth 100000 in
set_option maxHeartbeats 2000000 in
theorem refSize_any (f k : Int) (key val : ByteArray) (w : World) (f0 : 0 ≤ f) (f1 : f < 4294967296) (hk : key.size ≤ 100000) (hv : ¬ k = 0 → val.size ≤ 100000) :
    Calls Try.prog 24 #[recV f k key val] w fun e w' => e = .returned (.int .i64 (rsz f k key val)) ∧ Below w.heap.size w w' := by
  have b1 := vs_bd f
  have b2 := vs_bd key.size
  have b3 := vs_bd val.size
  have C1 := fun w => rvar_len f w f0 (by omega)
  have C2 := fun w => rvar_len key.size w (by omega) (by omega)
  have C3 := fun (h : ¬ k = 0) w => rvar_len val.size w (by omega) (by have := hv h; omega)
  obtain ⟨R, hR⟩ : ∃ R, rsz f k key val = R := ⟨_, rfl⟩
  rw [hR]
  unfold rsz ts at hR
  generalize vs f = a at *
  generalize vs key.size = b at *
  generalize vs val.size = c at *
  have HR : Hid (1 + a + (b + key.size) + (if k = 0 then 0 else c + val.size) = R) := hR
  have e1 : IntKind.u64.wrap f = f := by rw [IntKind.wrap_u64]; omega
  have e2 : IntKind.u64.wrap (key.size : Int) = key.size := by rw [IntKind.wrap_u64]; omega
  clear hR
  go_enter Try.func24, Try.ntmps24
  go_wp2
  go_cut [3] (fun t wc => t = .int .i64 (1 + a + b + key.size) ∧ Below w.heap.size w wc ∧ RBox w.heap.size f k key val wc ∧ w.heap.size < wc.heap.size)
  case first =>
    go_region_held_law (fun w' => w'.cell? ⟨w.heap.size, 0, none⟩ = some (.int .u32 f) ∧ w'.cell? ⟨w.heap.size, 1, none⟩ = some (.int .i64 k) ∧ w'.cell? ⟨w.heap.size, 2, none⟩ = some (.string key) ∧ w'.cell? ⟨w.heap.size, 3, none⟩ = some (.string val))
      (first
        | (go_keep; done)
        | (refine rkeep hb1 ?_ ?_ <;> (first | assumption | (simp; omega) | (simp; done) | exact rnew _ _ _ _ _))
        | (refine rkeep hb2 ?_ ?_ <;> (first | assumption | (simp; omega) | (simp; done) | exact rnew _ _ _ _ _)))
      (first
        | (go_at_call_of 34 (Value.int IntKind.u64 f); refine (C1 _).mono ?_; rintro e w2 ⟨a1, cp1, rfl, hb1⟩; have hz1 : w.heap.size < w2.heap.size := (by have := hb1.size; first | omega | (simp at this; omega)))
        | (go_at_call_of 34 (Value.int IntKind.u64 (key.size : Int)); refine (C2 _).mono ?_; rintro e w3 ⟨a2, cp2, rfl, hb2⟩; have hz2 : w.heap.size < w3.heap.size := (by have := hb2.size; first | omega | (simp at this; omega))))
    go_wp2
    go_meet
    case rel => exact ⟨val_i (by rw [w64 (1 + a) (by omega) (by omega), w64 (1 + a + b) (by omega) (by omega), w64 _ (by omega) (by omega)]), bstep (bstep ((Below.refl _ _).alloc (Nat.le_refl _) _).drew hb1) hb2, by assumption, hz2⟩
  case rest =>
    obtain ⟨rfl, hb, ⟨c0, c1, c2, c3⟩, hz⟩ := hcut
    by_cases hk0 : k = 0
    · have tk : (k != 0) = false := by simpa using hk0
      have HK : Hid (k = 0) := hk0
      clear hk0 C3
      go_wp2
      go_ret
      exact ⟨ret_ii (by rw [← HR.out, if_pos HK.out]; omega), hb⟩
    · have tk : (k != 0) = true := by simpa using hk0
      have HK : Hid (¬ k = 0) := hk0
      have C4 := C3 hk0
      have hv1 := hv hk0
      have e3 : IntKind.u64.wrap (val.size : Int) = val.size := by rw [IntKind.wrap_u64]; omega
      clear hk0 C3
      go_wp2
      go_region_held_law (fun w' => w'.cell? ⟨w.heap.size, 3, none⟩ = some (.string val))
        (first
          | (go_keep; done)
          | (refine (hb4.cell (p := ⟨w.heap.size, 3, none⟩) ?_).trans ?_ <;> (first | assumption | (simp; omega) | (simp; done))))
        ((go_at_call 34; refine (C4 _).mono ?_; rintro e w4 ⟨a4, cp4, rfl, hb4⟩))
      go_wp2
      go_ret
      exact ⟨ret_ii (by rw [← HR.out, if_neg HK.out]; (try rw [w64 (1 + a + b + key.size + c) (by omega) (by omega)]); (try rw [w64 _ (by omega) (by omega)]); omega), bstep hb.drew hb4⟩
end Go.Proofs.Ytkpijoogaicodaa
