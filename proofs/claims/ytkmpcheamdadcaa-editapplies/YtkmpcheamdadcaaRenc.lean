import Derived.Test.YtkmpcheamdadcaaRfx
import Derived.WalkKit
import Derived.WalkSpells
import Derived.WalkLawsBesides
import Derived.Deep.RegionHeldLaw
namespace Go.Proofs.Ytkmpcheamdadcaa
open Go.RowKit
set_option linter.unusedVariables false
set_option linter.unusedSimpArgs false

theorem rencode_no (u : ByteArray) (s k : Int) (w : World) (h : checkV u s k ≠ 0) :
    Calls Try.prog 74 #[.agg #[.string u, .int .u64 s, .int .i64 k]] w fun e w' => e = .returned (.tuple #[.slice none 0 0, .int .i64 (checkV u s k)]) ∧ Below w.heap.size w w' := by
  have hb : (checkV u s k != 0) = true := by simpa using h
  clear h
  go_enter Try.func74, Try.ntmps74
  go_wp2_with (go_at_call 94; refine (rcheck_any u s k _).mono ?_; rintro e w' ⟨rfl, rfl⟩)
  go_ret2
  exact ⟨rfl, ((Below.refl _ _).alloc (Nat.le_refl _) _).alloc (by simp) _⟩
theorem rfixed8' (n : Int) (w : World) (h0 : 0 ≤ n) (h1 : n < 18446744073709551616) :
    Calls Try.prog 98 #[.int .u64 n, .int .i64 8] w fun e w' => ∃ bb cc off, e = .returned (.slice (some ⟨bb, off, none⟩) 8 cc) ∧ OwnB w' w.heap.size (.slice (some ⟨bb, off, none⟩) 8 cc) (byts 8 n) ∧ Below w.heap.size w w' := by
  refine (rfixed_any 8 (by decide) n w h0 h1).mono ?_
  rintro e w' ⟨v, rfl, ho, hb⟩
  obtain ⟨b, off, cap, rfl⟩ := ho.form (by rw [byts_len]; decide)
  rw [byts_len] at ho ⊢
  exact ⟨b, cap, off, rfl, ho, hb⟩
theorem src_own' {w : World} {base b off c : Nat} {l : List Int} (h : OwnB w base (.slice (some ⟨b, off, none⟩) 8 c) l) : Src Try.prog 1 28 (.slice (some ⟨b, off, none⟩) 8 c) l.length (bc l) w := by
  have e := h.cells.1
  have := Src.ofSlice (P := Try.prog) w (size := 1) Try.underlying28 ⟨b, off, none⟩ 8 c (bc l) (by rw [bc_len]; omega) h.news (bc_one l)
  rwa [e] at this ⊢
theorem or_kind (s k : Int) (h0 : 0 ≤ s) (h1 : s ≤ 72057594037927935) (k0 : 0 ≤ k) (k1 : k ≤ 2) : bits .or .u64 (s * 256) k = s * 256 + k := by
  rw [bits_join .u64 64 (by decide) wraps_u64 8 _ _ (by omega) (by omega) (by omega) (by omega) (by omega) (by omega)]

set_option maxRecDepth 100000 in
set_option maxHeartbeats 3200000 in
theorem rencode_yes (u : ByteArray) (s k : Int) (w : World) (h : checkV u s k = 0) (hs : 0 ≤ s) :
    Calls Try.prog 74 #[.agg #[.string u, .int .u64 s, .int .i64 k]] w fun e w' => ∃ v, e = .returned (.tuple #[v, .int .i64 0]) ∧ OwnB w' w.heap.size v (sb u ++ byts 8 (s * 256 + k)) ∧ Below w.heap.size w w' := by
  have hb : (checkV u s k != 0) = false := by simpa using h
  have hk : 0 ≤ k ∧ k ≤ 2 ∧ s ≤ 72057594037927935 ∧ u.size ≤ 1024 := by
    unfold checkV at h
    split at h
    · cases h
    · split at h
      · cases h
      · omega
  obtain ⟨hk0, hk1, hs1, hu⟩ := hk
  clear h
  obtain ⟨i0, hi, hz0, hz1, hz2⟩ := info_parts info5
  have hum : u.size ≤ maxLen := by unfold maxLen; omega
  have hcv := cvt u
  have hcs := cvW_size u
  have hcc := cvW_cell u
  have e1 : IntKind.u64.wrap (s * 256) = s * 256 := by rw [IntKind.wrap_u64]; omega
  have e2 : IntKind.u64.wrap k = k := by rw [IntKind.wrap_u64]; omega
  have e3 : bits .or .u64 (s * 256) k = s * 256 + k := or_kind s k hs hs1 hk0 hk1
  go_enter Try.func74, Try.ntmps74
  go_wp2_with (go_at_call 94; refine (rcheck_any u s k _).mono ?_; rintro e w' ⟨rfl, rfl⟩)
  go_region_held_law (fun w' => w'.cell? ⟨w.heap.size, 0, none⟩ = some (.string u) ∧ w'.cell? ⟨w.heap.size, 1, none⟩ = some (.int .u64 s) ∧ w'.cell? ⟨w.heap.size, 2, none⟩ = some (.int .i64 k))
   (first
      | (go_keep; done)
      | (refine keepS (cvW_below u _) ?_ ?_ <;> (first | assumption | (simp; omega) | (simp at hsz2 ⊢; omega)))
      | (refine keepS hbel2 ?_ ?_ <;> (first | assumption | (simp [hcs]; omega)))
      | (refine keepG hgrow ?_ ?_ ?_ <;> (first | assumption | (simp [hcs] at hsz2 ⊢; omega) | (simp [cvV, Value.ownBlock]; omega) | (simp [cvV, Value.ownBlock]; simp at hsz2; omega))))
   (first
      | (go_at_call 98; refine (rfixed8' _ _ (by omega) (by omega)).mono ?_; rintro e w2 ⟨bb, cc, off, rfl, hown2, hbel2⟩; have hc2 := bcell hbel2; have hsz2 := hbel2.size)
      | (refine OwnB.step_append (by rfl) _ _ _ _ (by rfl) (by rfl) (base := w.heap.size) (l := sb u) (v := cvV _ u) (by first | (refine ((cvW_own u _ hum).mono ?_).below hbel2 (Nat.le_refl _); simp; omega) | (refine (cvW_own u _ hum).mono ?_; simp at hsz2; omega)) i0 Try.underlying28 hi hz0 hz1 hz2 _ (by rfl) (byts 8 (s * 256 + k)) (by first | exact src_own' hown2 | exact src_own' (hown2.below (cvW_below u _) (Nat.le_refl _))) (by simp [hcs] at hsz2 ⊢; omega) (by rw [byts_len, sb_len]; omega) ?_; intro v' w1 hown hgrow hat))
  · go_wp2
    go_ret2
    refine ⟨v', by simp, hown, ?_⟩
    have b0 : Below w.heap.size w ((w.alloc (.cells #[.string u, .int .u64 s, .int .i64 k] 48)).alloc (.cells #[.string u, .int .u64 s, .int .i64 k] 48)).drew := (((Below.refl _ _).alloc (Nat.le_refl _) _).alloc (by simp) _).drew
    refine ((b0.trans ((cvW_below u _).mono (by simp; omega))).trans (hbel2.mono (by simp [hcs]; omega))).grown hgrow (by simp [hcs] at hsz2; omega) ?_
    intro k hk
    simp [cvV, Value.ownBlock] at hk
    omega
  · go_wp2
    go_ret2
    refine ⟨v', by simp, hown, ?_⟩
    have b0 : Below w.heap.size w ((w.alloc (.cells #[.string u, .int .u64 s, .int .i64 k] 48)).alloc (.cells #[.string u, .int .u64 s, .int .i64 k] 48)).drew := (((Below.refl _ _).alloc (Nat.le_refl _) _).alloc (by simp) _).drew
    simp at hsz2
    refine ((b0.trans (hbel2.mono (by simp; omega))).trans ((cvW_below u _).mono (by omega))).grown hgrow (by simp [hcs]; omega) ?_
    intro k hk
    simp [cvV, Value.ownBlock] at hk
    omega
end Go.Proofs.Ytkmpcheamdadcaa
