import Derived.Test.YtkmpcheamdadcaaFix
import Derived.Test.YtkmpcheamdadcaaOb
import Derived.WalkKit
import Derived.WalkSpells
import Derived.WalkLawsBesides
import Derived.Deep.RegionHeldLaw
namespace Go.Proofs.Ytkmpcheamdadcaa
open Go.RowKit
set_option linter.unusedVariables false

theorem info5 : (Try.prog.info? 5).map (fun i => (i.zero, i.size, i.bytes)) = some (some (.int .u8 0), 1, 1) := by kernel_rfl

/-- Where a key can't be. -/
theorem cencode_no (u : ByteArray) (s k : Int) (w : World) (h : checkV u s k ≠ 0) :
    Calls Try.prog 97 #[.agg #[.string u, .int .u64 s, .int .i64 k]] w fun e w' => e = .returned (.tuple #[.slice none 0 0, .int .i64 (checkV u s k)]) ∧ Below w.heap.size w w' := by
  have hb : (checkV u s k != 0) = true := by simpa using h
  clear h
  go_enter Try.func97, Try.ntmps97
  go_wp2_with (go_at_call 89; refine (ccheck_any u s k _).mono ?_; rintro e w' ⟨rfl, rfl⟩)
  go_ret2
  exact ⟨rfl, ((Below.refl _ _).alloc (Nat.le_refl _) _).alloc (by simp) _⟩

/-- What '[]byte(u)' gives, and the world behind it. -/
def cvV (W : World) (u : ByteArray) : Value := .slice (some ⟨W.heap.size, 0, none⟩) u.size (grownCap W u.size 0 5)
def cvW (W : World) (u : ByteArray) : World := W.drew.alloc (.cells (bytesRow u (grownCap W u.size 0 5)) 5 ((bytesRow u (grownCap W u.size 0 5)).size, (bytesRow u (grownCap W u.size 0 5)).size + 1))
theorem cvt (u : ByteArray) (W : World) : (convert 9 28 (.string u)).run Try.prog W = .ok (cvV W u) (cvW W u) :=
  run_bytes_of_string W 9 28 5 u Try.underlying9 Try.underlying28 Try.underlying5
theorem cvW_size (u : ByteArray) (W : World) : (cvW W u).heap.size = W.heap.size + 1 := by simp [cvW]
theorem cvW_cell (u : ByteArray) (W : World) (b o : Nat) (h : b < W.heap.size) : (cvW W u).cell? ⟨b, o, none⟩ = W.cell? ⟨b, o, none⟩ := by
  unfold cvW
  exact World.cell?_alloc_lt W.drew _ ⟨b, o, none⟩ (by simpa using h)
theorem cvW_below (u : ByteArray) (W : World) : Below W.heap.size W (cvW W u) := ((Below.refl _ _).drew).alloc (by simp) _
theorem cvW_own (u : ByteArray) (W : World) (hu : u.size ≤ maxLen) : OwnB (cvW W u) W.heap.size (cvV W u) (sb u) := OwnB.ofString W W.heap.size u (Nat.le_refl _) hu

theorem fxA_bc (s : Nat) (n : Int) : fxA s n s = (bc ((List.range s).map (byteAt n))).toArray := by
  unfold fxA bc
  rw [List.map_map]
  congr 1
  apply List.map_congr_left
  intro i hi
  rw [if_pos (List.mem_range.1 hi)]; rfl
/-- Fixed64's answer, as a slice of the call's own. -/
theorem cfixed64_own (n : Int) (w : World) (h0 : 0 ≤ n) (h1 : n < 18446744073709551616) :
    Calls Try.prog 123 #[.int .u64 n] w fun e w' => ∃ b, e = .returned (.slice (some ⟨b, 0, none⟩) 8 8) ∧ OwnB w' w.heap.size (.slice (some ⟨b, 0, none⟩) 8 8) ((List.range 8).map (byteAt n)) ∧ Below w.heap.size w w' := by
  refine (cfixed64_any n w h0 h1).mono ?_
  rintro e w' ⟨rfl, rfl⟩
  refine ⟨_, rfl, ?_, (Below.refl _ _).alloc (Nat.le_refl _) _⟩
  exact OwnB.ofBlock w w.heap.size ((List.range 8).map (byteAt n)) [] _ (0, 0) (by rw [fxA_bc]; simp) (Nat.le_refl _) (.inl rfl) (by simp [maxLen]) 8 (by simp)
theorem bcell {W w1 : World} (hb : Below W.heap.size W w1) : ∀ b o, b < W.heap.size → w1.cell? ⟨b, o, none⟩ = W.cell? ⟨b, o, none⟩ :=
  fun b o h => hb.cell (p := ⟨b, o, none⟩) h

/-- The box of a key. -/
abbrev Box (B : Nat) (u : ByteArray) (s k : Int) (w : World) : Prop := w.cell? ⟨B, 0, none⟩ = some (.string u) ∧ w.cell? ⟨B, 1, none⟩ = some (.int .u64 s) ∧ w.cell? ⟨B, 2, none⟩ = some (.int .i64 k)
theorem keepS {B : Nat} {u : ByteArray} {s k : Int} {W W' : World} (hb : Below W.heap.size W W') (hlt : B < W.heap.size) (h : Box B u s k W) : Box B u s k W' :=
  ⟨(hb.cell (p := ⟨B, 0, none⟩) hlt).trans h.1, (hb.cell (p := ⟨B, 1, none⟩) hlt).trans h.2.1, (hb.cell (p := ⟨B, 2, none⟩) hlt).trans h.2.2⟩
theorem keepG {B : Nat} {u : ByteArray} {s k : Int} {W W' : World} {row : Option Nat} (hg : W.grownBy W' row) (hlt : B < W.heap.size) (hne : some B ≠ row) (h : Box B u s k W) : Box B u s k W' :=
  have c : ∀ o, W'.cell? ⟨B, o, none⟩ = W.cell? ⟨B, o, none⟩ := fun o => World.cell?_of_block (a := ⟨B, o, none⟩) (hg.block B hlt hne)
  ⟨(c 0).trans h.1, (c 1).trans h.2.1, (c 2).trans h.2.2⟩
theorem src_own {w : World} {base b : Nat} {l : List Int} (h : OwnB w base (.slice (some ⟨b, 0, none⟩) 8 8) l) : Src Try.prog 1 28 (.slice (some ⟨b, 0, none⟩) 8 8) l.length (bc l) w := by
  have e := h.cells.1
  have := Src.ofSlice (P := Try.prog) w (size := 1) Try.underlying28 ⟨b, 0, none⟩ 8 8 (bc l) (by rw [bc_len]; omega) h.news (bc_one l)
  rwa [e] at this ⊢

set_option maxRecDepth 100000 in
set_option maxHeartbeats 3200000 in
theorem cencode_yes (u : ByteArray) (s k : Int) (w : World) (h : checkV u s k = 0) (hs : 0 ≤ s) :
    Calls Try.prog 97 #[.agg #[.string u, .int .u64 s, .int .i64 k]] w fun e w' => ∃ v, e = .returned (.tuple #[v, .int .i64 0]) ∧ OwnB w' w.heap.size v (sb u ++ (List.range 8).map (byteAt (s * 256 + k))) ∧ Below w.heap.size w w' := by
  have hb : (checkV u s k != 0) = false := by simpa using h
  have hk : 0 ≤ k ∧ k ≤ 2 ∧ s ≤ 72057594037927935 ∧ u.size ≤ 1024 := by
    unfold checkV at h
    split at h
    · cases h
    · split at h
      · cases h
      · omega
  obtain ⟨hk0, hk1, hs1, hu⟩ := hk
  clear h
  obtain ⟨i0, hi, hz0, hz1, hz2⟩ := info_parts info5
  have hum : u.size ≤ maxLen := by unfold maxLen; omega
  have hcv := cvt u
  have hcs := cvW_size u
  have hcc := cvW_cell u
  have e1 : IntKind.u64.wrap (s * 256) = s * 256 := by rw [IntKind.wrap_u64]; omega
  have e2 : IntKind.u64.wrap k = k := by rw [IntKind.wrap_u64]; omega
  have e3 : IntKind.u64.wrap (s * 256 + k) = s * 256 + k := by rw [IntKind.wrap_u64]; omega
  go_enter Try.func97, Try.ntmps97
  go_wp2_with (go_at_call 89; refine (ccheck_any u s k _).mono ?_; rintro e w' ⟨rfl, rfl⟩)
  go_region_held_law (fun w' => w'.cell? ⟨w.heap.size, 0, none⟩ = some (.string u) ∧ w'.cell? ⟨w.heap.size, 1, none⟩ = some (.int .u64 s) ∧ w'.cell? ⟨w.heap.size, 2, none⟩ = some (.int .i64 k))
   (first
      | (go_keep; done)
      | (refine keepS (cvW_below u _) ?_ ?_ <;> (first | assumption | (simp; omega) | (simp at hsz2 ⊢; omega)))
      | (refine keepS hbel2 ?_ ?_ <;> (first | assumption | (simp [hcs]; omega)))
      | (refine keepG hgrow ?_ ?_ ?_ <;> (first | assumption | (simp [hcs] at hsz2 ⊢; omega) | (simp [cvV, Value.ownBlock]; omega) | (simp [cvV, Value.ownBlock]; simp at hsz2; omega))))
   (first
      | (go_at_call 123; refine (cfixed64_own _ _ (by omega) (by omega)).mono ?_; rintro e w2 ⟨bb, rfl, hown2, hbel2⟩; have hc2 := bcell hbel2; have hsz2 := hbel2.size)
      | (refine OwnB.step_append (by rfl) _ _ _ _ (by rfl) (by rfl) (base := w.heap.size) (l := sb u) (v := cvV _ u) (by first | (refine ((cvW_own u _ hum).mono ?_).below hbel2 (Nat.le_refl _); simp; omega) | (refine (cvW_own u _ hum).mono ?_; simp at hsz2; omega)) i0 Try.underlying28 hi hz0 hz1 hz2 _ (by rfl) ((List.range 8).map (byteAt (s * 256 + k))) (by first | exact src_own hown2 | exact src_own (hown2.below (cvW_below u _) (Nat.le_refl _))) (by simp [hcs] at hsz2 ⊢; omega) (by simp [sb_len]; omega) ?_; intro v' w1 hown hgrow hat))
  · go_wp2
    go_ret2
    refine ⟨v', by simp, hown, ?_⟩
    have b0 : Below w.heap.size w ((w.alloc (.cells #[.string u, .int .u64 s, .int .i64 k] 48)).alloc (.cells #[.string u, .int .u64 s, .int .i64 k] 48)).drew := (((Below.refl _ _).alloc (Nat.le_refl _) _).alloc (by simp) _).drew
    refine ((b0.trans ((cvW_below u _).mono (by simp; omega))).trans (hbel2.mono (by simp [hcs]; omega))).grown hgrow (by simp [hcs] at hsz2; omega) ?_
    intro k hk
    simp [cvV, Value.ownBlock] at hk
    omega
  · go_wp2
    go_ret2
    refine ⟨v', by simp, hown, ?_⟩
    have b0 : Below w.heap.size w ((w.alloc (.cells #[.string u, .int .u64 s, .int .i64 k] 48)).alloc (.cells #[.string u, .int .u64 s, .int .i64 k] 48)).drew := (((Below.refl _ _).alloc (Nat.le_refl _) _).alloc (by simp) _).drew
    simp at hsz2
    refine ((b0.trans (hbel2.mono (by simp; omega))).trans ((cvW_below u _).mono (by omega))).grown hgrow (by simp [hcs]; omega) ?_
    intro k hk
    simp [cvV, Value.ownBlock] at hk
    omega
end Go.Proofs.Ytkmpcheamdadcaa
