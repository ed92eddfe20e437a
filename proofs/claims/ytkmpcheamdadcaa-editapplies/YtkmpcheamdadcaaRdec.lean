import Derived.Test.YtkmpcheamdadcaaDec
import Derived.WalkKit
import Derived.WalkSpells
import Derived.WalkLawsBesides
namespace Go.Proofs.Ytkmpcheamdadcaa
open Go.RowKit
set_option linter.unusedVariables false
set_option linter.unusedSimpArgs false

set_option maxRecDepth 100000 in
set_option maxHeartbeats 2000000 in
theorem rdecode_long (b off m cap : Nat) (l : List Int) (w : World) (hl : l.length = m + 8) (hbd : ∀ n ∈ l, 0 ≤ n ∧ n < 256) (hm : m + 8 ≤ 140737488351232) (hcap : m + 8 ≤ cap) (hb : b < w.heap.size) (hI : ∀ j, (h : j < l.length) → w.cell? ⟨b, off + j, none⟩ = some (.int .u8 l[j])) :
    Calls Try.prog 107 #[.slice (some ⟨b, off, none⟩) (m + 8) cap] w fun e w' => e = .returned (if checkV (decU m l) (decN m l / 256) (decN m l % 256) = 0 then .tuple #[.agg #[.string (decU m l), .int .u64 (decN m l / 256), .int .i64 (decN m l % 256)], .int .i64 0] else .tuple #[.agg #[.string ⟨#[]⟩, .int .u64 0, .int .i64 0], .int .i64 3]) ∧ Below w.heap.size w w' := by
  have n4 : ¬ cap = m := by omega
  have hmc : (m : Int) ≤ (cap : Int) := by omega
  have hmc2 : (m : Int) + 8 ≤ (cap : Int) := by omega
  have hm0 : (0 : Int) ≤ (m : Int) := Int.natCast_nonneg _
  obtain ⟨N0, N1⟩ := decN_bd m l hl hbd
  have HT : Hid (∀ w : World, b < w.heap.size → (∀ j, (h : j < l.length) → w.cell? ⟨b, off + j, none⟩ = some (.int .u8 l[j])) → Calls Try.prog 125 #[.slice (some ⟨b, off + m, none⟩) 8 (cap - m), .int .i64 8] w fun e W' => e = .returned (.tuple #[.int .u64 (decN m l), .int .i64 0]) ∧ W' = w) := fun w hb hI => rrf_tail b off m (cap - m) l w hl hbd hb hI
  have HS : Hid (∀ w : World, (∀ j, (h : j < l.length) → w.cell? ⟨b, off + j, none⟩ = some (.int .u8 l[j])) → (convert 28 9 (.slice (some ⟨b, off, none⟩) m cap)).run Try.prog w = .ok (.string (decU m l)) w) := fun w hI => by
    have e : (l.take m).length = m := by simp; omega
    have := run_string_at (P := Try.prog) w 28 9 Try.underlying28 Try.underlying5 Try.underlying9 b off cap (l.take m) (by
      intro j hj
      rw [hI j (by omega)]; simp)
    rw [e] at this
    exact this
  have HI : Hid (∀ j, (h : j < l.length) → w.cell? ⟨b, off + j, none⟩ = some (.int .u8 l[j])) := hI
  clear hI hl hbd
  generalize decN m l = N at *
  generalize decU m l = U at *
  obtain ⟨RES, hRES⟩ : ∃ RES, (if checkV U (N / 256) (N % 256) = 0 then Value.tuple #[.agg #[.string U, .int .u64 (N / 256), .int .i64 (N % 256)], .int .i64 0] else Value.tuple #[.agg #[.string ⟨#[]⟩, .int .u64 0, .int .i64 0], .int .i64 3]) = RES := ⟨_, rfl⟩
  rw [hRES]
  have HE : Hid ((if checkV U (N / 256) (N % 256) = 0 then Value.tuple #[.agg #[.string U, .int .u64 (N / 256), .int .i64 (N % 256)], .int .i64 0] else Value.tuple #[.agg #[.string ⟨#[]⟩, .int .u64 0, .int .i64 0], .int .i64 3]) = RES) := hRES
  clear hRES
  have hand : bits .and .u64 N 255 = N % 256 := and255 N N0 N1
  have hzb := zero_box w 0
  have bel0 : Below w.heap.size w (w.alloc (.cells #[.string ⟨#[]⟩, .int .u64 0, .int .i64 0] 48)) := (Below.refl _ _).alloc (Nat.le_refl _) _
  obtain ⟨hz2, c0, c1, c2, g0, g1, g2⟩ : _ ∧ _ := hzb
  have hstr := HS.out (w.alloc (.cells #[.string ⟨#[]⟩, .int .u64 0, .int .i64 0] 48)) (fun j hj => (bel0.cell (p := ⟨b, off + j, none⟩) hb).trans (HI.out j hj))
  have HT2 := HT.out (w.alloc (.cells #[.string ⟨#[]⟩, .int .u64 0, .int .i64 0] 48)) (Nat.lt_of_lt_of_le hb bel0.size) (fun j hj => (bel0.cell (p := ⟨b, off + j, none⟩) hb).trans (HI.out j hj))
  have HT3 : Hid (Calls Try.prog 125 #[.slice (some ⟨b, off + m, none⟩) 8 (cap - m), .int .i64 8] (w.alloc (.cells #[.string ⟨#[]⟩, .int .u64 0, .int .i64 0] 48)) fun e W' => e = .returned (.tuple #[.int .u64 N, .int .i64 0]) ∧ W' = (w.alloc (.cells #[.string ⟨#[]⟩, .int .u64 0, .int .i64 0] 48))) := HT2
  clear HT2 hz2 c0 c1 c2 g0 g1 g2
  by_cases hck : checkV U (N / 256) (N % 256) = 0
  · have t : (checkV U (N / 256) (N % 256) != 0) = false := by simpa using hck
    have HV := HE.out
    rw [if_pos hck] at HV
    have HV' : Hid (Value.tuple #[.agg #[.string U, .int .u64 (N / 256), .int .i64 (N % 256)], .int .i64 0] = RES) := HV
    clear hck HV HE HS HT HI
    go_enter Try.func107, Try.ntmps107
    go_wp2_with (first | (go_at_call 125; refine HT3.out.mono ?_; rintro e w' ⟨rfl, rfl⟩) | (go_at_call 94; refine (rcheck_any _ _ _ _).mono ?_; rintro e w' ⟨rfl, rfl⟩))
    refine bodyPost_ret (v := .tuple #[.agg #[.string U, .int .u64 (N / 256), .int .i64 (N % 256)], .int .i64 0]) (by simp [results, Try.results107, go_sem, *]) rfl ⟨by rw [HV'.out], ?_⟩
    repeat' (first | exact bel0 | exact Below.refl _ _ | apply Below.alloc | apply Below.setCell | exact Nat.le_refl _ | (have := bel0.size; simp only [World.size_setCell, World.size_alloc]; omega))
  · have t : (checkV U (N / 256) (N % 256) != 0) = true := by simpa using hck
    have HV := HE.out
    rw [if_neg hck] at HV
    have HV' : Hid (Value.tuple #[.agg #[.string ⟨#[]⟩, .int .u64 0, .int .i64 0], .int .i64 3] = RES) := HV
    clear hck HV HE HS HT HI
    go_enter Try.func107, Try.ntmps107
    go_wp2_with (first | (go_at_call 125; refine HT3.out.mono ?_; rintro e w' ⟨rfl, rfl⟩) | (go_at_call 94; refine (rcheck_any _ _ _ _).mono ?_; rintro e w' ⟨rfl, rfl⟩))
    refine bodyPost_ret (v := .tuple #[.agg #[.string ⟨#[]⟩, .int .u64 0, .int .i64 0], .int .i64 3]) (by simp [results, Try.results107, go_sem, *]) rfl ⟨by rw [HV'.out], ?_⟩
    repeat' (first | exact bel0 | exact Below.refl _ _ | apply Below.alloc | apply Below.setCell | exact Nat.le_refl _ | (have := bel0.size; simp only [World.size_setCell, World.size_alloc]; omega))

end Go.Proofs.Ytkmpcheamdadcaa
