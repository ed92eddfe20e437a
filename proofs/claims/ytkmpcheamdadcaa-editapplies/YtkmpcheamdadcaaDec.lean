import Derived.Test.YtkmpcheamdadcaaRf
import Derived.WalkKit
import Derived.WalkSpells
import Derived.WalkLawsBesides
import Derived.Deep.QuietTactic
import Derived.BigQuiet
namespace Go.Proofs.Ytkmpcheamdadcaa
open Go.RowKit
set_option linter.unusedVariables false
set_option linter.unusedSimpArgs false

/-- Decode's answer. -/
def decU (m : Nat) (l : List Int) : ByteArray := bstr (l.take m)
def decN (m : Nat) (l : List Int) : Int := leV (l.drop m)
theorem decN_bd (m : Nat) (l : List Int) (hl : l.length = m + 8) (hbd : ∀ n ∈ l, 0 ≤ n ∧ n < 256) : 0 ≤ decN m l ∧ decN m l < 18446744073709551616 := by
  have := leV_bd (l.drop m) (fun n hn => hbd n (List.mem_of_mem_drop hn))
  have e : (l.drop m).length = 8 := by simp; omega
  rw [e] at this
  exact ⟨this.1, by have h2 := this.2; unfold decN; simpa using h2⟩
/-- readFixed of the last eight bytes. -/
theorem readFixed_tail (b off m cap : Nat) (l : List Int) (w : World) (hl : l.length = m + 8) (hbd : ∀ n ∈ l, 0 ≤ n ∧ n < 256) (hb : b < w.heap.size) (hI : ∀ j, (h : j < l.length) → w.cell? ⟨b, off + j, none⟩ = some (.int .u8 l[j])) :
    Calls Try.prog 137 #[.slice (some ⟨b, off + m, none⟩) 8 cap] w fun e W' => e = .returned (.int .u64 (decN m l)) ∧ Below w.heap.size w W' := by
  have e : (l.drop m).length = 8 := by simp; omega
  have h := readFixed_calls b (off + m) cap (l.drop m) (by omega) w hb (by
    intro j hj
    have hj' : m + j < l.length := by omega
    rw [Nat.add_assoc, hI (m + j) hj', List.getElem?_eq_getElem hj]
    simp)
  rw [rd_le _ (by omega) (fun n hn => hbd n (List.mem_of_mem_drop hn)), e] at h
  exact h

theorem zero_box (w : World) (n : Nat) : w.heap.size < ((w.alloc (.cells #[.string ⟨#[]⟩, .int .u64 0, .int .i64 0] 48)).drewN n).heap.size ∧
    ((w.alloc (.cells #[.string ⟨#[]⟩, .int .u64 0, .int .i64 0] 48)).drewN n).cell? ⟨w.heap.size, 0, none⟩ = some (.string ⟨#[]⟩) ∧ ((w.alloc (.cells #[.string ⟨#[]⟩, .int .u64 0, .int .i64 0] 48)).drewN n).cell? ⟨w.heap.size, 1, none⟩ = some (.int .u64 0) ∧ ((w.alloc (.cells #[.string ⟨#[]⟩, .int .u64 0, .int .i64 0] 48)).drewN n).cell? ⟨w.heap.size, 2, none⟩ = some (.int .i64 0) ∧
    ((w.alloc (.cells #[.string ⟨#[]⟩, .int .u64 0, .int .i64 0] 48)).drewN n).frozen? ⟨w.heap.size, 0, none⟩ = false ∧ ((w.alloc (.cells #[.string ⟨#[]⟩, .int .u64 0, .int .i64 0] 48)).drewN n).frozen? ⟨w.heap.size, 1, none⟩ = false ∧ ((w.alloc (.cells #[.string ⟨#[]⟩, .int .u64 0, .int .i64 0] 48)).drewN n).frozen? ⟨w.heap.size, 2, none⟩ = false := by
  have hD : Below (w.heap.size + 1) (w.alloc (.cells #[.string ⟨#[]⟩, .int .u64 0, .int .i64 0] 48)) ((w.alloc (.cells #[.string ⟨#[]⟩, .int .u64 0, .int .i64 0] 48)).drewN n) := below_drewN (Below.refl _ _) _
  have hs := hD.size
  rw [World.size_alloc] at hs
  refine ⟨by omega, ?_, ?_, ?_, ?_, ?_, ?_⟩
  · rw [hD.cell (p := ⟨w.heap.size, 0, none⟩) (by simp)]; exact World.cell?_alloc_new w _ 48 0
  · rw [hD.cell (p := ⟨w.heap.size, 1, none⟩) (by simp)]; exact World.cell?_alloc_new w _ 48 1
  · rw [hD.cell (p := ⟨w.heap.size, 2, none⟩) (by simp)]; exact World.cell?_alloc_new w _ 48 2
  · rw [hD.frozen (p := ⟨w.heap.size, 0, none⟩) (by simp)]; exact World.frozen?_alloc_new w _ 48 0
  · rw [hD.frozen (p := ⟨w.heap.size, 1, none⟩) (by simp)]; exact World.frozen?_alloc_new w _ 48 1
  · rw [hD.frozen (p := ⟨w.heap.size, 2, none⟩) (by simp)]; exact World.frozen?_alloc_new w _ 48 2

set_option maxRecDepth 100000 in
set_option maxHeartbeats 2000000 in
theorem cdecode_long (b off m cap : Nat) (l : List Int) (w : World) (hl : l.length = m + 8) (hbd : ∀ n ∈ l, 0 ≤ n ∧ n < 256) (hm : m + 8 ≤ 140737488351232) (hcap : m + 8 ≤ cap) (hb : b < w.heap.size) (hI : ∀ j, (h : j < l.length) → w.cell? ⟨b, off + j, none⟩ = some (.int .u8 l[j])) :
    Calls Try.prog 134 #[.slice (some ⟨b, off, none⟩) (m + 8) cap] w fun e w' => e = .returned (if checkV (decU m l) (decN m l / 256) (decN m l % 256) = 0 then .tuple #[.agg #[.string (decU m l), .int .u64 (decN m l / 256), .int .i64 (decN m l % 256)], .int .i64 0] else .tuple #[.agg #[.string ⟨#[]⟩, .int .u64 0, .int .i64 0], .int .i64 3]) ∧ Below w.heap.size w w' := by
  have n4 : ¬ cap = m := by omega
  have hmc : (m : Int) ≤ (cap : Int) := by omega
  have hmc2 : (m : Int) + 8 ≤ (cap : Int) := by omega
  have hm0 : (0 : Int) ≤ (m : Int) := Int.natCast_nonneg _
  obtain ⟨N0, N1⟩ := decN_bd m l hl hbd
  have HT : Hid (∀ w : World, b < w.heap.size → (∀ j, (h : j < l.length) → w.cell? ⟨b, off + j, none⟩ = some (.int .u8 l[j])) → Calls Try.prog 137 #[.slice (some ⟨b, off + m, none⟩) 8 (cap - m)] w fun e W' => e = .returned (.int .u64 (decN m l)) ∧ Below w.heap.size w W') := fun w hb hI => readFixed_tail b off m (cap - m) l w hl hbd hb hI
  have HS : Hid (∀ w : World, (∀ j, (h : j < l.length) → w.cell? ⟨b, off + j, none⟩ = some (.int .u8 l[j])) → (convert 28 9 (.slice (some ⟨b, off, none⟩) m cap)).run Try.prog w = .ok (.string (decU m l)) w) := fun w hI => by
    have e : (l.take m).length = m := by simp; omega
    have := run_string_at (P := Try.prog) w 28 9 Try.underlying28 Try.underlying5 Try.underlying9 b off cap (l.take m) (by
      intro j hj
      rw [hI j (by omega)]; simp)
    rw [e] at this
    exact this
  have HI : Hid (∀ j, (h : j < l.length) → w.cell? ⟨b, off + j, none⟩ = some (.int .u8 l[j])) := hI
  clear hI hl hbd
  generalize decN m l = N at *
  generalize decU m l = U at *
  obtain ⟨RES, hRES⟩ : ∃ RES, (if checkV U (N / 256) (N % 256) = 0 then Value.tuple #[.agg #[.string U, .int .u64 (N / 256), .int .i64 (N % 256)], .int .i64 0] else Value.tuple #[.agg #[.string ⟨#[]⟩, .int .u64 0, .int .i64 0], .int .i64 3]) = RES := ⟨_, rfl⟩
  rw [hRES]
  have HE : Hid ((if checkV U (N / 256) (N % 256) = 0 then Value.tuple #[.agg #[.string U, .int .u64 (N / 256), .int .i64 (N % 256)], .int .i64 0] else Value.tuple #[.agg #[.string ⟨#[]⟩, .int .u64 0, .int .i64 0], .int .i64 3]) = RES) := hRES
  clear hRES
  go_enter Try.func134, Try.ntmps134
  go_wp2
  go_quiet (fail)
  have bel0 : Below w.heap.size w ((w.alloc (.cells #[.string ⟨#[]⟩, .int .u64 0, .int .i64 0] 48)).drewN nq) := below_drewN ((Below.refl _ _).alloc (Nat.le_refl _) _) _
  obtain ⟨hz0, a0, a1, a2, f0, f1, f2⟩ := zero_box w nq
  generalize ((w.alloc (.cells #[.string ⟨#[]⟩, .int .u64 0, .int .i64 0] 48)).drewN nq) = W0 at *
  go_wp2_with fail
  refine (HT.out _ ?_ ?_).mono ?_
  · exact Nat.lt_of_lt_of_le hb bel0.size
  · exact fun j hj => (bel0.cell (p := ⟨b, off + j, none⟩) hb).trans (HI.out j hj)
  rintro e w2 ⟨rfl, hbel⟩
  have bel2 : Below w.heap.size w w2 := bel0.trans (hbel.mono bel0.size)
  have hstr := HS.out w2 (fun j hj => (bel2.cell (p := ⟨b, off + j, none⟩) hb).trans (HI.out j hj))
  have hz2 : w.heap.size < w2.heap.size := Nat.lt_of_lt_of_le hz0 hbel.size
  have c0 := (hbel.cell (p := ⟨w.heap.size, 0, none⟩) hz0).trans a0
  have c1 := (hbel.cell (p := ⟨w.heap.size, 1, none⟩) hz0).trans a1
  have c2 := (hbel.cell (p := ⟨w.heap.size, 2, none⟩) hz0).trans a2
  have g0 := (hbel.frozen (p := ⟨w.heap.size, 0, none⟩) hz0).trans f0
  have g1 := (hbel.frozen (p := ⟨w.heap.size, 1, none⟩) hz0).trans f1
  have g2 := (hbel.frozen (p := ⟨w.heap.size, 2, none⟩) hz0).trans f2
  clear a0 a1 a2 f0 f1 f2 hbel bel0 hz0
  by_cases hck : checkV U (N / 256) (N % 256) = 0
  · have t : (checkV U (N / 256) (N % 256) != 0) = false := by simpa using hck
    have HV := HE.out
    rw [if_pos hck] at HV
    have HV' : Hid (Value.tuple #[.agg #[.string U, .int .u64 (N / 256), .int .i64 (N % 256)], .int .i64 0] = RES) := HV
    clear hck HV HE
    go_wp2_with (go_at_call 89; refine (ccheck_any _ _ _ _).mono ?_; rintro e w' ⟨rfl, rfl⟩)
    refine bodyPost_ret (v := .tuple #[.agg #[.string U, .int .u64 (N / 256), .int .i64 (N % 256)], .int .i64 0]) (by simp [results, Try.results134, go_sem, *]) rfl ⟨by rw [HV'.out], ?_⟩
    repeat' (first | exact bel2 | apply Below.alloc | apply Below.setCell | exact Nat.le_refl _ | (have := bel2.size; simp only [World.size_setCell, World.size_alloc]; omega))
  · have t : (checkV U (N / 256) (N % 256) != 0) = true := by simpa using hck
    have HV := HE.out
    rw [if_neg hck] at HV
    have HV' : Hid (Value.tuple #[.agg #[.string ⟨#[]⟩, .int .u64 0, .int .i64 0], .int .i64 3] = RES) := HV
    clear hck HV HE
    go_wp2_with (go_at_call 89; refine (ccheck_any _ _ _ _).mono ?_; rintro e w' ⟨rfl, rfl⟩)
    refine bodyPost_ret (v := .tuple #[.agg #[.string ⟨#[]⟩, .int .u64 0, .int .i64 0], .int .i64 3]) (by simp [results, Try.results134, go_sem, *]) rfl ⟨by rw [HV'.out], ?_⟩
    repeat' (first | exact bel2 | apply Below.alloc | apply Below.setCell | exact Nat.le_refl _ | (have := bel2.size; simp only [World.size_setCell, World.size_alloc]; omega))

set_option maxHeartbeats 1000000 in
theorem cdecode_short (a : Option Addr) (len cap : Nat) (w : World) (h : len < 8) :
    Calls Try.prog 134 #[.slice a len cap] w fun e w' => e = .returned (.tuple #[.agg #[.string ⟨#[]⟩, .int .u64 0, .int .i64 0], .int .i64 4]) ∧ Below w.heap.size w w' := by
  have h' : (len : Int) < 8 := by omega
  go_enter Try.func134, Try.ntmps134
  go_wp2
  exact bodyPost_ret (v := .tuple #[.agg #[.string ⟨#[]⟩, .int .u64 0, .int .i64 0], .int .i64 4]) (by simp [results, Try.results134, go_sem]) rfl ⟨rfl, (Below.refl _ _).alloc (Nat.le_refl _) _⟩
set_option maxHeartbeats 1000000 in
theorem rdecode_short (a : Option Addr) (len cap : Nat) (w : World) (h : len < 8) :
    Calls Try.prog 107 #[.slice a len cap] w fun e w' => e = .returned (.tuple #[.agg #[.string ⟨#[]⟩, .int .u64 0, .int .i64 0], .int .i64 4]) ∧ Below w.heap.size w w' := by
  have h' : (len : Int) < 8 := by omega
  have h'' : (len : Int) - 8 < 0 := by omega
  go_enter Try.func107, Try.ntmps107
  go_wp2
  exact bodyPost_ret (v := .tuple #[.agg #[.string ⟨#[]⟩, .int .u64 0, .int .i64 0], .int .i64 4]) (by simp [results, Try.results107, go_sem]) rfl ⟨rfl, (Below.refl _ _).alloc (Nat.le_refl _) _⟩

theorem rrf_tail (b off m cap : Nat) (l : List Int) (w : World) (hl : l.length = m + 8) (hbd : ∀ n ∈ l, 0 ≤ n ∧ n < 256) (hb : b < w.heap.size) (hI : ∀ j, (h : j < l.length) → w.cell? ⟨b, off + j, none⟩ = some (.int .u8 l[j])) :
    Calls Try.prog 125 #[.slice (some ⟨b, off + m, none⟩) 8 cap, .int .i64 8] w fun e W' => e = .returned (.tuple #[.int .u64 (decN m l), .int .i64 0]) ∧ W' = w := by
  have e : (l.drop m).length = 8 := by simp; omega
  have hA : Arg w (some ⟨b, off + m, none⟩) 8 cap (l.drop m) := by
    refine ⟨e, fun n hn => hbd n (List.mem_of_mem_drop hn), by decide, .inr ⟨b, off + m, rfl, hb, fun j hj => ?_⟩⟩
    rw [Nat.add_assoc, hI (m + j) (by omega)]; simp
  have h := rrf_any 8 (Nat.le_refl _) _ _ _ _ w hA
  have e1 : rfV 8 (l.drop m) = decN m l := by unfold rfV decN; rw [if_neg (by omega), List.take_of_length_le (by omega)]
  have e2 : rfE 8 (l.drop m) = 0 := by unfold rfE; rw [if_neg (by omega)]
  rw [e1, e2] at h
  exact h
theorem and255 (m : Int) (h0 : 0 ≤ m) (h1 : m < 18446744073709551616) : bits .and .u64 m 255 = m % 256 :=
  bits_mask .u64 64 (by decide) wraps_u64 8 (by decide) m h0 (by omega)
end Go.Proofs.Ytkmpcheamdadcaa
