/-
  What must come, whatever else is asked (lives).
-/
import Derived.Test.YtbmljdeenbokmaaD
namespace Go.Proofs.Ytbmljdeenbokmaa
open Go.RowKit Go.Shelf
set_option linter.unusedVariables false
set_option linter.unusedSimpArgs false

theorem Row.arg {w : World} {b : Nat} {l : List Int} (h : Row w b l) (hB : Byt l) (hl : l.length ≤ 140737488351232) : Arg w (some ⟨b, 0, none⟩) l.length l :=
  ⟨rfl, hB, hl, .inr ⟨b, 0, rfl, h.lt, fun j hj => by rw [Nat.zero_add]; exact h.cell j hj⟩⟩
theorem bld_byt (ks : List ByteArray) (bt : Int) : Byt (bld ks bt) := bldF_byt (ini_byt _ (by have := npr_bd bt; omega) (by have := npr_bd bt; omega)) _ _ _
/-- The filter of one key. -/
def la : List Int := bld [⟨#[97]⟩] 10
theorem la_len : la.length = 9 := by unfold la; rw [bld_length]; rfl
/-- The i-th key that is asked. -/
def kx (i : Nat) : ByteArray := ⟨#[UInt8.ofNat i, 120]⟩
def cnt (k : Nat) : Nat := (List.range k).countP (fun i => !mayB la (kx i))
theorem cnt_succ (k : Nat) : cnt (k + 1) = cnt k + if mayB la (kx k) then 0 else 1 := by
  unfold cnt; rw [List.range_succ, List.countP_append]; cases h : mayB la (kx k) <;> simp [h]
theorem la_a : mayB la ⟨#[97]⟩ = true := by kernel_rfl
theorem cnt_200 : decide (150 < cnt 200) = true := by kernel_rfl

theorem cv2 (w : World) (x y : Int) : (convert 23 9 (.slice (some ⟨w.heap.size, 0, none⟩) 2 2)).run Try.prog (w.alloc (.cells #[.int .u8 x, .int .u8 y] 5)) = .ok (.string ⟨#[UInt8.ofNat x.toNat, UInt8.ofNat y.toNat]⟩) (w.alloc (.cells #[.int .u8 x, .int .u8 y] 5)) := by
  have := run_string_at (P := Try.prog) (w.alloc (.cells #[.int .u8 x, .int .u8 y] 5)) 23 9 Try.underlying23 Try.underlying5 Try.underlying9 w.heap.size 0 2 [x, y] (by
    intro j hj
    have : j = 0 ∨ j = 1 := by simp at hj; omega
    rcases this with rfl | rfl
    · exact World.cell?_alloc_new w #[.int .u8 x, .int .u8 y] 5 0
    · exact World.cell?_alloc_new w #[.int .u8 x, .int .u8 y] 5 1)
  exact this

set_option maxRecDepth 100000 in
set_option maxHeartbeats 1000000 in
theorem lives_any (w : World) : Calls Try.prog 21 #[] w fun e w' => e = .returned (.bool true) ∧ Below w.heap.size w w' := by
  have HB : Hid (∀ W : World, W.cell? ⟨w.heap.size, 0, none⟩ = some (.string ⟨#[97]⟩) → w.heap.size < W.heap.size → Calls Try.prog 7 #[.slice (some ⟨w.heap.size, 0, none⟩) 1 1, .int .i64 10] W fun e w' => e = .returned (.tuple #[.slice (some ⟨W.heap.size, 0, none⟩) 9 9, .int .i64 0]) ∧ Row w' W.heap.size la ∧ Below W.heap.size W w') := fun W hc hlt => by
    have := build_ok (some ⟨w.heap.size, 0, none⟩) 1 [⟨#[97]⟩] 10 W ⟨by intro k hk; simp at hk; subst hk; unfold maxLen; exact (by decide), .inr ⟨_, _, rfl, hlt, fun j hj => by
      have : j = 0 := by simp at hj; omega
      subst this; exact hc⟩⟩ (by simp) (by omega) (by omega)
    rw [show bld [⟨#[97]⟩] 10 = la from rfl, la_len] at this
    exact this
  have HM : Hid (∀ (W : World) (s : ByteArray), Row W (w.heap.size + 1) la → s.size ≤ 2 → Calls Try.prog 19 #[.slice (some ⟨w.heap.size + 1, 0, none⟩) 9 9, .string s] W fun e w' => e = .returned (.bool (mayB la s)) ∧ Below W.heap.size W w') := fun W s hr hs => by
    have h := hr.arg (bld_byt _ _) (by rw [la_len]; omega)
    rw [la_len] at h
    exact may_any _ 9 9 la s W (by unfold maxLen; omega) h
  have HA : Hid (mayB la ⟨#[97]⟩ = true) := la_a
  go_enter Try.func21, Try.ntmps21
  go_wp2_with (first
    | (go_at_call 19; refine (HM.out _ _ hrow (by decide)).mono ?_; rw [HA.out]; rintro e w2 ⟨rfl, hb2⟩)
    | (go_at_call 7; refine (HB.out _ (by simp [go_sem]) (by simp)).mono ?_; rintro e w1 ⟨rfl, hrow, hb⟩; rw [World.size_alloc] at hrow))
  have hB1 : Below w.heap.size w w1 := ((Below.refl _ w).alloc (Nat.le_refl _) (.cells #[.string ⟨#[97]⟩] 9)).trans (hb.mono (by simp))
  have hB2 := hB1.trans (hb2.mono hB1.size)
  have hrow2 := hrow.below hb2
  go_loopw [3, 4] (fun n i wr => ∃ k : Nat, k ≤ 200 ∧ i = .int .i64 k ∧ n = .int .i64 (cnt k) ∧ Row wr (w.heap.size + 1) la ∧ Below w.heap.size w wr) (fun _ i _ => (200 - intOf i).toNat)
  case atStart => exact ⟨0, by omega, rfl, rfl, hrow2, hB2⟩
  case round =>
    obtain ⟨k, hk, rfl, rfl, hr, hB⟩ := hrel
    by_cases hlt : k < 200
    · have hcv : (convert 23 9 (.slice (some ⟨wr.heap.size, 0, none⟩) 2 2)).run Try.prog (wr.alloc (.cells #[.int .u8 (k : Int), .int .u8 120] 5)) = .ok (.string (kx k)) (wr.alloc (.cells #[.int .u8 (k : Int), .int .u8 120] 5)) := cv2 wr k 120
      have hr' := hr.below ((Below.refl _ wr).alloc (Nat.le_refl _) (.cells #[.int .u8 (k : Int), .int .u8 120] 5))
      have hB' := hB.alloc hB.size (.cells #[.int .u8 (k : Int), .int .u8 120] 5)
      have hc0 : (0 : Int) ≤ cnt k := Int.natCast_nonneg _
      have hc1 : cnt k ≤ 200 := by have := List.countP_le_length (p := fun i => !mayB la (kx i)) (l := List.range k); simp at this; unfold cnt; simp; omega
      have HC := cnt_succ k
      have HCC : Hid (cnt (k + 1) = cnt k + if mayB la (kx k) then 0 else 1) := HC
      clear HC
      obtain ⟨m, hm⟩ : ∃ m, mayB la (kx k) = m := ⟨_, rfl⟩
      have HMK : Hid (mayB la (kx k) = m) := hm
      clear hm
      cases m with
      | true =>
        go_wp2_with (go_at_call 19; refine (HM.out _ (kx k) hr' (show (kx k).size ≤ 2 from Nat.le_refl 2)).mono ?_; rw [HMK.out]; rintro e w3 ⟨rfl, hb3⟩)
        go_roundw
        case rel => exact ⟨k + 1, by omega, by go_num, by rw [HCC.out, HMK.out]; rfl, hr'.below hb3, hB'.trans (hb3.mono hB'.size)⟩
        case measure => simp [intOf]; omega
      | false =>
        go_wp2_with (go_at_call 19; refine (HM.out _ (kx k) hr' (show (kx k).size ≤ 2 from Nat.le_refl 2)).mono ?_; rw [HMK.out]; rintro e w3 ⟨rfl, hb3⟩)
        go_roundw
        case rel => exact ⟨k + 1, by omega, by go_num, by rw [HCC.out, HMK.out]; go_num, hr'.below hb3, hB'.trans (hb3.mono hB'.size)⟩
        case measure => simp [intOf]; omega
    · obtain rfl : k = 200 := by omega
      have HC : Hid (decide (150 < (cnt 200 : Int)) = true) := by
        show _ = _
        have := of_decide_eq_true cnt_200
        exact decide_eq_true (by omega)
      go_wp2
      go_ret
      exact ⟨ret_b HC.out, hB⟩
end Go.Proofs.Ytbmljdeenbokmaa
