import Derived.Test.YtkpijoogaicodaaCa
import Derived.WalkKit
import Derived.WalkSpells
import Derived.WalkLawsBesides
import Derived.Deep.QuietTactic
import Derived.BigQuiet
import Derived.Deep.DeepCutAuto
import Derived.Deep.RegionWith
namespace Go.Proofs.Ytkpijoogaicodaa
open Go.RowKit
set_option linter.unusedVariables false
set_option linter.unusedSimpArgs false

/-- A record. -/
structure Rec where
  fam : Int
  kind : Int
  key : ByteArray
  val : ByteArray
def Rec.c (r : Rec) : List Value := [.int .u32 r.fam, .int .i64 r.kind, .string r.key, .string r.val]
def mostV (k : Int) : Int := if k = 2 then 1024 else 16384
/-- Check's answer. -/
def chk (k : Int) (key val : ByteArray) : Int := if k < 0 ∨ 2 < k then 1 else if 1024 < (key.size : Int) then 2 else if k ≠ 0 ∧ mostV k < (val.size : Int) then 2 else 0

set_option maxRecDepth 100000 in
set_option maxHeartbeats 400000 in
theorem hasValue_any (k : Int) (w : World) : Calls Try.prog 36 #[.int .i64 k] w fun e w' => e = .returned (.bool (k != 0)) ∧ w' = w := by
  go_enter Try.func36, Try.ntmps36
  go_wp2
  go_ret
  exact ⟨rfl, rfl⟩
theorem ret_b {a b : Bool} (h : a = b) : Ending.returned (.bool a) = .returned (.bool b) := by rw [h]
set_option maxRecDepth 100000 in
set_option maxHeartbeats 400000 in
theorem isKind_any (k : Int) (w : World) : Calls Try.prog 35 #[.int .i64 k] w fun e w' => e = .returned (.bool (decide (0 ≤ k ∧ k ≤ 2))) ∧ w' = w := by
  go_enter Try.func35, Try.ntmps35
  go_wp2
  all_goals (go_ret; exact ⟨ret_b (by rw [Bool.eq_iff_iff]; simp; omega), rfl⟩)
set_option maxRecDepth 100000 in
set_option maxHeartbeats 400000 in
theorem mostValue_any (k : Int) (w : World) : Calls Try.prog 37 #[.int .i64 k] w fun e w' => e = .returned (.int .i64 (mostV k)) ∧ w' = w := by
  go_enter Try.func37, Try.ntmps37
  go_wp2
  all_goals (go_ret; exact ⟨ret_ii (by unfold mostV; split <;> simp_all), rfl⟩)

theorem belN {n : Nat} {a w : World} (h : Below n a w) (k : Nat) : Below n a (w.drewN k) := ⟨h.os, h.tape, h.output, h.size, h.block⟩
theorem hasValue_no {k : Int} (h : k = 0) (w : World) : Calls Try.prog 36 #[.int .i64 k] w fun e w' => e = .returned (.bool false) ∧ w' = w := by
  have := hasValue_any k w; rw [show (k != 0) = false by simp [h]] at this; exact this
theorem hasValue_yes {k : Int} (h : ¬ k = 0) (w : World) : Calls Try.prog 36 #[.int .i64 k] w fun e w' => e = .returned (.bool true) ∧ w' = w := by
  have := hasValue_any k w; rw [show (k != 0) = true by simp [h]] at this; exact this
theorem isKind_no {k : Int} (h : ¬ (0 ≤ k ∧ k ≤ 2)) (w : World) : Calls Try.prog 35 #[.int .i64 k] w fun e w' => e = .returned (.bool false) ∧ w' = w := by
  have := isKind_any k w; rw [show decide (0 ≤ k ∧ k ≤ 2) = false by simpa using h] at this; exact this
theorem isKind_yes {k : Int} (h : 0 ≤ k ∧ k ≤ 2) (w : World) : Calls Try.prog 35 #[.int .i64 k] w fun e w' => e = .returned (.bool true) ∧ w' = w := by
  have := isKind_any k w; rw [show decide (0 ≤ k ∧ k ≤ 2) = true by simpa using h] at this; exact this
abbrev recV (f k : Int) (key val : ByteArray) : Value := .agg #[.int .u32 f, .int .i64 k, .string key, .string val]
set_option maxRecDepth 100000 in
set_option maxHeartbeats 800000 in
theorem check_any (f k : Int) (key val : ByteArray) (w : World) :
    Calls Try.prog 10 #[recV f k key val] w fun e w' => e = .returned (.int .i64 (chk k key val)) ∧ Below w.heap.size w w' := by
  by_cases h1 : 0 ≤ k ∧ k ≤ 2
  · have H1 := isKind_yes h1
    have HN : ¬ (k < 0 ∨ 2 < k) := by omega
    clear h1
    by_cases h2 : 1024 < (key.size : Int)
    · have e : chk k key val = 2 := by unfold chk; rw [if_neg HN, if_pos h2]
      rw [e]; clear e HN
      go_enter Try.func10, Try.ntmps10
      go_wp2_with (go_at_call 35; refine (H1 _).mono ?_; rintro e w' ⟨rfl, rfl⟩)
      go_ret
      exact ⟨rfl, (Below.refl _ _).alloc (Nat.le_refl _) _⟩
    · by_cases h3 : k = 0
      · have e : chk k key val = 0 := by unfold chk; rw [if_neg HN, if_neg h2, if_neg (by simp [h3])]
        rw [e]; clear e HN
        have H2 := hasValue_no h3
        clear h3
        go_enter Try.func10, Try.ntmps10
        go_wp2_with (go_at_call 35; refine (H1 _).mono ?_; rintro e w' ⟨rfl, rfl⟩)
        go_quiet ((go_at_call 36; exact Calls.quiet_of_same (H2 _)))
        go_wp2; go_ret; exact ⟨rfl, belN ((Below.refl _ _).alloc (Nat.le_refl _) _) _⟩
      · have H2 := hasValue_yes h3
        by_cases h4 : mostV k < (val.size : Int)
        · have e : chk k key val = 2 := by unfold chk; rw [if_neg HN, if_neg h2, if_pos ⟨h3, h4⟩]
          rw [e]; clear e h3 HN
          go_enter Try.func10, Try.ntmps10
          go_wp2_with (go_at_call 35; refine (H1 _).mono ?_; rintro e w' ⟨rfl, rfl⟩)
          go_quiet (first | (go_at_call 36; exact Calls.quiet_of_same (H2 _)) | (go_at_call 37; exact Calls.quiet_of_same (mostValue_any k _)))
          go_wp2; go_ret; exact ⟨rfl, belN ((Below.refl _ _).alloc (Nat.le_refl _) _) _⟩
        · have e : chk k key val = 0 := by unfold chk; rw [if_neg HN, if_neg h2, if_neg (fun hh => h4 hh.2)]
          rw [e]; clear e h3 HN
          go_enter Try.func10, Try.ntmps10
          go_wp2_with (go_at_call 35; refine (H1 _).mono ?_; rintro e w' ⟨rfl, rfl⟩)
          go_quiet (first | (go_at_call 36; exact Calls.quiet_of_same (H2 _)) | (go_at_call 37; exact Calls.quiet_of_same (mostValue_any k _)))
          go_wp2; go_ret; exact ⟨rfl, belN ((Below.refl _ _).alloc (Nat.le_refl _) _) _⟩
  · have H1 := isKind_no h1
    have e : chk k key val = 1 := by unfold chk; rw [if_pos (by omega)]
    rw [e]; clear e h1
    go_enter Try.func10, Try.ntmps10
    go_wp2_with (go_at_call 35; refine (H1 _).mono ?_; rintro e w' ⟨rfl, rfl⟩)
    go_ret
    exact ⟨rfl, (Below.refl _ _).alloc (Nat.le_refl _) _⟩
end Go.Proofs.Ytkpijoogaicodaa
namespace Go.Proofs.Ytkpijoogaicodaa
open Go.RowKit
set_option linter.unusedVariables false
set_option linter.unusedSimpArgs false

theorem vL_len (f : Nat) (m : Int) : 1 ≤ (vL f m).length ∧ (vL f m).length ≤ f + 1 := by
  induction f generalizing m with
  | zero => simp [vL]
  | succ f ih =>
    unfold vL
    split
    · simp
    · have := ih (m / 128); simp; omega
/-- How many bytes a number, a text, a record has. -/
def vs (n : Int) : Nat := (vL 10 n).length
theorem vs_bd (n : Int) : 1 ≤ vs n ∧ vs n ≤ 11 := vL_len 10 n
def ts (s : ByteArray) : Nat := vs s.size + s.size
def rsz (f k : Int) (key val : ByteArray) : Nat := 1 + vs f + ts key + if k = 0 then 0 else ts val
theorem OwnB.len {w : World} {base : Nat} {v : Value} {l : List Int} (h : OwnB w base v l) : ∃ a cap, v = .slice a l.length cap := by
  rcases h with ⟨rfl, rfl⟩ | ⟨b, off, cap, rfl, _⟩
  · exact ⟨_, _, rfl⟩
  · exact ⟨_, _, rfl⟩

set_option maxRecDepth 100000 in
set_option maxHeartbeats 400000 in
theorem varintSize_any (n : Int) (w : World) (h0 : 0 ≤ n) (h1 : n < 18446744073709551616) :
    Calls Try.prog 69 #[.int .u64 n] w fun e w' => e = .returned (.int .i64 (vs n)) ∧ Below w.heap.size w w' := by
  go_enter Try.func69, Try.ntmps69
  go_wp2_with (go_at_call 57; refine (cvarint_any n _ h0 h1).mono ?_; rintro e w1 ⟨v, rfl, ho, hb⟩; obtain ⟨a, cap, rfl⟩ := ho.len)
  go_ret
  exact ⟨rfl, hb⟩
set_option maxRecDepth 100000 in
set_option maxHeartbeats 400000 in
theorem textSize_any (s : ByteArray) (w : World) (hs : s.size ≤ 100000) :
    Calls Try.prog 70 #[.string s] w fun e w' => e = .returned (.int .i64 (ts s)) ∧ Below w.heap.size w w' := by
  have hv := vs_bd s.size
  have h1 : (s.size : Int) ≤ 100000 := by omega
  obtain ⟨v, hv'⟩ : ∃ v, vs s.size = v := ⟨_, rfl⟩
  unfold ts
  have HC := varintSize_any s.size
  rw [hv'] at hv HC ⊢
  clear hv'
  go_enter Try.func70, Try.ntmps70
  go_wp2_with (go_at_call 69; refine (HC _ (by omega) (by omega)).mono ?_; rintro e w1 ⟨rfl, hb⟩)
  go_ret
  exact ⟨rfl, hb⟩

theorem w64 (x : Int) (h0 : -9223372036854775808 ≤ x) (h1 : x ≤ 9223372036854775807) : IntKind.i64.wrap x = x := by rw [IntKind.wrap_i64]; omega
theorem bstep {w W W' : World} (h : Below w.heap.size w W) (h2 : Below W.heap.size W W') : Below w.heap.size w W' := h.trans (h2.mono h.size)
/-- The box of a record. -/
abbrev RBox (B : Nat) (f k : Int) (key val : ByteArray) (w : World) : Prop := w.cell? ⟨B, 0, none⟩ = some (.int .u32 f) ∧ w.cell? ⟨B, 1, none⟩ = some (.int .i64 k) ∧ w.cell? ⟨B, 2, none⟩ = some (.string key) ∧ w.cell? ⟨B, 3, none⟩ = some (.string val)
theorem rkeep {B : Nat} {f k : Int} {key val : ByteArray} {W W' : World} (hb : Below W.heap.size W W') (hlt : B < W.heap.size) (h : RBox B f k key val W) : RBox B f k key val W' :=
  ⟨(hb.cell (p := ⟨B, 0, none⟩) hlt).trans h.1, (hb.cell (p := ⟨B, 1, none⟩) hlt).trans h.2.1, (hb.cell (p := ⟨B, 2, none⟩) hlt).trans h.2.2.1, (hb.cell (p := ⟨B, 3, none⟩) hlt).trans h.2.2.2⟩
theorem rnew (w : World) (f k : Int) (key val : ByteArray) : RBox w.heap.size f k key val (w.alloc (.cells #[.int .u32 f, .int .i64 k, .string key, .string val] 31)).drew :=
  ⟨World.cell?_alloc_new w _ 31 0, World.cell?_alloc_new w _ 31 1, World.cell?_alloc_new w _ 31 2, World.cell?_alloc_new w _ 31 3⟩
set_option maxRecDepth 100000 in
set_option maxHeartbeats 1000000 in
theorem recordSize_any (f k : Int) (key val : ByteArray) (w : World) (f0 : 0 ≤ f) (f1 : f < 4294967296) (hk : key.size ≤ 100000) (hv : ¬ k = 0 → val.size ≤ 100000) :
    Calls Try.prog 54 #[recV f k key val] w fun e w' => e = .returned (.int .i64 (rsz f k key val)) ∧ Below w.heap.size w w' := by
  have b1 := vs_bd f
  have b2 := vs_bd key.size
  have b3 := vs_bd val.size
  have C1 := varintSize_any f
  have C2 := fun w => textSize_any key w hk
  have C3 := fun (h : ¬ k = 0) w => textSize_any val w (hv h)
  obtain ⟨R, hR⟩ : ∃ R, rsz f k key val = R := ⟨_, rfl⟩
  rw [hR]
  unfold rsz at hR
  have t1 : ts key ≤ 100011 := by unfold ts; omega
  have t2 : ¬ k = 0 → ts val ≤ 100011 := fun h => by have := hv h; unfold ts; omega
  generalize vs f = a at *
  generalize ts key = b at *
  generalize ts val = c at *
  have HR : Hid (1 + a + b + (if k = 0 then 0 else c) = R) := hR
  have e1 : IntKind.u64.wrap f = f := by rw [IntKind.wrap_u64]; omega
  clear b2 b3 hk hv hR
  go_enter Try.func54, Try.ntmps54
  go_wp2
  go_cut [3] (fun t wc => t = .int .i64 (1 + a + b) ∧ Below w.heap.size w wc ∧ RBox w.heap.size f k key val wc ∧ w.heap.size < wc.heap.size)
  case first =>
    go_region_held_law (fun w' => w'.cell? ⟨w.heap.size, 0, none⟩ = some (.int .u32 f) ∧ w'.cell? ⟨w.heap.size, 1, none⟩ = some (.int .i64 k) ∧ w'.cell? ⟨w.heap.size, 2, none⟩ = some (.string key) ∧ w'.cell? ⟨w.heap.size, 3, none⟩ = some (.string val))
      (first
        | (go_keep; done)
        | (refine rkeep hb1 ?_ ?_ <;> (first | assumption | (simp; omega) | (simp; done) | exact rnew _ _ _ _ _))
        | (refine rkeep hb2 ?_ ?_ <;> (first | assumption | (simp; omega) | (simp; done) | exact rnew _ _ _ _ _)))
      (first
        | (go_at_call 69; refine (C1 _ (by omega) (by omega)).mono ?_; rintro e w2 ⟨rfl, hb1⟩; have hz1 : w.heap.size < w2.heap.size := (by have := hb1.size; first | omega | (simp at this; omega)))
        | (go_at_call 70; refine (C2 _).mono ?_; rintro e w3 ⟨rfl, hb2⟩; have hz2 : w.heap.size < w3.heap.size := (by have := hb2.size; first | omega | (simp at this; omega))))
    · go_wp2
      go_meet
      case rel => exact ⟨val_i (by rw [w64 (1 + a) (by omega) (by omega), w64 _ (by omega) (by omega)]), bstep (bstep ((Below.refl _ _).alloc (Nat.le_refl _) _).drew hb1) hb2, by assumption, hz2⟩
  case rest =>
    obtain ⟨rfl, hb, ⟨c0, c1, c2, c3⟩, hz⟩ := hcut
    by_cases hk0 : k = 0
    · have H2 := hasValue_no hk0
      have HK : Hid (k = 0) := hk0
      clear hk0 t2 C3
      go_wp2_with (go_at_call 36; refine (H2 _).mono ?_; rintro e w' ⟨rfl, rfl⟩)
      go_ret
      exact ⟨ret_ii (by rw [← HR.out, if_pos HK.out]; omega), hb⟩
    · have H2 := hasValue_yes hk0
      have HK : Hid (¬ k = 0) := hk0
      have t3 := t2 hk0
      have C4 := C3 hk0
      clear hk0 t2 C3
      go_wp2_with (first
        | (go_at_call 36; refine (H2 _).mono ?_; rintro e w' ⟨rfl, rfl⟩)
        | (go_at_call 70; refine (C4 _).mono ?_; rintro e w4 ⟨rfl, hb3⟩))
      go_ret
      exact ⟨ret_ii (by rw [← HR.out, if_neg HK.out]; omega), bstep hb hb3⟩
end Go.Proofs.Ytkpijoogaicodaa
