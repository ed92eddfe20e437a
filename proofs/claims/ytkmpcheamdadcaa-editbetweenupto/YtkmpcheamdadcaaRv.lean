import Derived.RangeFuncNested
import Derived.RangeFuncBound
import Derived.RangeFuncCalls
import Derived.RangeFuncLeaves
import Derived.RangeFuncBox
import Derived.Shelf.Abstract
import Derived.Shelf.RegionOpen
import Derived.WalkKit
import Derived.OwnWalkIn
import Derived.TacticsInMore
import Derived.LoopNIn
import Derived.LoopIn
import Derived.Test.YtkmpcheamdadcaaProg
import Derived.WalkSpells
import Derived.WalkLawsBesides
import Derived.Lib.EndianBits
import Derived.Laws.BitsAllLaws
import Derived.Deep.AppendSrc
import Derived.Laws.IdiomStrings
import Derived.Laws.IdiomCopy
import Derived.Deep.Upon
import Derived.RegionTactic
import Derived.Deep.RegionHeldLaw
import Derived.Lib.VarintBits
namespace Go.Proofs.Ytkmpcheamdadcaa
open Go.RowKit Go.Shelf
set_option linter.unusedVariables false
set_option linter.unusedSimpArgs false
attribute [local go_sem] Oper.semAt_some

/-- What has come when k rounds are over. -/
def cameTo {α : Type} (f : Nat → α) (k : Nat) : List α := (List.range k).map f
theorem cameTo_succ {α : Type} (f : Nat → α) (k : Nat) : cameTo f (k + 1) = cameTo f k ++ [f k] := by simp [cameTo, List.range_succ]
theorem cameTo_length {α : Type} (f : Nat → α) (k : Nat) : (cameTo f k).length = k := by simp [cameTo]
/-- The k-th pair from behind. -/
def backAt (zs : List Int) (k : Nat) : Int × Int := ((zs.length : Int) - 1 - (k : Int), zs[zs.length - 1 - k]?.getD 0)

/-- What a round keeps: what lay below n₀, and the box of the slice. -/
def Kp2 (n₀ Bs : Nat) (W W' : World) : Prop := Below n₀ W W' ∧ W'.cell? ⟨Bs, 0, none⟩ = W.cell? ⟨Bs, 0, none⟩
theorem Kp2.refl (n₀ Bs : Nat) (W : World) : Kp2 n₀ Bs W W := ⟨Below.refl _ _, rfl⟩
theorem Kp2.trans {n₀ Bs : Nat} {A B C : World} (h : Kp2 n₀ Bs A B) (k : Kp2 n₀ Bs B C) : Kp2 n₀ Bs A C := ⟨h.1.trans k.1, k.2.trans h.2⟩
theorem val_j {k : IntKind} {a b : Int} (h : a = b) : Value.int k a = .int k b := by rw [h]

set_option maxRecDepth 100000 in
set_option maxHeartbeats 2000000 in
theorem back1_in (F : Fence) (n : Nat) (h7 : F.fn 139) (hro : F.round = none) (hn : 1 ≤ n) (l Bs n₀ b off cap : Nat) (zs : List Int) (hreach : zs.length ≤ 8) (hb : b < n₀) (J Jx : List (Int × Int) → World → Prop)
    (hY : ∀ pre x W, J pre W → pre.length < zs.length → YieldAt F (n - 1) Try.prog l #[.int .i64 x.1, .int .u8 x.2] W fun e W' =>
      (e = .returned (.bool true) ∧ J (pre ++ [x]) W' ∧ Kp2 n₀ Bs W W') ∨ (e = .returned (.bool false) ∧ Jx (pre ++ [x]) W'))
    (W : World) (hBs : W.cell? ⟨Bs, 0, none⟩ = some (.slice (some ⟨b, off, none⟩) zs.length cap)) (hc : ∀ j, j < zs.length → W.cell? ⟨b, off + j, none⟩ = some (.int .u8 (zs[j]?.getD 0))) (h0 : J [] W) :
    CallsIn F n Try.prog 139 #[.func (.yield l) #[] #[], .pointer (some ⟨Bs, 0, none⟩)] W fun e W' => (∃ v, e = .returned v) ∧
      ((∃ ys, ys = cameTo (backAt zs) zs.length ∧ J ys W') ∨ (∃ pre, (∃ k, k ≤ zs.length ∧ pre = cameTo (backAt zs) k) ∧ Jx pre W')) := by
  refine callsIn_of_wp Try.func139 rfl h7 ?_ hro
  simp only [Try.ntmps139, List.size_toArray, List.length_cons, List.length_nil, Nat.reduceAdd, Nat.reduceSub, Array.replicate_succ, Array.replicate_zero, List.push_toArray, List.append_toArray, List.nil_append, List.cons_append]
  gi_wp2
  gi_loopw [3] (fun i wr => ∃ k : Nat, k ≤ zs.length ∧ i = .int .i64 ((zs.length : Int) - 1 - (k : Int)) ∧ J (cameTo (backAt zs) k) wr ∧ Kp2 n₀ Bs W wr)
    (fun i _ => (intOf i + 1).toNat)
  case atStart => exact ⟨0, Nat.zero_le _, by simp, h0, Kp2.refl _ _ _⟩
  case round =>
    obtain ⟨k, hk, rfl, hJs, hnx⟩ := hrel
    by_cases hlt : k < zs.length
    · obtain ⟨m, hm⟩ : ∃ m : Nat, zs.length = m + k + 1 := ⟨zs.length - 1 - k, by omega⟩
      have hcx : wr.cell? ⟨b, off + m, none⟩ = some (.int .u8 (zs[m]?.getD 0)) := (hnx.1.cell (p := ⟨b, off + m, none⟩) hb).trans (hc m (by omega))
      have hbx : wr.cell? ⟨Bs, 0, none⟩ = some (.slice (some ⟨b, off, none⟩) zs.length cap) := hnx.2.trans hBs
      have e1 : (zs.length : Int) - 1 - (k : Int) = (m : Int) := by omega
      have hml : m < zs.length := by omega
      obtain ⟨fn, tmps, assign, body, hy, hR⟩ := hY _ (backAt zs k) wr hJs (by rw [cameTo_length]; exact hlt)
      have e2 : backAt zs k = ((m : Int), zs[m]?.getD 0) := by unfold backAt; rw [e1, show zs.length - 1 - k = m by omega]
      obtain ⟨x, hx⟩ : ∃ x, zs[m]?.getD 0 = x := ⟨_, rfl⟩
      rw [hx] at hcx e2
      clear hx
      rw [e2] at hy hR
      dsimp only at hy
      have HM : Hid (zs.length = m + k + 1) := hm
      have HE : Hid (backAt zs k = ((m : Int), x)) := e2
      clear hm e2
      gi_wp2
      refine hR.mono ?_
      rintro e W3 (⟨rfl, hJ3, hk3⟩ | ⟨rfl, hJx3⟩)
      · gi_wp2
        go_roundw
        case rel => exact ⟨k + 1, by omega, val_j (by omega), by rw [cameTo_succ, HE.out]; exact hJ3, hnx.trans hk3⟩
        case measure => simp [intOf]; omega
      · gi_wp2
        refine bodyPost_ret (results_none rfl _ _ _) rfl ?_
        exact ⟨⟨_, rfl⟩, .inr ⟨_, ⟨k + 1, by omega, by rw [cameTo_succ, HE.out]⟩, hJx3⟩⟩
    · obtain rfl : k = zs.length := by omega
      gi_wp2
      go_end0
      exact ⟨⟨_, rfl⟩, .inl ⟨_, rfl, hJs⟩⟩

set_option maxHeartbeats 1000000 in
/-- slices.Backward(s). -/
theorem back_in (F : Fence) (n : Nat) (h5 : F.fn 138) (hro : F.round = none) (a : Option Addr) (len cap : Nat) (w : World) :
    CallsIn F n Try.prog 138 #[.slice a len cap] w fun e w' => e = .returned (.func (.func 139) #[] #[.pointer (some ⟨w.heap.size, 0, none⟩)]) ∧ w' = w.alloc (.cells #[.slice a len cap] 28) := by
  refine callsIn_of_wp Try.func138 rfl h5 ?_ hro
  simp only [Try.ntmps138, List.size_toArray, List.length_cons, List.length_nil, Nat.reduceAdd, Nat.reduceSub, Array.replicate_succ, Array.replicate_zero, List.push_toArray, List.append_toArray, List.nil_append, List.cons_append]
  gi_wp2
  go_ret
  exact ⟨rfl, rfl⟩

theorem back_stops (F : Fence) (n : Nat) (h8 : F.fn 139) (hro : F.round = none) (hn : 1 ≤ n) (Bs n₀ b off cap : Nat) (zs : List Int) (hreach : zs.length ≤ 8) (w : World) (hBs : Bs < w.heap.size) (hb : b < n₀) (hn₀ : n₀ ≤ w.heap.size)
    (hc : w.cell? ⟨Bs, 0, none⟩ = some (.slice (some ⟨b, off, none⟩) zs.length cap)) (hI : ∀ j, j < zs.length → w.cell? ⟨b, off + j, none⟩ = some (.int .u8 (zs[j]?.getD 0))) :
    SeqStopsK F n Try.prog 139 #[.pointer (some ⟨Bs, 0, none⟩)] (fun x : Int × Int => #[Value.int .i64 x.1, Value.int .u8 x.2]) (Kp2 n₀ Bs) (fun ys => ys = cameTo (backAt zs) zs.length)
      (fun pre => ∃ k, k ≤ zs.length ∧ pre = cameTo (backAt zs) k) zs.length w := fun l J Jx W hW _ _ hY h0 => by
  have hc' := (hW.cell (p := ⟨Bs, 0, none⟩) hBs).trans hc
  have hI' : ∀ j, j < zs.length → W.cell? ⟨b, off + j, none⟩ = some (.int .u8 (zs[j]?.getD 0)) := fun j hj => (hW.cell (p := ⟨b, off + j, none⟩) (Nat.lt_of_lt_of_le hb hn₀)).trans (hI j hj)
  exact back1_in F n h8 hro hn l Bs n₀ b off cap zs hreach hb J Jx hY W hc' hI' h0

theorem kp2_b {n₀ Bs : Nat} {w : World} (hn : n₀ ≤ w.heap.size) (hB : Bs < w.heap.size) (W : World) (l : Nat) (o o' : Obj) (hl : w.heap.size ≤ l) (h : W.heap[l]? = some o) (h1 : o.isCells = false) (h2 : o.isWalk = false) : Kp2 n₀ Bs W (W.putObj l o') :=
  ⟨belowK_b hn W l o o' hl h h1 h2, (belowK_b (n₀ := w.heap.size) (Nat.le_refl _) W l o o' hl h h1 h2).cell (p := ⟨Bs, 0, none⟩) hB⟩

/-- The number that has come to be. -/
def rdP : List (Int × Int) → Int := List.foldl (fun n x => bits .or .u64 (IntKind.u64.wrap (n * 256)) (IntKind.u64.wrap x.2)) 0
theorem rdP_snoc (pre : List (Int × Int)) (x : Int × Int) : rdP (pre ++ [x]) = bits .or .u64 (IntKind.u64.wrap (rdP pre * 256)) (IntKind.u64.wrap x.2) := by simp [rdP]

set_option maxRecDepth 100000 in
set_option maxHeartbeats 2000000 in
theorem readFixed_in (F : Fence) (n : Nat) (h3 : F.fn 137) (h5 : F.fn 138) (h7 : F.fn 139) (hro : F.round = none) (hn : 3 ≤ n) (b off cap : Nat) (zs : List Int) (hreach : zs.length ≤ 8) (w : World) (hb : b < w.heap.size) (hI : ∀ j, j < zs.length → w.cell? ⟨b, off + j, none⟩ = some (.int .u8 (zs[j]?.getD 0))) :
    CallsIn F n Try.prog 137 #[.slice (some ⟨b, off, none⟩) zs.length cap] w fun e W' => e = .returned (.int .u64 (rdP (cameTo (backAt zs) zs.length))) ∧ Below w.heap.size w W' := by
  have h1 : 1 ≤ n := by omega
  refine callsIn_of_wp_marks Try.func137 rfl h3 ?_ hro
  simp only [Try.ntmps137, List.size_toArray, List.length_cons, List.length_nil, Nat.reduceAdd, Nat.reduceSub, Array.replicate_succ, Array.replicate_zero, List.push_toArray, List.append_toArray, List.nil_append, List.cons_append]
  gi_wp2_with (gi_at_call 138; refine (back_in F (n - 1) h5 hro _ _ _ _).mono ?_; rintro e w' ⟨rfl, rfl⟩)
  have bS := Boxed.new w 23 (.int .u64 0)
  have bN := Boxed.new (w.alloc (.cells #[.int .u64 0] 23)) 28 (.slice (some ⟨b, off, none⟩) zs.length cap)
  rw [World.size_alloc] at bN
  have hB0 : Below w.heap.size w ((w.alloc (.cells #[.int .u64 0] 23)).alloc (.cells #[.slice (some ⟨b, off, none⟩) zs.length cap] 28)) := ((Below.refl _ w).alloc (Nat.le_refl _) _).alloc (by simp) _
  refine wpIn_rangeFunc_ownG hro h1 (gf := 139) (lb := #[.pointer (some ⟨w.heap.size + 1, 0, none⟩)]) rfl h7 (enters_of Try.func139 (by kernel_rfl) rfl)
    (back_stops F (n - 1) h7 hro (by omega) (w.heap.size + 1) w.heap.size b off cap zs hreach _ (by simp) hb (by simp; omega) bN.cell (fun j hj => (hB0.cell (p := ⟨b, off + j, none⟩) hb).trans (hI j hj))) Kp2.trans (kp2_b (by simp; omega) (by simp)) (Below.refl _ _) (fun _ => rfl)
    (fun pre W => (W.cell? ⟨w.heap.size, 0, none⟩ = some (.int .u64 (rdP pre)) ∧ W.frozen? ⟨w.heap.size, 0, none⟩ = false) ∧ Below w.heap.size w W)
    (fun _ _ _ => False)
    (OwnFrom.and (Own.from (fun s A B row hs hg hr => ⟨cell_kept hs.1 hg hr, (frozen_kept hs.1 hg hr).trans hs.2⟩) _) (ownFrom_below (Nat.le_refl _) (by simp; omega)))
    (fun _ _ _ _ _ hs _ _ => hs)
    ⟨⟨(bS.alloc _).cell, (bS.alloc _).frozen⟩, hB0⟩
    (fun x => { tmps := #[.slice (some ⟨b, off, none⟩) zs.length cap, undef, .int .u64 0, .pointer (some ⟨w.heap.size, 0, none⟩), undef, .int .u8 x.2, .slice (some ⟨b, off, none⟩) zs.length cap, .func (.func 139) #[] #[.pointer (some ⟨w.heap.size + 1, 0, none⟩)], .int .i64 x.1, .int .u8 x.2, undef, undef, undef, undef, undef, undef], defers := [] }) ?assign ?body ?done ?stop
  case assign =>
    intro l x W K hK
    gi_wp2
    exact hK
  case body =>
    rintro l pre x W ⟨⟨hc, hf⟩, hB⟩ _
    gi_wp2
    exact ⟨(KeepsOthers.setCell _ _ _).from _, ⟨(Below.refl w.heap.size W).setCell (p := ⟨w.heap.size, 0, none⟩) (Nat.le_refl _) _, World.cell?_setCell_other _ _ _ _ (by simp)⟩, ⟨by rw [rdP_snoc]; exact World.cell?_setCell_same' _ _ _ (by rw [hc]; rfl), by rw [World.frozen?_setCell]; exact hf⟩, hB.setCell (p := ⟨w.heap.size, 0, none⟩) (Nat.le_refl _) _⟩
  case done =>
    rintro D ys W hD rfl ⟨⟨hc, _⟩, hB⟩ hK
    gi_wp2
    refine ⟨by simp, .inl ⟨_, _, rfl, run_takeDeferred hK, ?_⟩⟩
    exact ⟨_, results_tmp rfl _ _ _, rfl, hB.trans (belowK_b (w := w) (Nat.le_refl _) W D _ _ (by simp at hD; omega) hK rfl rfl)⟩
  case stop =>
    rintro D c pre W _ _ h _
    exact h.elim

/-- readFixed, as a plain call. -/
theorem readFixed_calls (b off cap : Nat) (zs : List Int) (hreach : zs.length ≤ 8) (w : World) (hb : b < w.heap.size) (hI : ∀ j, j < zs.length → w.cell? ⟨b, off + j, none⟩ = some (.int .u8 (zs[j]?.getD 0))) :
    Calls Try.prog 137 #[.slice (some ⟨b, off, none⟩) zs.length cap] w fun e W' => e = .returned (.int .u64 (rdP (cameTo (backAt zs) zs.length))) ∧ Below w.heap.size w W' := by
  refine (callsIn_wide (n := 3)).1 ?_
  exact readFixed_in _ 3 trivial trivial trivial rfl (Nat.le_refl _) b off cap zs hreach w hb hI
end Go.Proofs.Ytkmpcheamdadcaa
namespace Go.Proofs.Ytkmpcheamdadcaa
open Go.RowKit
set_option linter.unusedVariables false

/-- The bytes of a number, the lowest first. -/
def byteAt (n : Int) (i : Nat) : Int := n / 2 ^ (8 * i) % 256
def fxA (s : Nat) (n : Int) (k : Nat) : Array Value := ((List.range s).map fun i => Value.int .u8 (if i < k then byteAt n i else 0)).toArray
theorem fxA_get (s : Nat) (n : Int) (k i : Nat) (h : i < s) : (fxA s n k)[i]? = some (.int .u8 (if i < k then byteAt n i else 0)) := by
  simp [fxA, h]
theorem fxA_size (s : Nat) (n : Int) (k : Nat) : (fxA s n k).size = s := by simp [fxA]
theorem fxA_set (s : Nat) (n : Int) (k : Nat) (h : k < s) (v : Int) (hv : v = byteAt n k) : (fxA s n k).setIfInBounds k (.int .u8 v) = fxA s n (k + 1) := by
  subst hv
  apply Array.ext_getElem?
  intro i
  rw [Array.getElem?_setIfInBounds]
  by_cases hik : k = i
  · subst hik; rw [if_pos rfl, if_pos (by rw [fxA_size]; exact h), fxA_get s n _ k h, if_pos (by omega)]
  · rw [if_neg hik]
    by_cases hi : i < s
    · rw [fxA_get s n _ i hi, fxA_get s n _ i hi]
      congr 2
      by_cases h1 : i < k
      · rw [if_pos h1, if_pos (by omega)]
      · rw [if_neg h1, if_neg (by omega)]
    · rw [Array.getElem?_eq_none (by rw [fxA_size]; omega), Array.getElem?_eq_none (by rw [fxA_size]; omega)]

set_option maxHeartbeats 400000 in
theorem fixed_any (s : Nat) (hs : s ≤ 8) (hmk : ∀ w, (Instr.makeSlice 28 (.int .i64 s) (.int .i64 s)).run Try.prog w = .ok (.slice (some ⟨w.heap.size, 0, none⟩) s s) (w.alloc (.cells (fxA s 0 0) 5))) (n : Int) (w : World) (h0 : 0 ≤ n) (h1 : n < 18446744073709551616) :
    Calls Try.prog 133 #[.int .u64 n, .int .i64 s] w fun e w' => e = .returned (.slice (some ⟨w.heap.size, 0, none⟩) s s) ∧ w' = w.alloc (.cells (fxA s n s) 5) := by
  have hz : fxA s 0 0 = fxA s n 0 := by simp [fxA]
  rw [hz] at hmk; clear hz
  go_enter Try.func133, Try.ntmps133
  go_wp2
  go_loopw [6, 10] (fun _ i wr => ∃ k : Nat, k ≤ s ∧ i = .int .i64 k ∧ wr = w.alloc (.cells (fxA s n k) 5)) (fun _ i _ => s - (intOf i).toNat)
  case atStart => exact ⟨0, Nat.zero_le _, rfl, rfl⟩
  case round =>
    obtain ⟨k, hk, rfl, rfl⟩ := hrel
    by_cases hlt : k < s
    · have hg := fxA_get s n k k hlt
      go_wp2
      go_roundw
      case rel =>
        refine ⟨k + 1, by omega, by go_num, ?_⟩
        rw [fxA_set s n k hlt (n / 2 ^ (8 * k) % 256) rfl]
      case measure => simp [intOf]; omega
    · obtain rfl : k = s := by omega
      go_wp2
      go_ret
      exact ⟨rfl, rfl⟩

theorem mk8 : ∀ w, (Instr.makeSlice 28 (.int .i64 8) (.int .i64 8)).run Try.prog w = .ok (.slice (some ⟨w.heap.size, 0, none⟩) 8 8) (w.alloc (.cells (fxA 8 0 0) 5)) := fun _ => by kernel_rfl
theorem mk4 : ∀ w, (Instr.makeSlice 28 (.int .i64 4) (.int .i64 4)).run Try.prog w = .ok (.slice (some ⟨w.heap.size, 0, none⟩) 4 4) (w.alloc (.cells (fxA 4 0 0) 5)) := fun _ => by kernel_rfl
theorem fixed8 (n : Int) (w : World) (h0 : 0 ≤ n) (h1 : n < 18446744073709551616) :
    Calls Try.prog 133 #[.int .u64 n, .int .i64 8] w fun e w' => e = .returned (.slice (some ⟨w.heap.size, 0, none⟩) 8 8) ∧ w' = w.alloc (.cells (fxA 8 n 8) 5) :=
  fixed_any 8 (Nat.le_refl _) mk8 n w h0 h1
theorem fixed4 (n : Int) (w : World) (h0 : 0 ≤ n) (h1 : n < 18446744073709551616) :
    Calls Try.prog 133 #[.int .u64 n, .int .i64 4] w fun e w' => e = .returned (.slice (some ⟨w.heap.size, 0, none⟩) 4 4) ∧ w' = w.alloc (.cells (fxA 4 n 4) 5) :=
  fixed_any 4 (by decide) mk4 n w h0 h1

set_option maxHeartbeats 400000 in
theorem cfixed64_any (n : Int) (w : World) (h0 : 0 ≤ n) (h1 : n < 18446744073709551616) :
    Calls Try.prog 123 #[.int .u64 n] w fun e w' => e = .returned (.slice (some ⟨w.heap.size, 0, none⟩) 8 8) ∧ w' = w.alloc (.cells (fxA 8 n 8) 5) := by
  go_enter Try.func123, Try.ntmps123
  go_wp2_with (go_at_call 133; refine (fixed8 n _ h0 h1).mono ?_; rintro e w' ⟨rfl, rfl⟩)
  go_ret
  exact ⟨rfl, rfl⟩
/-- Check's answer. -/
def checkV (u : ByteArray) (s k : Int) : Int := if 1024 < u.size then 2 else if 72057594037927935 < s ∨ k < 0 ∨ 2 < k then 1 else 0
theorem ret_ii {k : IntKind} {a b : Int} (h : a = b) : Ending.returned (.int k a) = .returned (.int k b) := by rw [h]

set_option maxHeartbeats 400000 in
theorem ccheck_any (u : ByteArray) (s k : Int) (w : World) :
    Calls Try.prog 89 #[.agg #[.string u, .int .u64 s, .int .i64 k]] w fun e w' => e = .returned (.int .i64 (checkV u s k)) ∧ w' = w.alloc (.cells #[.string u, .int .u64 s, .int .i64 k] 48) := by
  go_enter Try.func89, Try.ntmps89
  go_wp2
  all_goals (go_ret; exact ⟨ret_ii (by unfold checkV; split <;> (try split) <;> omega), rfl⟩)
set_option maxHeartbeats 400000 in
theorem rcheck_any (u : ByteArray) (s k : Int) (w : World) :
    Calls Try.prog 94 #[.agg #[.string u, .int .u64 s, .int .i64 k]] w fun e w' => e = .returned (.int .i64 (checkV u s k)) ∧ w' = w.alloc (.cells #[.string u, .int .u64 s, .int .i64 k] 48) := by
  go_enter Try.func94, Try.ntmps94
  go_wp2
  all_goals (go_ret; exact ⟨ret_ii (by unfold checkV; split <;> (try split) <;> omega), rfl⟩)
end Go.Proofs.Ytkmpcheamdadcaa
namespace Go.Proofs.Ytkmpcheamdadcaa
set_option linter.unusedVariables false
set_option linter.unusedSimpArgs false

/-- The number of bytes, the lowest first. -/
def leV : List Int → Int
  | [] => 0
  | c :: l => c + 256 * leV l
theorem leV_bd : ∀ (l : List Int), (∀ n ∈ l, 0 ≤ n ∧ n < 256) → 0 ≤ leV l ∧ leV l < 256 ^ l.length
  | [], _ => by simp [leV]
  | c :: l, h => by
    have ih := leV_bd l (fun n hn => h n (by simp [hn]))
    have hc := h c (by simp)
    simp only [leV, List.length_cons, Int.pow_succ]
    omega
/-- One byte below what has come. -/
theorem or_byte (n c : Int) (h0 : 0 ≤ n) (h1 : n < 72057594037927936) (c0 : 0 ≤ c) (c1 : c < 256) : bits .or .u64 (IntKind.u64.wrap (n * 256)) (IntKind.u64.wrap c) = c + 256 * n := by
  have e1 : IntKind.u64.wrap (n * 256) = n * 256 := by rw [IntKind.wrap_u64]; omega
  have e2 : IntKind.u64.wrap c = c := by rw [IntKind.wrap_u64]; omega
  rw [e1, e2, bits_join .u64 64 (by decide) wraps_u64 8 _ _ (by omega) (by omega) (by omega) (by omega) (by omega) (by omega)]
  omega
/-- The fold over bytes as they come. -/
def rdL : List Int → Int := List.foldl (fun n x => bits .or .u64 (IntKind.u64.wrap (n * 256)) (IntKind.u64.wrap x)) 0
theorem rdP_rdL (p : List (Int × Int)) : rdP p = rdL (p.map (·.2)) := by
  unfold rdP rdL
  rw [List.foldl_map]
theorem back_rev (zs : List Int) : (cameTo (backAt zs) zs.length).map (·.2) = zs.reverse := by
  apply List.ext_getElem
  · simp [cameTo]
  · intro i h1 h2
    have hi : i < zs.length := by simpa [cameTo] using h1
    have hj : zs.length - 1 - i < zs.length := by omega
    simp [cameTo, backAt, hj]
theorem pow256 (k : Nat) (h : k ≤ 7) : (256 : Int) ^ k ≤ 72057594037927936 := by
  have : k = 0 ∨ k = 1 ∨ k = 2 ∨ k = 3 ∨ k = 4 ∨ k = 5 ∨ k = 6 ∨ k = 7 := by omega
  rcases this with h | h | h | h | h | h | h | h <;> subst h <;> decide
theorem rdL_rev : ∀ (l : List Int), l.length ≤ 8 → (∀ n ∈ l, 0 ≤ n ∧ n < 256) → rdL l.reverse = leV l
  | [], _, _ => rfl
  | c :: l, hl, h => by
    have hb := fun n hn => h n (List.mem_cons_of_mem c hn)
    have ih := rdL_rev l (by simp at hl; omega) hb
    have bd := leV_bd l hb
    have hc := h c (by simp)
    have hp := pow256 l.length (by simp at hl; omega)
    rw [List.reverse_cons]
    unfold rdL
    rw [List.foldl_append]
    show bits .or .u64 (IntKind.u64.wrap (rdL l.reverse * 256)) (IntKind.u64.wrap c) = _
    rw [ih, or_byte _ _ bd.1 (by omega) hc.1 hc.2]
    rfl
theorem rd_le (zs : List Int) (h : zs.length ≤ 8) (hb : ∀ n ∈ zs, 0 ≤ n ∧ n < 256) : rdP (cameTo (backAt zs) zs.length) = leV zs := by
  rw [rdP_rdL, back_rev, rdL_rev zs h hb]
/-- The bytes of a number. -/
def byts (s : Nat) (n : Int) : List Int := (List.range s).map (byteAt n)
theorem byts_len (s : Nat) (n : Int) : (byts s n).length = s := by simp [byts]
theorem byts_bd (s : Nat) (n : Int) : ∀ c ∈ byts s n, 0 ≤ c ∧ c < 256 := by
  intro c hc
  obtain ⟨i, _, rfl⟩ := List.mem_map.1 hc
  unfold byteAt; omega
theorem byts_succ (s : Nat) (n : Int) : byts (s + 1) n = (n % 256) :: byts s (n / 256) := by
  unfold byts
  rw [List.range_succ_eq_map, List.map_cons, List.map_map]
  congr 1
  · simp [byteAt]
  · apply List.map_congr_left
    intro i _
    simp only [Function.comp, byteAt]
    rw [Nat.succ_eq_add_one, Nat.mul_add, Int.pow_add, Int.mul_comm]
    have e : n / 256 / 2 ^ (8 * i) = n / (256 * 2 ^ (8 * i)) := by
      rw [Int.ediv_ediv, if_neg (by intro h; exact absurd h.1 (by decide)), Int.sub_zero]
    rw [e]
    rfl
theorem leV_byts : ∀ (s : Nat) (n : Int), 0 ≤ n → n < 256 ^ s → leV (byts s n) = n
  | 0, n, h0, h1 => by simp at h1; simp [byts, leV]; omega
  | s + 1, n, h0, h1 => by
    rw [byts_succ]
    simp only [leV]
    rw [leV_byts s (n / 256) (by omega) (by rw [Int.pow_succ] at h1; omega)]
    omega
end Go.Proofs.Ytkmpcheamdadcaa
namespace Go.Proofs.Ytkmpcheamdadcaa
open Go.RowKit
set_option linter.unusedVariables false

/-- Bytes as cells. -/
def bc (l : List Int) : List Value := l.map (Value.int .u8)
theorem bc_len (l : List Int) : (bc l).length = l.length := by simp [bc]
theorem bc_app (l m : List Int) : bc (l ++ m) = bc l ++ bc m := by simp [bc]
theorem bc_get (l : List Int) (j : Nat) (u : Value) (h : (bc l)[j]? = some u) : ∃ h' : j < l.length, u = .int .u8 l[j] := by
  obtain ⟨h1, h2⟩ := List.getElem?_eq_some_iff.1 h
  have h1' : j < l.length := by simpa [bc] using h1
  exact ⟨h1', by rw [← h2]; simp [bc]⟩
theorem bc_one (l : List Int) : ∀ u ∈ bc l, u.oneCell' = true := by
  intro u hu
  obtain ⟨_, _, rfl⟩ := List.mem_map.1 hu
  rfl

/-- A slice of bytes in memory of the call's own (blocks from 'base' on): it reads as l; what is spare behind it may be written. -/
def OwnB (w : World) (base : Nat) (v : Value) (l : List Int) : Prop :=
  (v = .slice none 0 0 ∧ l = []) ∨
  ∃ b off cap, v = .slice (some ⟨b, off, none⟩) l.length cap ∧ base ≤ b ∧ b < w.heap.size ∧ l.length ≤ cap ∧ cap ≤ maxLen ∧
    (∀ j, (h : j < l.length) → w.cell? ⟨b, off + j, none⟩ = some (.int .u8 l[j])) ∧
    (∀ j, l.length ≤ j → j < cap → (w.cell? ⟨b, off + j, none⟩).isSome = true ∧ w.frozen? ⟨b, off + j, none⟩ = false)

theorem OwnB.nil (w : World) (base : Nat) : OwnB w base (.slice none 0 0) [] := .inl ⟨rfl, rfl⟩
theorem OwnB.lt {w : World} {base : Nat} {v : Value} {l : List Int} (h : OwnB w base v l) : ∀ k, v.ownBlock = some k → base ≤ k ∧ k < w.heap.size := by
  rcases h with ⟨rfl, rfl⟩ | ⟨b, off, cap, rfl, hb, hlt, _⟩
  · intro k hk; simp [Value.ownBlock] at hk
  · intro k hk; simp [Value.ownBlock] at hk; subst hk; exact ⟨hb, hlt⟩
theorem OwnB.mono {w : World} {base base' : Nat} {v : Value} {l : List Int} (h : OwnB w base v l) (hb : base' ≤ base) : OwnB w base' v l := by
  rcases h with ⟨rfl, rfl⟩ | ⟨b, off, cap, rfl, h1, h2⟩
  · exact .inl ⟨rfl, rfl⟩
  · exact .inr ⟨b, off, cap, rfl, by omega, h2⟩
/-- In a world that is the same at its block. -/
theorem OwnB.same {w w' : World} {base : Nat} {v : Value} {l : List Int} (h : OwnB w base v l) (hs : w.heap.size ≤ w'.heap.size)
    (hk : ∀ k, v.ownBlock = some k → w'.heap[k]? = w.heap[k]?) : OwnB w' base v l := by
  rcases h with ⟨rfl, rfl⟩ | ⟨b, off, cap, rfl, h1, h2, h3, h4, h5, h6⟩
  · exact .inl ⟨rfl, rfl⟩
  · have e := hk b rfl
    refine .inr ⟨b, off, cap, rfl, h1, by omega, h3, h4, ?_, ?_⟩
    · intro j hj; rw [World.cell?_of_block (a := ⟨b, off + j, none⟩) e]; exact h5 j hj
    · intro j hj hj'; rw [World.cell?_of_block (a := ⟨b, off + j, none⟩) e, World.frozen?_of_block (a := ⟨b, off + j, none⟩) e]; exact h6 j hj hj'
theorem OwnB.grown {w w' : World} {base : Nat} {v : Value} {l : List Int} {row : Option Nat} (h : OwnB w base v l) (hg : w.grownBy w' row)
    (hne : ∀ k, v.ownBlock = some k → row ≠ some k) : OwnB w' base v l :=
  h.same hg.size fun k hk => hg.block k (h.lt k hk).2 (Ne.symm (hne k hk))
theorem OwnB.alloc {w : World} {base : Nat} {v : Value} {l : List Int} (h : OwnB w base v l) (o : Obj) : OwnB (w.alloc o) base v l :=
  h.same (by simp) fun k hk => Below.heap_alloc w o k (h.lt k hk).2
theorem OwnB.drew {w : World} {base : Nat} {v : Value} {l : List Int} (h : OwnB w base v l) : OwnB w.drew base v l :=
  h.same (by simp) fun k hk => rfl
theorem OwnB.below {w w' : World} {base B : Nat} {v : Value} {l : List Int} (h : OwnB w base v l) (hb : Below B w w') (hB : w.heap.size ≤ B) : OwnB w' base v l :=
  h.same hb.size fun k hk => hb.block k (by have := (h.lt k hk).2; omega)
/-- A new block whose cells are these bytes and a rest that is not marked. -/
theorem OwnB.ofBlock (w : World) (base : Nat) (l : List Int) (rest : List Value) (cs : Array Value) (fr : Nat × Nat) (hcs : cs = (bc l ++ rest).toArray) (hb : base ≤ w.heap.size)
    (hfr : fr = (0, 0) ∨ fr.1 = cs.size) (hm : l.length + rest.length ≤ maxLen) (cap : Nat) (hcap : cap = l.length + rest.length) :
    OwnB (w.alloc (.cells cs 5 fr)) base (.slice (some ⟨w.heap.size, 0, none⟩) l.length cap) l := by
  subst hcap
  have hs : cs.size = l.length + rest.length := by rw [hcs]; simp [bc]
  refine .inr ⟨w.heap.size, 0, _, rfl, hb, by simp, by omega, hm, ?_, ?_⟩
  · intro j hj
    rw [Nat.zero_add, World.cell?_alloc_mark, hcs]
    simp [bc, List.getElem?_append, hj]
  · intro j hj hj'
    obtain ⟨lo, hi⟩ := fr
    rw [Nat.zero_add, World.cell?_alloc_mark, World.frozen?_alloc_mark]
    refine ⟨by rw [Array.getElem?_eq_getElem (by omega)]; rfl, ?_⟩
    rcases hfr with h | h
    · simp at h; obtain ⟨rfl, rfl⟩ := h; simp
    · have h' : lo = cs.size := h
      simp; omega
theorem OwnB.cells {w : World} {base b off cap n : Nat} {l : List Int} (h : OwnB w base (.slice (some ⟨b, off, none⟩) n cap) l) : n = l.length ∧ base ≤ b ∧ b < w.heap.size ∧ l.length ≤ maxLen ∧ ∀ j, (h : j < l.length) → w.cell? ⟨b, off + j, none⟩ = some (.int .u8 l[j]) := by
  rcases h with ⟨h, _⟩ | ⟨b', off', cap', hv, h1, h2, h3, h4, h5, h6⟩
  · cases h
  · cases hv; exact ⟨rfl, h1, h2, by omega, h5⟩
theorem OwnB.form {w : World} {base : Nat} {v : Value} {l : List Int} (h : OwnB w base v l) (hl : 0 < l.length) : ∃ b off cap, v = .slice (some ⟨b, off, none⟩) l.length cap := by
  rcases h with ⟨_, rfl⟩ | ⟨b, off, cap, hv, _⟩
  · simp at hl
  · exact ⟨b, off, cap, hv⟩
theorem OwnB.news {w : World} {base b off cap n : Nat} {l : List Int} (h : OwnB w base (.slice (some ⟨b, off, none⟩) n cap) l) : ∀ j u, (bc l)[j]? = some u → w.cell? ((⟨b, off, none⟩ : Addr).add j) = some u := by
  intro j u hu
  obtain ⟨hj, rfl⟩ := bc_get l j u hu
  have e : (⟨b, off, none⟩ : Addr).add j = ⟨b, off + j, none⟩ := by unfold Addr.add; split <;> simp_all
  rw [e]; exact h.cells.2.2.2.2 j hj

section
variable {P : Program}
/-- append onto such a slice: another such slice. -/
theorem OwnB.run_append {w : World} {base : Nat} {v : Value} {l : List Int} (h : OwnB w base v l) (t tx ty : TypeId) (i : TypeInfo) (ht : P.underlying t = some (.slice 5)) (hi : P.info? 5 = some i)
    (hz : i.zero = some (.int .u8 0)) (hsize : i.size = 1) (hby : i.bytes = 1) (x : Value) (m : List Int) (hs : Src P 1 tx x m.length (bc m) w) (hbase : base ≤ w.heap.size)
    (hb : l.length + m.length ≤ 140737488355328) :
    ∃ v' w', (Builtin.append_ #[t, tx] ty #[v, x]).run P w = .ok v' w' ∧ OwnB w' base v' (l ++ m) ∧ w.grownBy w' v.ownBlock ∧ (v'.ownBlock = v.ownBlock ∨ v'.ownBlock = some w.heap.size) := by
  have hmx : l.length + m.length ≤ maxLen := by unfold maxLen; omega
  rw [← hsize] at hs
  have grow : ∀ (bs : Option Addr) (cap : Nat), cap < l.length + m.length → (Builtin.firstCells i.size l.length (.slice bs l.length cap)).run P w.drew = .ok (bc l).toArray w.drew →
      ∃ v' w', (Builtin.append_ #[t, tx] ty #[.slice bs l.length cap, x]).run P w = .ok v' w' ∧ OwnB w' base v' (l ++ m) ∧ (∀ row, w.grownBy w' row) ∧ v'.ownBlock = some w.heap.size := by
    intro bs cap hcap hold
    have hr := run_append_grow_src (P := P) w t tx ty 5 i (.int .u8 0) ht hi hz bs l.length cap (bc l) hold x m.length (bc m) hs hcap (by omega) (growslice_fits hcap (by rw [hby]; omega))
    have hge := grownCap_ge w (l.length + m.length) cap 5
    have hcm : grownCap w (l.length + m.length) cap 5 ≤ maxLen := grownCap_le_maxLen w (l.length + m.length) cap 5 hmx
    refine ⟨_, _, hr, ?_, fun row => ⟨rfl, rfl, rfl, by simp, fun k hk _ => Below.heap_alloc w.drew _ k hk⟩, rfl⟩
    have e : l.length + m.length = (l ++ m).length := by simp
    rw [e] at hge hcm ⊢
    have hzl : (Builtin.zeroCells (Value.int .u8 0).cells (grownCap w (l ++ m).length cap 5 - (l ++ m).length)).toList.length = grownCap w (l ++ m).length cap 5 - (l ++ m).length := by
      rw [Array.length_toList (xs := Builtin.zeroCells (Value.int .u8 0).cells (grownCap w (l ++ m).length cap 5 - (l ++ m).length)), size_zeroCells]
      exact Nat.mul_one _
    refine OwnB.ofBlock w.drew base (l ++ m) (Builtin.zeroCells (Value.int .u8 0).cells (grownCap w (l ++ m).length cap 5 - (l ++ m).length)).toList _ (0, 0) ?_ hbase (.inl rfl) ?_ _ ?_
    · rw [bc_app, ← List.toArray_appendList]
      simp
    · rw [hzl]; omega
    · rw [hzl]; omega
  rcases h with ⟨rfl, rfl⟩ | ⟨b, off, cap, rfl, h1, h2, h3, h4, h5, h6⟩
  · by_cases hm : m.length = 0
    · have hm' : m = [] := List.eq_nil_of_length_eq_zero hm
      subst hm'
      have hr := run_append_nothing (P := P) w t tx ty 5 i ht hi none 0 0
      refine ⟨.slice none 0 0, w, ?_, .inl ⟨rfl, rfl⟩, ⟨rfl, rfl, rfl, Nat.le_refl _, fun _ _ _ => rfl⟩, .inl rfl⟩
      exact hr (Nat.le_refl 0) x hs
    · obtain ⟨v', w', hr, ho, hg, hv⟩ := grow none 0 (by simp; omega) (by simpa [bc] using run_firstCells_none (P := P) w.drew i.size 0 0 0)
      exact ⟨v', w', hr, ho, hg _, .inr hv⟩
  · by_cases hroom : l.length + m.length ≤ cap
    · have hr := run_append_room_src (P := P) w t tx ty 5 i ht hi b off l.length cap x m.length (bc m) hs hroom
        (by intro j hj; rw [bc_len] at hj; rw [hsize, Nat.mul_one, Nat.add_assoc]; exact (h6 (l.length + j) (by omega) (by omega)).1)
        (by intro j hj; rw [bc_len] at hj; rw [hsize, Nat.mul_one, Nat.add_assoc]; exact (h6 (l.length + j) (by omega) (by omega)).2)
      rw [hsize, Nat.mul_one] at hr
      refine ⟨_, _, hr, ?_, ⟨World.os_setCells w b _ _, ?_, World.output_setCells w b _ _, ?_, ?_⟩, .inl rfl⟩
      · refine .inr ⟨b, off, cap, by rw [List.length_append], h1, ?_, by simpa using hroom, h4, ?_, ?_⟩
        · have : (w.setCells b (off + l.length) (bc m)).heap.size = w.heap.size := by
            have hh : ∀ (vs : List Value) (o : Nat) (w : World), (w.setCells b o vs).heap.size = w.heap.size := by
              intro vs; induction vs with
              | nil => intro o w; rfl
              | cons v r ih => intro o w; show ((w.setCell _ v).setCells b (o + 1) r).heap.size = _; rw [ih]; simp
            exact hh _ _ _
          omega
        · intro j hj
          by_cases hjl : j < l.length
          · rw [World.cell?_setCells_out b (bc m) (off + l.length) w ⟨b, off + j, none⟩ (fun _ _ => .inl (by simp; omega)), h5 j hjl, List.getElem_append_left hjl]
          · have hjm : j - l.length < (bc m).length := by rw [bc_len]; simp at hj; omega
            have hin := World.cell?_setCells_in b (bc m) (off + l.length) w (by
              intro j hj; rw [bc_len] at hj; rw [Nat.add_assoc]; exact (h6 (l.length + j) (by omega) (by omega)).1) (j - l.length) hjm
            have e : off + l.length + (j - l.length) = off + j := by omega
            rw [e] at hin
            rw [hin, List.getElem_append_right (by omega)]
            simp [bc]
        · intro j hj hj'
          rw [List.length_append] at hj
          rw [World.cell?_setCells_out b (bc m) (off + l.length) w ⟨b, off + j, none⟩ (fun _ _ => .inr (by rw [bc_len]; simp; omega)), World.frozen?_setCells]
          exact h6 j (by omega) hj'
      · have hh : ∀ (vs : List Value) (o : Nat) (w : World), (w.setCells b o vs).tape = w.tape := by
          intro vs; induction vs with
          | nil => intro o w; rfl
          | cons v r ih => intro o w; show ((w.setCell _ v).setCells b (o + 1) r).tape = _; rw [ih]; rfl
        exact hh _ _ _
      · have hh : ∀ (vs : List Value) (o : Nat) (w : World), (w.setCells b o vs).heap.size = w.heap.size := by
          intro vs; induction vs with
          | nil => intro o w; rfl
          | cons v r ih => intro o w; show ((w.setCell _ v).setCells b (o + 1) r).heap.size = _; rw [ih]; simp
        rw [hh]; exact Nat.le_refl _
      · intro k hk hne
        exact World.heap_setCells_other w b _ _ hk (fun e => hne (by rw [e]; rfl))
    · obtain ⟨v', w', hr, ho, hg, hv⟩ := grow (some ⟨b, off, none⟩) cap (by omega) (by
        refine run_firstCells_some (P := P) w.drew i.size l.length ⟨b, off, none⟩ l.length cap (bc l) (by rw [bc_len, hsize, Nat.mul_one]) ?_
        intro j u hu
        obtain ⟨hj, rfl⟩ := bc_get l j u hu
        have e : (⟨b, off, none⟩ : Addr).add j = ⟨b, off + j, none⟩ := by unfold Addr.add; split <;> simp_all
        rw [e]; exact h5 j hj)
      exact ⟨v', w', hr, ho, hg _, .inr hv⟩

/-- At the operation. -/
theorem OwnB.wp_append {w : World} {base : Nat} {v : Value} {l : List Int} {o : Oper} {a : Act} {K : Act → World → Prop} {Q : Exit → Act → World → Prop} (s x : Operand) (t tx : TypeId)
    (ho : o.op = .call { callee := .builtin .append, args := #[s, x], argTypes := #[t, tx] }) (hs : a.eval s = v) (h : OwnB w base v l) (i : TypeInfo) (ht : P.underlying t = some (.slice 5)) (hi : P.info? 5 = some i)
    (hz : i.zero = some (.int .u8 0)) (hsize : i.size = 1) (hby : i.bytes = 1) (xv : Value) (hx : a.eval x = xv) (m : List Int) (hsrc : Src P 1 tx xv m.length (bc m) w) (hbase : base ≤ w.heap.size)
    (hb : l.length + m.length ≤ 140737488355328)
    (hK : ∀ v' w', OwnB w' base v' (l ++ m) → w.grownBy w' v.ownBlock → (v'.ownBlock = v.ownBlock ∨ v'.ownBlock = some w.heap.size) → K (a.put o.dst v') w') : o.wp P a w K Q := by
  obtain ⟨v', w', hr, h2, h3, h4⟩ := h.run_append (P := P) t tx o.type i ht hi hz hsize hby xv m hsrc hbase hb
  unfold Oper.wp execOp
  simp only [ho, resolve, invoke, builtin, Sem.run_bind, Sem.run_pure, Result.andThen_ok, List.map_toArray, List.map_cons, List.map_nil, hs, hx, hr]
  exact hK v' w' h2 h3 h4
/-- At a plain region's list. -/
theorem OwnB.wpList_append {w : World} {base : Nat} {v : Value} {l : List Int} {ops : Array Oper} {rest : List Oper} {o : Oper} {a : Act} {Q : Exit → Act → World → Prop} (hgd : o.guard = none) (s x : Operand) (t tx : TypeId)
    (ho : o.op = .call { callee := .builtin .append, args := #[s, x], argTypes := #[t, tx] }) (hs : a.eval s = v) (h : OwnB w base v l) (i : TypeInfo) (ht : P.underlying t = some (.slice 5)) (hi : P.info? 5 = some i)
    (hz : i.zero = some (.int .u8 0)) (hsize : i.size = 1) (hby : i.bytes = 1) (xv : Value) (hx : a.eval x = xv) (m : List Int) (hsrc : Src P 1 tx xv m.length (bc m) w) (hbase : base ≤ w.heap.size)
    (hb : l.length + m.length ≤ 140737488355328)
    (hK : ∀ v' w', OwnB w' base v' (l ++ m) → w.grownBy w' v.ownBlock → (v'.ownBlock = v.ownBlock ∨ v'.ownBlock = some w.heap.size) → wpList P ops Q rest (a.put o.dst v') w') : wpList P ops Q (o :: rest) a w :=
  wpList_plain hgd fun _ hKK => OwnB.wp_append s x t tx ho hs h i ht hi hz hsize hby xv hx m hsrc hbase hb fun v' w' h2 h3 h4 => hKK _ _ (hK v' w' h2 h3 h4)
/-- At a step of a region that draws its order. -/
theorem OwnB.step_append {w : World} {base : Nat} {v : Value} {l : List Int} {ops : Array Oper} {o : Oper} {a : Act} {K : Act → World → Prop} {Q : Exit → Act → World → Prop} {E : Prop} (hgd : o.guard = none) (s x : Operand) (t tx : TypeId)
    (ho : o.op = .call { callee := .builtin .append, args := #[s, x], argTypes := #[t, tx] }) (hs : a.eval s = v) (h : OwnB w base v l) (i : TypeInfo) (ht : P.underlying t = some (.slice 5)) (hi : P.info? 5 = some i)
    (hz : i.zero = some (.int .u8 0)) (hsize : i.size = 1) (hby : i.bytes = 1) (xv : Value) (hx : a.eval x = xv) (m : List Int) (hsrc : Src P 1 tx xv m.length (bc m) w) (hbase : base ≤ w.heap.size)
    (hb : l.length + m.length ≤ 140737488355328)
    (hK : ∀ v' w', OwnB w' base v' (l ++ m) → w.grownBy w' v.ownBlock → (v'.ownBlock = v.ownBlock ∨ v'.ownBlock = some w.heap.size) → K (a.put o.dst v') w') :
    if Region.wanted o (yielded ops a.tmps) = true then Oper.wp P o a w K Q else E := by
  have hw : Region.wanted o (yielded ops a.tmps) = true := by simp [Region.wanted, hgd]
  rw [if_pos hw]
  exact OwnB.wp_append s x t tx ho hs h i ht hi hz hsize hby xv hx m hsrc hbase hb hK

/-- The string of bytes. -/
def bstr (l : List Int) : ByteArray := l.foldl (fun r n => r.push (UInt8.ofNat n.toNat)) ByteArray.empty
theorem run_string_at (w : World) (t s : TypeId) (ht : P.underlying t = some (.slice 5)) (h5 : P.underlying 5 = some (.int .u8)) (hd : P.underlying s = some .string) (b off cap : Nat) (l : List Int)
    (hc : ∀ j, (h : j < l.length) → w.cell? ⟨b, off + j, none⟩ = some (.int .u8 l[j])) :
    (convert t s (.slice (some ⟨b, off, none⟩) l.length cap)).run P w = .ok (.string (bstr l)) w := by
  rw [run_convert_bytes_string w t s 5 _ _ _ ht h5 hd]
  refine run_bytesToString w ⟨b, off, none⟩ l.length cap l ?_
  have hl := run_loadCells_list (P := P) w ⟨b, off, none⟩ (bc l) (by
    intro j u hu
    obtain ⟨hj, rfl⟩ := bc_get l j u hu
    have e : (⟨b, off, none⟩ : Addr).add j = ⟨b, off + j, none⟩ := by unfold Addr.add; split <;> simp_all
    rw [e]; exact hc j hj)
  rw [bc_len] at hl
  exact hl
theorem OwnB.run_string {w : World} {base : Nat} {v : Value} {l : List Int} (h : OwnB w base v l) (t s : TypeId) (ht : P.underlying t = some (.slice 5)) (h5 : P.underlying 5 = some (.int .u8)) (hd : P.underlying s = some .string) :
    (convert t s v).run P w = .ok (.string (bstr l)) w := by
  rcases h with ⟨rfl, rfl⟩ | ⟨b, off, cap, rfl, _, _, _, _, h5', _⟩
  · rw [run_convert_bytes_string w t s 5 _ _ _ ht h5 hd]
    simp [Conv.bytesToString, bstr]
  · exact run_string_at w t s ht h5 hd b off cap l h5'
/-- The bytes of a string. -/
def sb (s : ByteArray) : List Int := s.data.toList.map fun c => (c.toNat : Int)
theorem sb_len (s : ByteArray) : (sb s).length = s.size := by simp [sb]
theorem bytesRow_sb (s : ByteArray) (cap : Nat) : bytesRow s cap = (bc (sb s) ++ List.replicate (cap - s.size) (Value.int .u8 0)).toArray := by
  apply Array.ext'
  simp [bytesRow, bc, sb, List.map_map]
/-- The slice that a string becomes. -/
theorem OwnB.ofString (w : World) (base : Nat) (s : ByteArray) (hb : base ≤ w.heap.size) (hs : s.size ≤ maxLen) :
    OwnB (w.drew.alloc (.cells (bytesRow s (grownCap w s.size 0 5)) 5 ((bytesRow s (grownCap w s.size 0 5)).size, (bytesRow s (grownCap w s.size 0 5)).size + 1))) base (.slice (some ⟨w.heap.size, 0, none⟩) s.size (grownCap w s.size 0 5)) (sb s) := by
  have hge := grownCap_ge w s.size 0 5
  have hcm : grownCap w s.size 0 5 ≤ maxLen := grownCap_le_maxLen w s.size 0 5 hs
  have := OwnB.ofBlock w.drew base (sb s) (List.replicate (grownCap w s.size 0 5 - s.size) (Value.int .u8 0)) _ ((bytesRow s (grownCap w s.size 0 5)).size, (bytesRow s (grownCap w s.size 0 5)).size + 1) (bytesRow_sb s _) hb (.inr rfl) (by rw [sb_len]; simp; omega) (grownCap w s.size 0 5) (by rw [sb_len]; simp; omega)
  rw [sb_len] at this
  exact this
end
end Go.Proofs.Ytkmpcheamdadcaa
namespace Go.Proofs.Ytkmpcheamdadcaa
open Go.RowKit
set_option linter.unusedVariables false

theorem info5 : (Try.prog.info? 5).map (fun i => (i.zero, i.size, i.bytes)) = some (some (.int .u8 0), 1, 1) := by kernel_rfl

/-- Where a key can't be. -/
theorem cencode_no (u : ByteArray) (s k : Int) (w : World) (h : checkV u s k ≠ 0) :
    Calls Try.prog 97 #[.agg #[.string u, .int .u64 s, .int .i64 k]] w fun e w' => e = .returned (.tuple #[.slice none 0 0, .int .i64 (checkV u s k)]) ∧ Below w.heap.size w w' := by
  have hb : (checkV u s k != 0) = true := by simpa using h
  clear h
  go_enter Try.func97, Try.ntmps97
  go_wp2_with (go_at_call 89; refine (ccheck_any u s k _).mono ?_; rintro e w' ⟨rfl, rfl⟩)
  go_ret2
  exact ⟨rfl, ((Below.refl _ _).alloc (Nat.le_refl _) _).alloc (by simp) _⟩

/-- What '[]byte(u)' gives, and the world behind it. -/
def cvV (W : World) (u : ByteArray) : Value := .slice (some ⟨W.heap.size, 0, none⟩) u.size (grownCap W u.size 0 5)
def cvW (W : World) (u : ByteArray) : World := W.drew.alloc (.cells (bytesRow u (grownCap W u.size 0 5)) 5 ((bytesRow u (grownCap W u.size 0 5)).size, (bytesRow u (grownCap W u.size 0 5)).size + 1))
theorem cvt (u : ByteArray) (W : World) : (convert 9 28 (.string u)).run Try.prog W = .ok (cvV W u) (cvW W u) :=
  run_bytes_of_string W 9 28 5 u Try.underlying9 Try.underlying28 Try.underlying5
theorem cvW_size (u : ByteArray) (W : World) : (cvW W u).heap.size = W.heap.size + 1 := by simp [cvW]
theorem cvW_cell (u : ByteArray) (W : World) (b o : Nat) (h : b < W.heap.size) : (cvW W u).cell? ⟨b, o, none⟩ = W.cell? ⟨b, o, none⟩ := by
  unfold cvW
  exact World.cell?_alloc_lt W.drew _ ⟨b, o, none⟩ (by simpa using h)
theorem cvW_below (u : ByteArray) (W : World) : Below W.heap.size W (cvW W u) := ((Below.refl _ _).drew).alloc (by simp) _
theorem cvW_own (u : ByteArray) (W : World) (hu : u.size ≤ maxLen) : OwnB (cvW W u) W.heap.size (cvV W u) (sb u) := OwnB.ofString W W.heap.size u (Nat.le_refl _) hu

theorem fxA_bc (s : Nat) (n : Int) : fxA s n s = (bc ((List.range s).map (byteAt n))).toArray := by
  unfold fxA bc
  rw [List.map_map]
  congr 1
  apply List.map_congr_left
  intro i hi
  rw [if_pos (List.mem_range.1 hi)]; rfl
/-- Fixed64's answer, as a slice of the call's own. -/
theorem cfixed64_own (n : Int) (w : World) (h0 : 0 ≤ n) (h1 : n < 18446744073709551616) :
    Calls Try.prog 123 #[.int .u64 n] w fun e w' => ∃ b, e = .returned (.slice (some ⟨b, 0, none⟩) 8 8) ∧ OwnB w' w.heap.size (.slice (some ⟨b, 0, none⟩) 8 8) ((List.range 8).map (byteAt n)) ∧ Below w.heap.size w w' := by
  refine (cfixed64_any n w h0 h1).mono ?_
  rintro e w' ⟨rfl, rfl⟩
  refine ⟨_, rfl, ?_, (Below.refl _ _).alloc (Nat.le_refl _) _⟩
  exact OwnB.ofBlock w w.heap.size ((List.range 8).map (byteAt n)) [] _ (0, 0) (by rw [fxA_bc]; simp) (Nat.le_refl _) (.inl rfl) (by simp [maxLen]) 8 (by simp)
theorem bcell {W w1 : World} (hb : Below W.heap.size W w1) : ∀ b o, b < W.heap.size → w1.cell? ⟨b, o, none⟩ = W.cell? ⟨b, o, none⟩ :=
  fun b o h => hb.cell (p := ⟨b, o, none⟩) h

/-- The box of a key. -/
abbrev Box (B : Nat) (u : ByteArray) (s k : Int) (w : World) : Prop := w.cell? ⟨B, 0, none⟩ = some (.string u) ∧ w.cell? ⟨B, 1, none⟩ = some (.int .u64 s) ∧ w.cell? ⟨B, 2, none⟩ = some (.int .i64 k)
theorem keepS {B : Nat} {u : ByteArray} {s k : Int} {W W' : World} (hb : Below W.heap.size W W') (hlt : B < W.heap.size) (h : Box B u s k W) : Box B u s k W' :=
  ⟨(hb.cell (p := ⟨B, 0, none⟩) hlt).trans h.1, (hb.cell (p := ⟨B, 1, none⟩) hlt).trans h.2.1, (hb.cell (p := ⟨B, 2, none⟩) hlt).trans h.2.2⟩
theorem keepG {B : Nat} {u : ByteArray} {s k : Int} {W W' : World} {row : Option Nat} (hg : W.grownBy W' row) (hlt : B < W.heap.size) (hne : some B ≠ row) (h : Box B u s k W) : Box B u s k W' :=
  have c : ∀ o, W'.cell? ⟨B, o, none⟩ = W.cell? ⟨B, o, none⟩ := fun o => World.cell?_of_block (a := ⟨B, o, none⟩) (hg.block B hlt hne)
  ⟨(c 0).trans h.1, (c 1).trans h.2.1, (c 2).trans h.2.2⟩
theorem src_own {w : World} {base b : Nat} {l : List Int} (h : OwnB w base (.slice (some ⟨b, 0, none⟩) 8 8) l) : Src Try.prog 1 28 (.slice (some ⟨b, 0, none⟩) 8 8) l.length (bc l) w := by
  have e := h.cells.1
  have := Src.ofSlice (P := Try.prog) w (size := 1) Try.underlying28 ⟨b, 0, none⟩ 8 8 (bc l) (by rw [bc_len]; omega) h.news (bc_one l)
  rwa [e] at this ⊢

set_option maxRecDepth 100000 in
set_option maxHeartbeats 3200000 in
theorem cencode_yes (u : ByteArray) (s k : Int) (w : World) (h : checkV u s k = 0) (hs : 0 ≤ s) :
    Calls Try.prog 97 #[.agg #[.string u, .int .u64 s, .int .i64 k]] w fun e w' => ∃ v, e = .returned (.tuple #[v, .int .i64 0]) ∧ OwnB w' w.heap.size v (sb u ++ (List.range 8).map (byteAt (s * 256 + k))) ∧ Below w.heap.size w w' := by
  have hb : (checkV u s k != 0) = false := by simpa using h
  have hk : 0 ≤ k ∧ k ≤ 2 ∧ s ≤ 72057594037927935 ∧ u.size ≤ 1024 := by
    unfold checkV at h
    split at h
    · cases h
    · split at h
      · cases h
      · omega
  obtain ⟨hk0, hk1, hs1, hu⟩ := hk
  clear h
  obtain ⟨i0, hi, hz0, hz1, hz2⟩ := info_parts info5
  have hum : u.size ≤ maxLen := by unfold maxLen; omega
  have hcv := cvt u
  have hcs := cvW_size u
  have hcc := cvW_cell u
  have e1 : IntKind.u64.wrap (s * 256) = s * 256 := by rw [IntKind.wrap_u64]; omega
  have e2 : IntKind.u64.wrap k = k := by rw [IntKind.wrap_u64]; omega
  have e3 : IntKind.u64.wrap (s * 256 + k) = s * 256 + k := by rw [IntKind.wrap_u64]; omega
  go_enter Try.func97, Try.ntmps97
  go_wp2_with (go_at_call 89; refine (ccheck_any u s k _).mono ?_; rintro e w' ⟨rfl, rfl⟩)
  go_region_held_law (fun w' => w'.cell? ⟨w.heap.size, 0, none⟩ = some (.string u) ∧ w'.cell? ⟨w.heap.size, 1, none⟩ = some (.int .u64 s) ∧ w'.cell? ⟨w.heap.size, 2, none⟩ = some (.int .i64 k))
   (first
      | (go_keep; done)
      | (refine keepS (cvW_below u _) ?_ ?_ <;> (first | assumption | (simp; omega) | (simp at hsz2 ⊢; omega)))
      | (refine keepS hbel2 ?_ ?_ <;> (first | assumption | (simp [hcs]; omega)))
      | (refine keepG hgrow ?_ ?_ ?_ <;> (first | assumption | (simp [hcs] at hsz2 ⊢; omega) | (simp [cvV, Value.ownBlock]; omega) | (simp [cvV, Value.ownBlock]; simp at hsz2; omega))))
   (first
      | (go_at_call 123; refine (cfixed64_own _ _ (by omega) (by omega)).mono ?_; rintro e w2 ⟨bb, rfl, hown2, hbel2⟩; have hc2 := bcell hbel2; have hsz2 := hbel2.size)
      | (refine OwnB.step_append (by rfl) _ _ _ _ (by rfl) (by rfl) (base := w.heap.size) (l := sb u) (v := cvV _ u) (by first | (refine ((cvW_own u _ hum).mono ?_).below hbel2 (Nat.le_refl _); simp; omega) | (refine (cvW_own u _ hum).mono ?_; simp at hsz2; omega)) i0 Try.underlying28 hi hz0 hz1 hz2 _ (by rfl) ((List.range 8).map (byteAt (s * 256 + k))) (by first | exact src_own hown2 | exact src_own (hown2.below (cvW_below u _) (Nat.le_refl _))) (by simp [hcs] at hsz2 ⊢; omega) (by simp [sb_len]; omega) ?_; intro v' w1 hown hgrow hat))
  · go_wp2
    go_ret2
    refine ⟨v', by simp, hown, ?_⟩
    have b0 : Below w.heap.size w ((w.alloc (.cells #[.string u, .int .u64 s, .int .i64 k] 48)).alloc (.cells #[.string u, .int .u64 s, .int .i64 k] 48)).drew := (((Below.refl _ _).alloc (Nat.le_refl _) _).alloc (by simp) _).drew
    refine ((b0.trans ((cvW_below u _).mono (by simp; omega))).trans (hbel2.mono (by simp [hcs]; omega))).grown hgrow (by simp [hcs] at hsz2; omega) ?_
    intro k hk
    simp [cvV, Value.ownBlock] at hk
    omega
  · go_wp2
    go_ret2
    refine ⟨v', by simp, hown, ?_⟩
    have b0 : Below w.heap.size w ((w.alloc (.cells #[.string u, .int .u64 s, .int .i64 k] 48)).alloc (.cells #[.string u, .int .u64 s, .int .i64 k] 48)).drew := (((Below.refl _ _).alloc (Nat.le_refl _) _).alloc (by simp) _).drew
    simp at hsz2
    refine ((b0.trans (hbel2.mono (by simp; omega))).trans ((cvW_below u _).mono (by omega))).grown hgrow (by simp [hcs]; omega) ?_
    intro k hk
    simp [cvV, Value.ownBlock] at hk
    omega
end Go.Proofs.Ytkmpcheamdadcaa
namespace Go.Proofs.Ytkmpcheamdadcaa
open Go.RowKit
set_option linter.unusedVariables false

theorem ret_i {k : IntKind} {a b : Int} (h : a = b) : Ending.returned (.int k a) = .returned (.int k b) := by rw [h]
theorem val_i {k : IntKind} {a b : Int} (h : a = b) : Value.int k a = .int k b := by rw [h]
/-- A slice of bytes that came in and reads as l. -/
def Arg (w : World) (a : Option Addr) (len cap : Nat) (l : List Int) : Prop :=
  l.length = len ∧ (∀ n ∈ l, 0 ≤ n ∧ n < 256) ∧ len ≤ 140737488351232 ∧
  (l = [] ∨ ∃ b off, a = some ⟨b, off, none⟩ ∧ b < w.heap.size ∧ ∀ j, (h : j < l.length) → w.cell? ⟨b, off + j, none⟩ = some (.int .u8 l[j]))

theorem Arg.below {w w' : World} {a : Option Addr} {len cap : Nat} {l : List Int} (h : Arg w a len cap l) (hb : Below w.heap.size w w') : Arg w' a len cap l := by
  obtain ⟨h1, h2, h3, h4⟩ := h
  refine ⟨h1, h2, h3, ?_⟩
  rcases h4 with h4 | ⟨b, off, ha, hlt, hc⟩
  · exact .inl h4
  · refine .inr ⟨b, off, ha, Nat.lt_of_lt_of_le hlt hb.size, fun j hj => ?_⟩
    rw [hb.cell (p := ⟨b, off + j, none⟩) hlt]; exact hc j hj
theorem Arg.src {w : World} {a : Option Addr} {len cap : Nat} {l : List Int} (h : Arg w a len cap l) : Src Try.prog 1 28 (.slice a len cap) l.length (bc l) w := by
  obtain ⟨rfl, h2, h3, h4⟩ := h
  rcases h4 with rfl | ⟨b, off, rfl, hlt, hc⟩
  · cases a with
    | none => exact Src.ofNil w Try.underlying28 cap
    | some x => exact Src.ofSlice w Try.underlying28 x 0 cap [] rfl (by simp) (by simp)
  · refine Src.ofSlice w Try.underlying28 ⟨b, off, none⟩ l.length cap (bc l) (by rw [bc_len]; omega) ?_ (bc_one l)
    intro j u hu
    obtain ⟨hj, rfl⟩ := bc_get l j u hu
    have e : (⟨b, off, none⟩ : Addr).add j = ⟨b, off + j, none⟩ := by unfold Addr.add; split <;> simp_all
    rw [e]; exact hc j hj
theorem OwnB.arg {w : World} {base : Nat} {v : Value} {l : List Int} (h : OwnB w base v l) (hb : ∀ n ∈ l, 0 ≤ n ∧ n < 256) (hl : l.length ≤ 140737488351232) :
    ∃ a cap, v = .slice a l.length cap ∧ Arg w a l.length cap l := by
  rcases h with ⟨rfl, rfl⟩ | ⟨b, off, cap, rfl, h1, h2, h3, h4, h5, h6⟩
  · exact ⟨none, 0, rfl, rfl, hb, hl, .inl rfl⟩
  · exact ⟨_, cap, rfl, rfl, hb, hl, .inr ⟨b, off, rfl, h2, h5⟩⟩
theorem own_empty (w : World) : OwnB (w.alloc (.cells #[] 5)) w.heap.size (.slice (some ⟨w.heap.size, 0, none⟩) 0 0) [] :=
  OwnB.ofBlock w w.heap.size [] [] #[] (0, 0) rfl (Nat.le_refl _) (.inl rfl) (by simp) 0 rfl
/-- 'append([]byte{}, b...)': what comes of it. -/
theorem copy_arg {w w1 : World} {v' : Value} {a : Option Addr} {len cap : Nat} {l : List Int} (h : Arg w a len cap l) (hown : OwnB w1 w.heap.size v' ([] ++ l)) (hgrow : (w.alloc (.cells #[] 5)).grownBy w1 (some w.heap.size)) :
    ∃ a' cap', v' = .slice a' len cap' ∧ OwnB w1 w.heap.size (.slice a' len cap') l ∧ Arg w1 a' len cap' l ∧ Arg w1 a len cap l ∧ Below w.heap.size w w1 := by
  have hb : Below w.heap.size w w1 := ((Below.refl w.heap.size w).alloc (Nat.le_refl _) (.cells #[] 5)).grown hgrow (by simp) (by intro k hk; cases hk; exact Nat.le_refl _)
  have hown' : OwnB w1 w.heap.size v' l := hown
  obtain ⟨a', cap', rfl, ha⟩ := hown'.arg h.2.1 (by rw [h.1]; exact h.2.2.1)
  rw [h.1] at ha hown' ⊢
  exact ⟨a', cap', rfl, hown', ha, h.below hb, hb⟩

end Go.Proofs.Ytkmpcheamdadcaa
namespace Go.Proofs.Ytkmpcheamdadcaa
open Go.RowKit
set_option linter.unusedVariables false
set_option linter.unusedSimpArgs false

def rfV (s : Nat) (l : List Int) : Int := if l.length < s then 0 else leV (l.take s)
def rfE (s : Nat) (l : List Int) : Int := if l.length < s then 4 else 0
theorem take_bd {l : List Int} (h : ∀ n ∈ l, 0 ≤ n ∧ n < 256) (s : Nat) : ∀ n ∈ l.take s, 0 ≤ n ∧ n < 256 := fun n hn => h n (List.mem_of_mem_take hn)
theorem ret_2 {k k' : IntKind} {a b c d : Int} (h : a = b) (h' : c = d) : Ending.returned (.tuple #[.int k a, .int k' c]) = .returned (.tuple #[.int k b, .int k' d]) := by rw [h, h']

/-- readFixed of the first bytes of a slice. -/
theorem readFixed_at (b off cap : Nat) (l : List Int) (s : Nat) (hs : s ≤ 8) (hsl : s ≤ l.length) (hbd : ∀ n ∈ l, 0 ≤ n ∧ n < 256) (w : World) (hb : b < w.heap.size) (hI : ∀ j, (h : j < l.length) → w.cell? ⟨b, off + j, none⟩ = some (.int .u8 l[j])) :
    Calls Try.prog 137 #[.slice (some ⟨b, off, none⟩) s cap] w fun e W' => e = .returned (.int .u64 (leV (l.take s))) ∧ Below w.heap.size w W' := by
  have hl : (l.take s).length = s := by simp; omega
  have h := readFixed_calls b off cap (l.take s) (by omega) w hb (by
    intro j hj
    have hj' : j < l.length := by omega
    rw [hI j hj', List.getElem?_eq_getElem hj]
    simp)
  rw [rd_le _ (by omega) (take_bd hbd s), hl] at h
  exact h

theorem leV4_bd {l : List Int} (h : ∀ n ∈ l, 0 ≤ n ∧ n < 256) (h4 : 4 ≤ l.length) : 0 ≤ leV (l.take 4) ∧ leV (l.take 4) < 4294967296 := by
  have := leV_bd (l.take 4) (take_bd h 4)
  have e : (l.take 4).length = 4 := by simp; omega
  rw [e] at this
  exact ⟨this.1, by have h2 := this.2; simpa using h2⟩
theorem rdL_next (l : List Int) (s k m : Nat) (x : Int) (hs : s ≤ l.length) (hm : s = m + k + 1) (hx : l[m]? = some x) (x0 : 0 ≤ x) (x1 : x < 256) :
    rdL ((l.take s).reverse.take (k + 1)) = bits .or .u64 (IntKind.u64.wrap (rdL ((l.take s).reverse.take k) * 256)) x := by
  have hk : k < (l.take s).reverse.length := by simp; omega
  have e : (l.take s).reverse[k] = x := by
    obtain ⟨h1, h2⟩ := List.getElem?_eq_some_iff.1 hx
    rw [List.getElem_reverse]
    simp only [List.getElem_take, List.length_take]
    rw [← h2]
    congr 1
    omega
  rw [List.take_succ_eq_append_getElem hk, e]
  have e2 : IntKind.u64.wrap x = x := by rw [IntKind.wrap_u64]; omega
  unfold rdL
  rw [List.foldl_append]
  show bits .or .u64 (IntKind.u64.wrap (_ * 256)) (IntKind.u64.wrap x) = _
  rw [e2]
set_option maxHeartbeats 1000000 in
theorem rrf_any (s : Nat) (hs : s ≤ 8) (a : Option Addr) (len cap : Nat) (l : List Int) (w : World) (h : Arg w a len cap l) :
    Calls Try.prog 125 #[.slice a len cap, .int .i64 s] w fun e w' => e = .returned (.tuple #[.int .u64 (rfV s l), .int .i64 (rfE s l)]) ∧ w' = w := by
  obtain ⟨hl, h2, h3, h4⟩ := h
  by_cases h8 : len < s
  · have e1 : rfV s l = 0 := by unfold rfV; rw [if_pos (by omega)]
    have e2 : rfE s l = 4 := by unfold rfE; rw [if_pos (by omega)]
    rw [e1, e2]
    clear e1 e2 hl h2 h4
    have h8' : (len : Int) < (s : Int) := by omega
    go_enter Try.func125, Try.ntmps125
    go_wp2
    go_ret2
    exact ⟨rfl, rfl⟩
  · have e1 : rfV s l = leV (l.take s) := by unfold rfV; rw [if_neg (by omega)]
    have e2 : rfE s l = 0 := by unfold rfE; rw [if_neg (by omega)]
    rw [e1, e2]
    clear e1 e2
    have hls : s ≤ l.length := by omega
    have HL : Hid (l.length = len) := hl
    have h8' : (s : Int) ≤ (len : Int) := by omega
    clear hl
    go_enter Try.func125, Try.ntmps125
    go_wp2
    go_loop [6, 7] (fun n i => ∃ k : Nat, k ≤ s ∧ i = .int .i64 ((s : Int) - 1 - (k : Int)) ∧ n = .int .u64 (rdL ((l.take s).reverse.take k))) (fun _ i => (intOf i + 1).toNat)
    case atStart => exact ⟨0, Nat.zero_le _, by simp, rfl⟩
    case round =>
      obtain ⟨k, hk, rfl, rfl⟩ := hrel
      by_cases hlt : k < s
      · rcases h4 with rfl | ⟨b, off, rfl, hbl, hc⟩
        · simp at hls; omega
        · obtain ⟨m, hm⟩ : ∃ m : Nat, s = m + k + 1 := ⟨s - 1 - k, by omega⟩
          have e3 : (s : Int) - 1 - (k : Int) = (m : Int) := by omega
          have hml : m < l.length := by omega
          have hm2 : (m : Int) < (len : Int) := by omega
          have hcx := hc m hml
          obtain ⟨x0, x1⟩ := h2 _ (List.getElem_mem hml)
          have hxx : l[m]? = some l[m] := List.getElem?_eq_getElem hml
          generalize l[m] = x at *
          have HN : Hid (rdL ((l.take s).reverse.take (k + 1)) = bits .or .u64 (IntKind.u64.wrap (rdL ((l.take s).reverse.take k) * 256)) x) := rdL_next l s k m x hls hm hxx x0 x1
          have HM : Hid (s = m + k + 1) := hm
          clear hc hm hxx
          go_wp2
          go_round
          case rel => exact ⟨k + 1, by omega, val_i (by have := HM.out; omega), val_i HN.out.symm⟩
          case measure => simp [intOf]; omega
      · obtain rfl : k = s := by omega
        go_wp2
        go_ret2
        exact ⟨ret_2 (by rw [List.take_of_length_le (by rw [List.length_reverse, List.length_take]; omega), rdL_rev _ (by simp; omega) (take_bd h2 _)]) rfl, rfl⟩
end Go.Proofs.Ytkmpcheamdadcaa
namespace Go.Proofs.Ytkmpcheamdadcaa
open Go.RowKit
set_option linter.unusedVariables false
set_option linter.unusedSimpArgs false

theorem byts_snoc (k : Nat) (n : Int) : byts (k + 1) n = byts k n ++ [byteAt n k] := by simp [byts, List.range_succ]
theorem src_one (W : World) (x : Int) : Src Try.prog 1 28 (.slice (some ⟨W.heap.size, 0, none⟩) 1 1) [x].length (bc [x]) (W.alloc (.cells #[.int .u8 x] 5)) := by
  refine Src.ofSlice _ Try.underlying28 ⟨W.heap.size, 0, none⟩ 1 1 (bc [x]) rfl ?_ (bc_one _)
  intro j u hu
  obtain ⟨hj, rfl⟩ := bc_get [x] j u hu
  have : j = 0 := by simp at hj; omega
  subst this
  exact World.cell?_alloc_new W #[.int .u8 x] 5 0
theorem below_push {w W w1 : World} {v : Value} {o : Obj} {l : List Int} (hown : OwnB W w.heap.size v l) (hbel : Below w.heap.size w W) (hg : (W.alloc o).grownBy w1 v.ownBlock) : Below w.heap.size w w1 :=
  (hbel.alloc hbel.size o).grown hg (by have := hbel.size; simp; omega) (fun k hk => (hown.lt k hk).1)

set_option maxHeartbeats 1000000 in
theorem rfixed_any (s : Nat) (hs : s ≤ 8) (n : Int) (w : World) (h0 : 0 ≤ n) (h1 : n < 18446744073709551616) :
    Calls Try.prog 98 #[.int .u64 n, .int .i64 s] w fun e w' => ∃ v, e = .returned v ∧ OwnB w' w.heap.size v (byts s n) ∧ Below w.heap.size w w' := by
  obtain ⟨i0, hi, hz0, hz1, hz2⟩ := info_parts info5
  go_enter Try.func98, Try.ntmps98
  go_wp2
  go_loopw [5, 6] (fun v i wr => ∃ k : Nat, k ≤ s ∧ i = .int .i64 k ∧ OwnB wr w.heap.size v (byts k n) ∧ Below w.heap.size w wr) (fun _ i _ => s - (intOf i).toNat)
  case atStart => exact ⟨0, Nat.zero_le _, rfl, own_empty w, (Below.refl _ _).alloc (Nat.le_refl _) _⟩
  case round =>
    obtain ⟨k, hk, rfl, hown, hbel⟩ := hrel
    by_cases hlt : k < s
    · have hb2 : w.heap.size ≤ wr.heap.size + 1 := by have := hbel.size; omega
      have HB : Hid ((byts k n).length + [byteAt n k].length ≤ 140737488355328) := by show _ ≤ _; rw [byts_len]; simp; omega
      go_wp2_with (at_builtin; refine OwnB.wpList_append rfl _ _ 28 28 rfl rfl (base := w.heap.size) (l := byts k n) (hown.alloc _) i0 Try.underlying28 hi hz0 hz1 hz2 _ rfl [byteAt n k] (src_one _ _) (by simpa using hb2) HB.out ?_; intro v' w1 hown' hgrow hat)
      go_roundw
      case rel => exact ⟨k + 1, by omega, by go_num, by rw [byts_snoc]; exact hown', below_push hown hbel hgrow⟩
      case measure => simp [intOf]; omega
    · obtain rfl : k = s := by omega
      go_wp2
      go_ret
      exact ⟨_, rfl, hown, hbel⟩
end Go.Proofs.Ytkmpcheamdadcaa
namespace Go.Proofs.Ytkmpcheamdadcaa
open Go.RowKit
set_option linter.unusedVariables false
set_option linter.unusedSimpArgs false

theorem rencode_no (u : ByteArray) (s k : Int) (w : World) (h : checkV u s k ≠ 0) :
    Calls Try.prog 74 #[.agg #[.string u, .int .u64 s, .int .i64 k]] w fun e w' => e = .returned (.tuple #[.slice none 0 0, .int .i64 (checkV u s k)]) ∧ Below w.heap.size w w' := by
  have hb : (checkV u s k != 0) = true := by simpa using h
  clear h
  go_enter Try.func74, Try.ntmps74
  go_wp2_with (go_at_call 94; refine (rcheck_any u s k _).mono ?_; rintro e w' ⟨rfl, rfl⟩)
  go_ret2
  exact ⟨rfl, ((Below.refl _ _).alloc (Nat.le_refl _) _).alloc (by simp) _⟩
theorem rfixed8' (n : Int) (w : World) (h0 : 0 ≤ n) (h1 : n < 18446744073709551616) :
    Calls Try.prog 98 #[.int .u64 n, .int .i64 8] w fun e w' => ∃ bb cc off, e = .returned (.slice (some ⟨bb, off, none⟩) 8 cc) ∧ OwnB w' w.heap.size (.slice (some ⟨bb, off, none⟩) 8 cc) (byts 8 n) ∧ Below w.heap.size w w' := by
  refine (rfixed_any 8 (by decide) n w h0 h1).mono ?_
  rintro e w' ⟨v, rfl, ho, hb⟩
  obtain ⟨b, off, cap, rfl⟩ := ho.form (by rw [byts_len]; decide)
  rw [byts_len] at ho ⊢
  exact ⟨b, cap, off, rfl, ho, hb⟩
theorem src_own' {w : World} {base b off c : Nat} {l : List Int} (h : OwnB w base (.slice (some ⟨b, off, none⟩) 8 c) l) : Src Try.prog 1 28 (.slice (some ⟨b, off, none⟩) 8 c) l.length (bc l) w := by
  have e := h.cells.1
  have := Src.ofSlice (P := Try.prog) w (size := 1) Try.underlying28 ⟨b, off, none⟩ 8 c (bc l) (by rw [bc_len]; omega) h.news (bc_one l)
  rwa [e] at this ⊢
theorem or_kind (s k : Int) (h0 : 0 ≤ s) (h1 : s ≤ 72057594037927935) (k0 : 0 ≤ k) (k1 : k ≤ 2) : bits .or .u64 (s * 256) k = s * 256 + k := by
  rw [bits_join .u64 64 (by decide) wraps_u64 8 _ _ (by omega) (by omega) (by omega) (by omega) (by omega) (by omega)]

set_option maxRecDepth 100000 in
set_option maxHeartbeats 3200000 in
theorem rencode_yes (u : ByteArray) (s k : Int) (w : World) (h : checkV u s k = 0) (hs : 0 ≤ s) :
    Calls Try.prog 74 #[.agg #[.string u, .int .u64 s, .int .i64 k]] w fun e w' => ∃ v, e = .returned (.tuple #[v, .int .i64 0]) ∧ OwnB w' w.heap.size v (sb u ++ byts 8 (s * 256 + k)) ∧ Below w.heap.size w w' := by
  have hb : (checkV u s k != 0) = false := by simpa using h
  have hk : 0 ≤ k ∧ k ≤ 2 ∧ s ≤ 72057594037927935 ∧ u.size ≤ 1024 := by
    unfold checkV at h
    split at h
    · cases h
    · split at h
      · cases h
      · omega
  obtain ⟨hk0, hk1, hs1, hu⟩ := hk
  clear h
  obtain ⟨i0, hi, hz0, hz1, hz2⟩ := info_parts info5
  have hum : u.size ≤ maxLen := by unfold maxLen; omega
  have hcv := cvt u
  have hcs := cvW_size u
  have hcc := cvW_cell u
  have e1 : IntKind.u64.wrap (s * 256) = s * 256 := by rw [IntKind.wrap_u64]; omega
  have e2 : IntKind.u64.wrap k = k := by rw [IntKind.wrap_u64]; omega
  have e3 : bits .or .u64 (s * 256) k = s * 256 + k := or_kind s k hs hs1 hk0 hk1
  go_enter Try.func74, Try.ntmps74
  go_wp2_with (go_at_call 94; refine (rcheck_any u s k _).mono ?_; rintro e w' ⟨rfl, rfl⟩)
  go_region_held_law (fun w' => w'.cell? ⟨w.heap.size, 0, none⟩ = some (.string u) ∧ w'.cell? ⟨w.heap.size, 1, none⟩ = some (.int .u64 s) ∧ w'.cell? ⟨w.heap.size, 2, none⟩ = some (.int .i64 k))
   (first
      | (go_keep; done)
      | (refine keepS (cvW_below u _) ?_ ?_ <;> (first | assumption | (simp; omega) | (simp at hsz2 ⊢; omega)))
      | (refine keepS hbel2 ?_ ?_ <;> (first | assumption | (simp [hcs]; omega)))
      | (refine keepG hgrow ?_ ?_ ?_ <;> (first | assumption | (simp [hcs] at hsz2 ⊢; omega) | (simp [cvV, Value.ownBlock]; omega) | (simp [cvV, Value.ownBlock]; simp at hsz2; omega))))
   (first
      | (go_at_call 98; refine (rfixed8' _ _ (by omega) (by omega)).mono ?_; rintro e w2 ⟨bb, cc, off, rfl, hown2, hbel2⟩; have hc2 := bcell hbel2; have hsz2 := hbel2.size)
      | (refine OwnB.step_append (by rfl) _ _ _ _ (by rfl) (by rfl) (base := w.heap.size) (l := sb u) (v := cvV _ u) (by first | (refine ((cvW_own u _ hum).mono ?_).below hbel2 (Nat.le_refl _); simp; omega) | (refine (cvW_own u _ hum).mono ?_; simp at hsz2; omega)) i0 Try.underlying28 hi hz0 hz1 hz2 _ (by rfl) (byts 8 (s * 256 + k)) (by first | exact src_own' hown2 | exact src_own' (hown2.below (cvW_below u _) (Nat.le_refl _))) (by simp [hcs] at hsz2 ⊢; omega) (by rw [byts_len, sb_len]; omega) ?_; intro v' w1 hown hgrow hat))
  · go_wp2
    go_ret2
    refine ⟨v', by simp, hown, ?_⟩
    have b0 : Below w.heap.size w ((w.alloc (.cells #[.string u, .int .u64 s, .int .i64 k] 48)).alloc (.cells #[.string u, .int .u64 s, .int .i64 k] 48)).drew := (((Below.refl _ _).alloc (Nat.le_refl _) _).alloc (by simp) _).drew
    refine ((b0.trans ((cvW_below u _).mono (by simp; omega))).trans (hbel2.mono (by simp [hcs]; omega))).grown hgrow (by simp [hcs] at hsz2; omega) ?_
    intro k hk
    simp [cvV, Value.ownBlock] at hk
    omega
  · go_wp2
    go_ret2
    refine ⟨v', by simp, hown, ?_⟩
    have b0 : Below w.heap.size w ((w.alloc (.cells #[.string u, .int .u64 s, .int .i64 k] 48)).alloc (.cells #[.string u, .int .u64 s, .int .i64 k] 48)).drew := (((Below.refl _ _).alloc (Nat.le_refl _) _).alloc (by simp) _).drew
    simp at hsz2
    refine ((b0.trans (hbel2.mono (by simp; omega))).trans ((cvW_below u _).mono (by omega))).grown hgrow (by simp [hcs]; omega) ?_
    intro k hk
    simp [cvV, Value.ownBlock] at hk
    omega
end Go.Proofs.Ytkmpcheamdadcaa
namespace Go.Proofs.Ytkmpcheamdadcaa
open Go.RowKit
set_option linter.unusedVariables false
set_option linter.unusedSimpArgs false

/-- A number in groups of seven bits. -/
def vL : Nat → Int → List Int
  | 0, m => [m]
  | f + 1, m => if m < 128 then [m] else (m % 128 + 128) :: vL f (m / 128)
theorem vL_last (f : Nat) (m : Int) (h : m < 128) : vL f m = [m] := by
  cases f with
  | zero => rfl
  | succ f => unfold vL; rw [if_pos h]
theorem vL_more (f : Nat) (m : Int) (h : 128 ≤ m) : vL (f + 1) m = (m % 128 + 128) :: vL f (m / 128) := by
  conv => lhs; unfold vL
  rw [if_neg (by omega)]
theorem or128 (x : Int) (h0 : 0 ≤ x) (h1 : x < 256) : bits .or .u8 x 128 = x % 128 + 128 := by
  obtain ⟨n, rfl⟩ := Int.eq_ofNat_of_zero_le h0
  have h := u8_or_nat n 128 (by omega) (by decide)
  have e : n ||| 128 = n % 128 + 128 := by
    have h2 : n < 256 := by omega
    have : ∀ n : Fin 256, n.val ||| 128 = n.val % 128 + 128 := by decide +kernel
    exact this ⟨n, h2⟩
  rw [e] at h
  have h' : bits .or .u8 (n : Int) 128 = ((n % 128 + 128 : Nat) : Int) := h
  rw [h']; omega
theorem byte_c (m : Int) (h0 : 0 ≤ m) : bits .or .u8 (m % 256) 128 = m % 128 + 128 := by
  rw [or128 _ (by omega) (by omega)]; omega
theorem and127 (m : Int) (h0 : 0 ≤ m) (h1 : m < 18446744073709551616) : bits .and .u64 m 127 = m % 128 :=
  bits_mask .u64 64 (by decide) wraps_u64 7 (by decide) m h0 (by omega)
theorem byte_r (m : Int) (h0 : 0 ≤ m) (h1 : m < 18446744073709551616) : bits .or .u8 (bits .and .u64 m 127 % 256) 128 = m % 128 + 128 := by
  rw [and127 m h0 h1, or128 _ (by omega) (by omega)]; omega

set_option maxRecDepth 100000 in
set_option maxHeartbeats 1000000 in
theorem cvarint_any (n : Int) (w : World) (h0 : 0 ≤ n) (h1 : n < 18446744073709551616) :
    Calls Try.prog 71 #[.int .u64 n] w fun e w' => ∃ v, e = .returned v ∧ OwnB w' w.heap.size v (vL 10 n) ∧ Below w.heap.size w w' := by
  obtain ⟨i0, hi, hz0, hz1, hz2⟩ := info_parts info5
  go_enter Try.func71, Try.ntmps71
  go_wp2
  go_loopw [0, 3] (fun nn v wr => ∃ (acc : List Int) (f : Nat) (m : Int), nn = .int .u64 m ∧ 0 ≤ m ∧ m < 18446744073709551616 ∧ Hid (m < 128 ^ (f + 1)) ∧ Hid (acc ++ vL f m = vL 10 n) ∧ Hid (acc.length + f = 10) ∧ OwnB wr w.heap.size v acc ∧ Below w.heap.size w wr) (fun nn _ _ => (intOf nn).toNat)
  case atStart => exact ⟨[], 10, n, rfl, h0, h1, by show n < 128 ^ 11; omega, rfl, rfl, OwnB.nil _ _, Below.refl _ _⟩
  case round =>
    obtain ⟨acc, f, m, rfl, m0, m1, HM, HA, HF, hown, hbel⟩ := hrel
    have hb2 : w.heap.size ≤ wr.heap.size + 1 := by have := hbel.size; omega
    by_cases hlt : m < 128
    · have HB : Hid (acc.length + [m].length ≤ 140737488355328) := by show _ ≤ _; have := HF.out; simp; omega
      have HV : Hid (acc ++ [m] = vL 10 n) := by show _ = _; rw [← HA.out, vL_last f m hlt]
      go_wp2_with (at_builtin; refine OwnB.wpList_append rfl _ _ 28 28 rfl rfl (base := w.heap.size) (l := acc) (hown.alloc _) i0 Try.underlying28 hi hz0 hz1 hz2 _ rfl [m] (src_one _ _) (by simpa using hb2) HB.out ?_; intro v' w1 hown' hgrow hat)
      go_ret
      rw [HV.out] at hown'
      exact ⟨_, rfl, hown', below_push hown hbel hgrow⟩
    · obtain ⟨g, rfl⟩ : ∃ g, f = g + 1 := by
        cases f with
        | zero => exact absurd HM.out (by simpa using hlt)
        | succ g => exact ⟨g, rfl⟩
      have HB : Hid (acc.length + [bits .or .u8 (m % 256) 128].length ≤ 140737488355328) := by show _ ≤ _; have := HF.out; simp; omega
      go_wp2_with (at_builtin; refine OwnB.wpList_append rfl _ _ 28 28 rfl rfl (base := w.heap.size) (l := acc) (hown.alloc _) i0 Try.underlying28 hi hz0 hz1 hz2 _ rfl [bits .or .u8 (m % 256) 128] (src_one _ _) (by simpa using hb2) HB.out ?_; intro v' w1 hown' hgrow hat)
      go_roundw
      case rel =>
        refine ⟨acc ++ [bits .or .u8 (m % 256) 128], g, m / 128, rfl, by omega, by omega, ?_, ?_, ?_, hown', below_push hown hbel hgrow⟩
        · show m / 128 < 128 ^ (g + 1)
          have := HM.out
          rw [Int.pow_succ] at this
          omega
        · show _ = _
          rw [← HA.out, vL_more g m (by omega), byte_c m m0]; simp
        · show _ = _
          have := HF.out
          simp; omega
      case measure => simp [intOf]; omega
set_option maxRecDepth 100000 in
set_option maxHeartbeats 1000000 in
theorem rvarint_any (n : Int) (w : World) (h0 : 0 ≤ n) (h1 : n < 18446744073709551616) :
    Calls Try.prog 73 #[.int .u64 n] w fun e w' => ∃ v, e = .returned v ∧ OwnB w' w.heap.size v (vL 10 n) ∧ Below w.heap.size w w' := by
  obtain ⟨i0, hi, hz0, hz1, hz2⟩ := info_parts info5
  go_enter Try.func73, Try.ntmps73
  go_wp2
  go_loopw [0, 3] (fun nn v wr => ∃ (acc : List Int) (f : Nat) (m : Int), nn = .int .u64 m ∧ 0 ≤ m ∧ m < 18446744073709551616 ∧ Hid (m < 128 ^ (f + 1)) ∧ Hid (acc ++ vL f m = vL 10 n) ∧ Hid (acc.length + f = 10) ∧ OwnB wr w.heap.size v acc ∧ Below w.heap.size w wr) (fun nn _ _ => (intOf nn).toNat)
  case atStart => exact ⟨[], 10, n, rfl, h0, h1, by show n < 128 ^ 11; omega, rfl, rfl, own_empty w, (Below.refl _ _).alloc (Nat.le_refl _) _⟩
  case round =>
    obtain ⟨acc, f, m, rfl, m0, m1, HM, HA, HF, hown, hbel⟩ := hrel
    have hb2 : w.heap.size ≤ wr.heap.size + 1 := by have := hbel.size; omega
    by_cases hlt : m < 128
    · have HB : Hid (acc.length + [m].length ≤ 140737488355328) := by show _ ≤ _; have := HF.out; simp; omega
      have HV : Hid (acc ++ [m] = vL 10 n) := by show _ = _; rw [← HA.out, vL_last f m hlt]
      go_wp2_with (at_builtin; refine OwnB.wpList_append rfl _ _ 28 28 rfl rfl (base := w.heap.size) (l := acc) (hown.alloc _) i0 Try.underlying28 hi hz0 hz1 hz2 _ rfl [m] (src_one _ _) (by simpa using hb2) HB.out ?_; intro v' w1 hown' hgrow hat)
      go_ret
      rw [HV.out] at hown'
      exact ⟨_, rfl, hown', below_push hown hbel hgrow⟩
    · obtain ⟨g, rfl⟩ : ∃ g, f = g + 1 := by
        cases f with
        | zero => exact absurd HM.out (by simpa using hlt)
        | succ g => exact ⟨g, rfl⟩
      have HB : Hid (acc.length + [bits .or .u8 (bits .and .u64 m 127 % 256) 128].length ≤ 140737488355328) := by show _ ≤ _; have := HF.out; simp; omega
      go_wp2_with (at_builtin; refine OwnB.wpList_append rfl _ _ 28 28 rfl rfl (base := w.heap.size) (l := acc) (hown.alloc _) i0 Try.underlying28 hi hz0 hz1 hz2 _ rfl [bits .or .u8 (bits .and .u64 m 127 % 256) 128] (src_one _ _) (by simpa using hb2) HB.out ?_; intro v' w1 hown' hgrow hat)
      go_roundw
      case rel =>
        refine ⟨acc ++ [bits .or .u8 (bits .and .u64 m 127 % 256) 128], g, m / 128, rfl, by omega, by omega, ?_, ?_, ?_, hown', below_push hown hbel hgrow⟩
        · show m / 128 < 128 ^ (g + 1)
          have := HM.out
          rw [Int.pow_succ] at this
          omega
        · show _ = _
          rw [← HA.out, vL_more g m (by omega), byte_r m m0 m1]; simp
        · show _ = _
          have := HF.out
          simp; omega
      case measure => simp [intOf]; omega
end Go.Proofs.Ytkmpcheamdadcaa
namespace Go.Proofs.Ytkmpcheamdadcaa
open Go.RowKit
set_option linter.unusedVariables false
set_option linter.unusedSimpArgs false

/-- One group more. -/
def grp (n c : Int) (i : Nat) : Int := bits .or .u64 n (IntKind.u64.wrap (c % 128 * 2 ^ (7 * i)))
/-- ReadVarint from the i-th byte on. -/
def rvG : List Int → Nat → Int → Int × Int × Int
  | [], _, _ => (0, 0, 4)
  | c :: l, i, n => if i = 9 ∧ 1 < c then (0, 0, 3) else if 0 < i ∧ c = 0 then (0, 0, 3) else if c < 128 then (grp n c i, (i : Int) + 1, 0) else rvG l (i + 1) (grp n c i)
theorem rvG_a {l : List Int} {k : Nat} {n c : Int} (hc : l[k]? = some c) (h : k = 9) (h' : 1 < c) : rvG (l.drop k) k n = (0, 0, 3) := by
  obtain ⟨h1, h2⟩ := List.getElem?_eq_some_iff.1 hc
  rw [List.drop_eq_getElem_cons h1, h2]; unfold rvG; rw [if_pos ⟨h, h'⟩]
theorem rvG_b {l : List Int} {k : Nat} {n c : Int} (hc : l[k]? = some c) (h : ¬ (k = 9 ∧ 1 < c)) (h' : 0 < k) (h2' : c = 0) : rvG (l.drop k) k n = (0, 0, 3) := by
  obtain ⟨h1, h2⟩ := List.getElem?_eq_some_iff.1 hc
  rw [List.drop_eq_getElem_cons h1, h2]; unfold rvG; rw [if_neg h, if_pos ⟨h', h2'⟩]
theorem rvG_c {l : List Int} {k : Nat} {n c : Int} (hc : l[k]? = some c) (h : ¬ (k = 9 ∧ 1 < c)) (h' : ¬ (0 < k ∧ c = 0)) (h3 : c < 128) : rvG (l.drop k) k n = (grp n c k, (k : Int) + 1, 0) := by
  obtain ⟨h1, h2⟩ := List.getElem?_eq_some_iff.1 hc
  rw [List.drop_eq_getElem_cons h1, h2]; unfold rvG; rw [if_neg h, if_neg h', if_pos h3]
theorem rvG_d {l : List Int} {k : Nat} {n c : Int} (hc : l[k]? = some c) (h : ¬ (k = 9 ∧ 1 < c)) (h' : ¬ (0 < k ∧ c = 0)) (h3 : ¬ c < 128) : rvG (l.drop k) k n = rvG (l.drop (k + 1)) (k + 1) (grp n c k) := by
  obtain ⟨h1, h2⟩ := List.getElem?_eq_some_iff.1 hc
  rw [List.drop_eq_getElem_cons h1, h2]
  conv => lhs; unfold rvG
  rw [if_neg h, if_neg h', if_neg h3]
theorem rvG_e {l : List Int} {k : Nat} {n : Int} (h : l.length ≤ k) : rvG (l.drop k) k n = (0, 0, 4) := by
  rw [List.drop_eq_nil_of_le h]; rfl
theorem ret_3 {a b c : Int} {r : Int × Int × Int} (h : r = (a, b, c)) : Ending.returned (.tuple #[.int .u64 a, .int .i64 b, .int .i64 c]) = .returned (.tuple #[.int .u64 r.1, .int .i64 r.2.1, .int .i64 r.2.2]) := by rw [h]

set_option maxRecDepth 100000 in
set_option maxHeartbeats 2000000 in
theorem crv_any (a : Option Addr) (len cap : Nat) (l : List Int) (w : World) (h : Arg w a len cap l) :
    Calls Try.prog 100 #[.slice a len cap] w fun e w' => e = .returned (.tuple #[.int .u64 (rvG l 0 0).1, .int .i64 (rvG l 0 0).2.1, .int .i64 (rvG l 0 0).2.2]) ∧ w' = w := by
  obtain ⟨hl, h2, h3, h4⟩ := h
  have HL : Hid (l.length = len) := hl
  have hle : len ≤ l.length := by omega
  obtain ⟨R, hR⟩ : ∃ R, rvG l 0 0 = R := ⟨_, rfl⟩
  rw [hR]
  have HR : Hid (rvG l 0 0 = R) := hR
  clear hR hl
  go_enter Try.func100, Try.ntmps100
  go_wp2
  go_loop [5, 10] (fun nn i => ∃ (k : Nat) (n : Int), k ≤ len ∧ k ≤ 9 ∧ i = .int .i64 k ∧ nn = .int .u64 n ∧ Hid (rvG (l.drop k) k n = R)) (fun _ i => len - (intOf i).toNat)
  case atStart => exact ⟨0, 0, Nat.zero_le _, by decide, rfl, rfl, HR⟩
  case round =>
    obtain ⟨k, n, hk, hk9, rfl, rfl, HG⟩ := hrel
    by_cases hlt : k < len
    · rcases h4 with rfl | ⟨b, off, rfl, hbl, hc⟩
      · simp at hle; omega
      · have hkl : k < l.length := by omega
        have hcx := hc k hkl
        have hxx : l[k]? = some l[k] := List.getElem?_eq_getElem hkl
        obtain ⟨x0, x1⟩ := h2 _ (List.getElem_mem hkl)
        generalize l[k] = c at *
        have HX : Hid (l[k]? = some c) := hxx
        clear hxx hc
        by_cases ca : k = 9 ∧ 1 < c
        · obtain ⟨c1, c2⟩ := ca
          have HF := rvG_a (n := n) HX.out c1 c2
          rw [HG.out] at HF
          have HF' : Hid (R = (0, 0, 3)) := HF
          have t1 : ((k : Int) == 9) = true := by simp; omega
          clear HF c1
          go_wp2
          go_ret3
          exact ⟨ret_3 HF'.out, rfl⟩
        · by_cases cb : 0 < k ∧ c = 0
          · obtain ⟨c1, c2⟩ := cb
            have HF := rvG_b (n := n) HX.out ca c1 c2
            rw [HG.out] at HF
            have HF' : Hid (R = (0, 0, 3)) := HF
            have t1 : (c == 0) = true := by simp; omega
            have t2 : ¬ 1 < c := by omega
            have t3 : (0 : Int) < (k : Int) := by omega
            clear HF c2 ca
            go_wp2
            all_goals (go_ret3; exact ⟨ret_3 HF'.out, rfl⟩)
          · have hcase : (k = 9 ∧ c = 1) ∨ (¬ k = 9 ∧ k = 0) ∨ (¬ k = 9 ∧ 0 < k ∧ 0 < c) := by omega
            by_cases c3 : c < 128
            · have HF := rvG_c (n := n) HX.out ca cb c3
              rw [HG.out] at HF
              have HF' : Hid (R = (grp n c k, (k : Int) + 1, 0)) := HF
              clear HF ca cb
              rcases hcase with ⟨c1, c2⟩ | ⟨c1, c2⟩ | ⟨c1, c2, c4⟩
              · have t1 : ((k : Int) == 9) = true := by simp; omega
                have t2 : ¬ 1 < c := by omega
                have t3 : (c == 0) = false := by simp; omega
                have t4 : (0 : Int) < (k : Int) := by omega
                clear c1 c2
                go_wp2
                go_ret3
                exact ⟨ret_3 HF'.out, rfl⟩
              · have t1 : ((k : Int) == 9) = false := by simp; omega
                have t4 : ¬ (0 : Int) < (k : Int) := by omega
                clear c1 c2
                go_wp2
                go_ret3
                exact ⟨ret_3 HF'.out, rfl⟩
              · have t1 : ((k : Int) == 9) = false := by simp; omega
                have t3 : (c == 0) = false := by simp; omega
                have t4 : (0 : Int) < (k : Int) := by omega
                clear c1 c2 c4
                go_wp2
                go_ret3
                exact ⟨ret_3 HF'.out, rfl⟩
            · have HF := rvG_d (n := n) HX.out ca cb c3
              rw [HG.out] at HF
              have HF' : Hid (R = rvG (l.drop (k + 1)) (k + 1) (grp n c k)) := HF
              clear HF ca cb
              have k9 : k < 9 := by omega
              rcases hcase with ⟨c1, c2⟩ | ⟨c1, c2⟩ | ⟨c1, c2, c4⟩
              · omega
              · have t1 : ((k : Int) == 9) = false := by simp; omega
                have t4 : ¬ (0 : Int) < (k : Int) := by omega
                clear c1 c2
                go_wp2
                go_round
                case rel => exact ⟨k + 1, grp n c k, by omega, by omega, by go_num, rfl, HF'.out.symm⟩
                case measure => simp [intOf]; omega
              · have t1 : ((k : Int) == 9) = false := by simp; omega
                have t3 : (c == 0) = false := by simp; omega
                have t4 : (0 : Int) < (k : Int) := by omega
                clear c1 c2 c4
                go_wp2
                go_round
                case rel => exact ⟨k + 1, grp n c k, by omega, by omega, by go_num, rfl, HF'.out.symm⟩
                case measure => simp [intOf]; omega
    · have HF := rvG_e (n := n) (l := l) (k := k) (by have := HL.out; omega)
      rw [HG.out] at HF
      have HF' : Hid (R = (0, 0, 4)) := HF
      clear HF
      go_wp2
      go_ret3
      exact ⟨ret_3 HF'.out, rfl⟩
set_option maxRecDepth 100000 in
set_option maxHeartbeats 2000000 in
theorem rrv_any (a : Option Addr) (len cap : Nat) (l : List Int) (w : World) (h : Arg w a len cap l) :
    Calls Try.prog 106 #[.slice a len cap] w fun e w' => e = .returned (.tuple #[.int .u64 (rvG l 0 0).1, .int .i64 (rvG l 0 0).2.1, .int .i64 (rvG l 0 0).2.2]) ∧ w' = w := by
  obtain ⟨hl, h2, h3, h4⟩ := h
  have HL : Hid (l.length = len) := hl
  have hle : len ≤ l.length := by omega
  obtain ⟨R, hR⟩ : ∃ R, rvG l 0 0 = R := ⟨_, rfl⟩
  rw [hR]
  have HR : Hid (rvG l 0 0 = R) := hR
  clear hR hl
  go_enter Try.func106, Try.ntmps106
  go_wp2
  go_loop [5, 6] (fun nn i => ∃ (k : Nat) (n : Int), k ≤ len ∧ k ≤ 9 ∧ i = .int .i64 k ∧ nn = .int .u64 n ∧ Hid (rvG (l.drop k) k n = R)) (fun _ i => len - (intOf i).toNat)
  case atStart => exact ⟨0, 0, Nat.zero_le _, by decide, rfl, rfl, HR⟩
  case round =>
    obtain ⟨k, n, hk, hk9, rfl, rfl, HG⟩ := hrel
    by_cases hlt : k < len
    · rcases h4 with rfl | ⟨b, off, rfl, hbl, hc⟩
      · simp at hle; omega
      · have hkl : k < l.length := by omega
        have hcx := hc k hkl
        have hxx : l[k]? = some l[k] := List.getElem?_eq_getElem hkl
        obtain ⟨x0, x1⟩ := h2 _ (List.getElem_mem hkl)
        generalize l[k] = c at *
        have hand : bits .and .u64 c 127 = c % 128 := and127 c x0 (by omega)
        have HX : Hid (l[k]? = some c) := hxx
        clear hxx hc
        by_cases ca : k = 9 ∧ 1 < c
        · obtain ⟨c1, c2⟩ := ca
          have HF := rvG_a (n := n) HX.out c1 c2
          rw [HG.out] at HF
          have HF' : Hid (R = (0, 0, 3)) := HF
          have t1 : ((k : Int) == 9) = true := by simp; omega
          clear HF c1
          go_wp2
          go_ret3
          exact ⟨ret_3 HF'.out, rfl⟩
        · by_cases cb : 0 < k ∧ c = 0
          · obtain ⟨c1, c2⟩ := cb
            have HF := rvG_b (n := n) HX.out ca c1 c2
            rw [HG.out] at HF
            have HF' : Hid (R = (0, 0, 3)) := HF
            have t1 : (c == 0) = true := by simp; omega
            have t2 : ¬ 1 < c := by omega
            have t3 : (0 : Int) < (k : Int) := by omega
            clear HF c2 ca
            go_wp2
            all_goals (go_ret3; exact ⟨ret_3 HF'.out, rfl⟩)
          · have hcase : (k = 9 ∧ c = 1) ∨ (¬ k = 9 ∧ k = 0) ∨ (¬ k = 9 ∧ 0 < k ∧ 0 < c) := by omega
            by_cases c3 : c < 128
            · have HF := rvG_c (n := n) HX.out ca cb c3
              rw [HG.out] at HF
              have HF' : Hid (R = (grp n c k, (k : Int) + 1, 0)) := HF
              clear HF ca cb
              rcases hcase with ⟨c1, c2⟩ | ⟨c1, c2⟩ | ⟨c1, c2, c4⟩
              · have t1 : ((k : Int) == 9) = true := by simp; omega
                have t2 : ¬ 1 < c := by omega
                have t3 : (c == 0) = false := by simp; omega
                have t4 : (0 : Int) < (k : Int) := by omega
                clear c1 c2
                go_wp2
                go_ret3
                exact ⟨ret_3 HF'.out, rfl⟩
              · have t1 : ((k : Int) == 9) = false := by simp; omega
                have t4 : ¬ (0 : Int) < (k : Int) := by omega
                clear c1 c2
                go_wp2
                go_ret3
                exact ⟨ret_3 HF'.out, rfl⟩
              · have t1 : ((k : Int) == 9) = false := by simp; omega
                have t3 : (c == 0) = false := by simp; omega
                have t4 : (0 : Int) < (k : Int) := by omega
                clear c1 c2 c4
                go_wp2
                go_ret3
                exact ⟨ret_3 HF'.out, rfl⟩
            · have HF := rvG_d (n := n) HX.out ca cb c3
              rw [HG.out] at HF
              have HF' : Hid (R = rvG (l.drop (k + 1)) (k + 1) (grp n c k)) := HF
              clear HF ca cb
              have k9 : k < 9 := by omega
              rcases hcase with ⟨c1, c2⟩ | ⟨c1, c2⟩ | ⟨c1, c2, c4⟩
              · omega
              · have t1 : ((k : Int) == 9) = false := by simp; omega
                have t4 : ¬ (0 : Int) < (k : Int) := by omega
                clear c1 c2
                go_wp2
                go_round
                case rel => exact ⟨k + 1, grp n c k, by omega, by omega, by go_num, rfl, HF'.out.symm⟩
                case measure => simp [intOf]; omega
              · have t1 : ((k : Int) == 9) = false := by simp; omega
                have t3 : (c == 0) = false := by simp; omega
                have t4 : (0 : Int) < (k : Int) := by omega
                clear c1 c2 c4
                go_wp2
                go_round
                case rel => exact ⟨k + 1, grp n c k, by omega, by omega, by go_num, rfl, HF'.out.symm⟩
                case measure => simp [intOf]; omega
    · have HF := rvG_e (n := n) (l := l) (k := k) (by have := HL.out; omega)
      rw [HG.out] at HF
      have HF' : Hid (R = (0, 0, 4)) := HF
      clear HF
      go_wp2
      go_ret3
      exact ⟨ret_3 HF'.out, rfl⟩
end Go.Proofs.Ytkmpcheamdadcaa
