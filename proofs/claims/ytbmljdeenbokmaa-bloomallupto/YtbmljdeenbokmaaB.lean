/-
  A key's probes: the closure that tells them.
-/
import Derived.RangeFuncNested
import Derived.RangeFuncBound
import Derived.RangeFuncCalls
import Derived.RangeFuncLeaves
import Derived.RangeFuncBox
import Derived.Shelf.Abstract
import Derived.Shelf.RegionOpen
import Derived.OwnWalkIn
import Derived.TacticsInMore
import Derived.LoopNIn
import Derived.LoopIn
import Derived.Test.YtbmljdeenbokmaaA
namespace Go.Proofs.Ytbmljdeenbokmaa
open Go.RowKit Go.Shelf
set_option linter.unusedVariables false
set_option linter.unusedSimpArgs false
attribute [local go_sem] Oper.semAt_some

/-- What a round keeps: the box of the size. -/
def Kb (B : Nat) (W W' : World) : Prop := W'.cell? ⟨B, 0, none⟩ = W.cell? ⟨B, 0, none⟩
theorem Kb.refl (B : Nat) (W : World) : Kb B W W := rfl
theorem Kb.trans {B : Nat} {X Y Z : World} (h : Kb B X Y) (k : Kb B Y Z) : Kb B X Z := Eq.trans k h

/-- A number of m. -/
abbrev Pb (m : Int) := {p : Int // 0 ≤ p ∧ p < m}
def prbS (h : Int) {m : Int} (hm : 0 < m) (k : Nat) : Pb m := ⟨prb h m k, prb_bd h hm k⟩
def prbsS (h : Int) {m : Int} (hm : 0 < m) (n : Nat) : List (Pb m) := (List.range n).map (prbS h hm)
theorem prbsS_succ (h : Int) {m : Int} (hm : 0 < m) (n : Nat) : prbsS h hm (n + 1) = prbsS h hm n ++ [prbS h hm n] := by simp [prbsS, List.range_succ]
theorem prbsS_length (h : Int) {m : Int} (hm : 0 < m) (n : Nat) : (prbsS h hm n).length = n := by simp [prbsS]
theorem prbsS_val (h : Int) {m : Int} (hm : 0 < m) (n : Nat) : (prbsS h hm n).map (·.1) = prbs h m n := by simp [prbsS, prbs, prbS, Function.comp_def]

def vals {m : Int} (l : List (Pb m)) : List Int := l.map Subtype.val
theorem vals_snoc {m : Int} (l : List (Pb m)) (p : Pb m) : vals (l ++ [p]) = vals l ++ [p.1] := by simp [vals]
theorem vals_prbs (h : Int) {m : Int} (hm : 0 < m) (n : Nat) : vals (prbsS h hm n) = prbs h m n := prbsS_val h hm n

set_option maxRecDepth 100000 in
set_option maxHeartbeats 1000000 in
theorem probes1_in (F : Fence) (n : Nat) (h7 : F.fn 27) (hro : F.round = none) (hn : 1 ≤ n) (l B1 B2 B3 B4 : Nat) (b off N cap : Nat) (h m x : Int) (hN : N ≤ 16777216) (hh0 : 0 ≤ h) (hh1 : h < 18446744073709551616) (hm0 : 0 < m) (hm1 : m < 4294967296) (hx0 : 0 ≤ x) (hx1 : x ≤ 30) (J Jx : List (Pb m) → World → Prop)
    (hY : ∀ pre p W, J pre W → pre.length < x.toNat → YieldAt F (n - 1) Try.prog l #[.int .u32 p.1] W fun e W' =>
      (e = .returned (.bool true) ∧ J (pre ++ [p]) W' ∧ Kb B4 W W') ∨ (e = .returned (.bool false) ∧ Jx (pre ++ [p]) W'))
    (W : World) (c1 : W.cell? ⟨B1, 0, none⟩ = some (.int .u64 h)) (c2 : W.cell? ⟨B2, 0, none⟩ = some (.slice (some ⟨b, off, none⟩) (N + 1) cap)) (c3 : W.cell? ⟨B3, 0, none⟩ = some (.int .i64 N)) (c4 : W.cell? ⟨B4, 0, none⟩ = some (.int .u32 m))
    (cx : W.cell? ⟨b, off + N, none⟩ = some (.int .u8 x)) (h0 : J [] W) :
    CallsIn F n Try.prog 27 #[.func (.yield l) #[] #[], .pointer (some ⟨B1, 0, none⟩), .pointer (some ⟨B2, 0, none⟩), .pointer (some ⟨B3, 0, none⟩), .pointer (some ⟨B4, 0, none⟩)] W fun e W' => (∃ v, e = .returned v) ∧
      ((∃ ys, ys = prbsS h hm0 x.toNat ∧ J ys W') ∨ (∃ pre, (∃ k, k ≤ x.toNat ∧ pre = prbsS h hm0 k) ∧ Jx pre W')) := by
  refine callsIn_of_wp Try.func27 rfl h7 ?_ hro
  simp only [Try.ntmps27, List.size_toArray, List.length_cons, List.length_nil, Nat.reduceAdd, Nat.reduceSub, Array.replicate_succ, Array.replicate_zero, List.push_toArray, List.append_toArray, List.nil_append, List.cons_append]
  gi_wp2
  gi_loopw [6, 18] (fun t i wr => ∃ k : Nat, (k : Int) ≤ x ∧ i = .int .u8 k ∧ t = .int .u32 (atK h k) ∧ J (prbsS h hm0 k) wr ∧ Kb B4 W wr)
    (fun _ i _ => (x - intOf i).toNat)
  case atStart => exact ⟨0, by omega, rfl, rfl, h0, Kb.refl _ _⟩
  case round =>
    obtain ⟨k, hk, rfl, rfl, hJs, hnx⟩ := hrel
    have ha := atK_bd h k
    obtain ⟨ha0, ha1⟩ := ha
    by_cases hlt : (k : Int) < x
    · have hc4 : wr.cell? ⟨B4, 0, none⟩ = some (.int .u32 m) := Eq.trans hnx c4
      obtain ⟨fn, tmps, assign, body, hy, hR⟩ := hY _ (prbS h hm0 k) wr hJs (by rw [prbsS_length]; omega)
      unfold prbS prb at hy
      dsimp only at hy
      have hst := stp_bd h
      unfold stp at hst
      obtain ⟨hs0, hs1⟩ := hst
      gi_wp2
      refine hR.mono ?_
      rintro e W3 (⟨rfl, hJ3, hk3⟩ | ⟨rfl, hJx3⟩)
      · gi_wp2
        go_roundw
        case rel => exact ⟨k + 1, by omega, by go_num, rfl, by rw [prbsS_succ]; exact hJ3, hnx.trans hk3⟩
        case measure => simp [intOf]; omega
      · gi_wp2
        refine bodyPost_ret (results_none rfl _ _ _) rfl ?_
        exact ⟨⟨_, rfl⟩, .inr ⟨_, ⟨k + 1, by omega, by rw [prbsS_succ]⟩, hJx3⟩⟩
    · obtain rfl : (k : Int) = x := by omega
      gi_wp2
      go_end0
      exact ⟨⟨_, rfl⟩, .inl hJs⟩

set_option maxHeartbeats 1000000 in
/-- probes(filter, key): the boxes, and the closure over them. -/
theorem probes_in (F : Fence) (n : Nat) (h23 : F.fn 23) (h13 : F.fn 13) (hro : F.round = none) (a : Option Addr) (N cap : Nat) (s : ByteArray) (w : World) (hs : s.size ≤ maxLen) (hN : N ≤ 16777216)
    (hH : ∀ w', CallsIn F (n - 1) Try.prog 13 #[.string s] w' fun e w'' => e = .returned (.int .u64 (hsh s)) ∧ w'' = w') (hn : 1 ≤ n) :
    CallsIn F n Try.prog 23 #[.slice a (N + 1) cap, .string s] w fun e w' =>
      e = .returned (.func (.func 27) #[] #[.pointer (some ⟨w.heap.size + 3, 0, none⟩), .pointer (some ⟨w.heap.size, 0, none⟩), .pointer (some ⟨w.heap.size + 1, 0, none⟩), .pointer (some ⟨w.heap.size + 2, 0, none⟩)]) ∧
      w' = (((w.alloc (.cells #[.slice a (N + 1) cap] 23)).alloc (.cells #[.int .i64 N] 3)).alloc (.cells #[.int .u32 (N * 8)] 48)).alloc (.cells #[.int .u64 (hsh s)] 31) := by
  refine callsIn_of_wp Try.func23 rfl h23 ?_ hro
  simp only [Try.ntmps23, List.size_toArray, List.length_cons, List.length_nil, Nat.reduceAdd, Nat.reduceSub, Array.replicate_succ, Array.replicate_zero, List.push_toArray, List.append_toArray, List.nil_append, List.cons_append]
  gi_wp2_with (gi_at_call 13; refine (hH _).mono ?_; rintro e w' ⟨rfl, rfl⟩)
  go_ret
  exact ⟨rfl, rfl⟩

/-- The world behind probes(filter, key). -/
def pbox (w : World) (a : Option Addr) (N cap : Nat) (s : ByteArray) : World :=
  (((w.alloc (.cells #[.slice a (N + 1) cap] 23)).alloc (.cells #[.int .i64 N] 3)).alloc (.cells #[.int .u32 (N * 8)] 48)).alloc (.cells #[.int .u64 (hsh s)] 31)
theorem pbox_size (w : World) (a : Option Addr) (N cap : Nat) (s : ByteArray) : (pbox w a N cap s).heap.size = w.heap.size + 4 := by simp [pbox]
theorem pbox_below (w : World) (a : Option Addr) (N cap : Nat) (s : ByteArray) : Below w.heap.size w (pbox w a N cap s) :=
  ((((Below.refl _ w).alloc (Nat.le_refl _) _).alloc (by simp) _).alloc (by simp <;> omega) _).alloc (by simp <;> omega) _
theorem new_cell (w : World) (v : Value) (t : TypeId) : (w.alloc (.cells #[v] t)).cell? ⟨w.heap.size, 0, none⟩ = some v := (Boxed.new w t v).cell
theorem old_cell (w : World) (o : Obj) (p : Addr) (h : p.block < w.heap.size) : (w.alloc o).cell? p = w.cell? p := ((Below.refl (p.block + 1) w).alloc h o).cell (Nat.lt_succ_self _)
theorem pbox_cells (w : World) (a : Option Addr) (N cap : Nat) (s : ByteArray) :
    (pbox w a N cap s).cell? ⟨w.heap.size, 0, none⟩ = some (.slice a (N + 1) cap) ∧ (pbox w a N cap s).cell? ⟨w.heap.size + 1, 0, none⟩ = some (.int .i64 N) ∧
    (pbox w a N cap s).cell? ⟨w.heap.size + 2, 0, none⟩ = some (.int .u32 (N * 8)) ∧ (pbox w a N cap s).cell? ⟨w.heap.size + 3, 0, none⟩ = some (.int .u64 (hsh s)) := by
  unfold pbox
  refine ⟨?_, ?_, ?_, ?_⟩
  · rw [old_cell _ _ _ (by simp <;> omega), old_cell _ _ _ (by simp <;> omega), old_cell _ _ _ (by simp), new_cell]
  · rw [old_cell _ _ _ (by simp <;> omega), old_cell _ _ _ (by simp)]
    have := new_cell (w.alloc (.cells #[.slice a (N + 1) cap] 23)) (.int .i64 N) 3
    rwa [World.size_alloc] at this
  · rw [old_cell _ _ _ (by simp)]
    have := new_cell ((w.alloc (.cells #[.slice a (N + 1) cap] 23)).alloc (.cells #[.int .i64 N] 3)) (.int .u32 (N * 8)) 48
    rwa [World.size_alloc, World.size_alloc] at this
  · have := new_cell (((w.alloc (.cells #[.slice a (N + 1) cap] 23)).alloc (.cells #[.int .i64 N] 3)).alloc (.cells #[.int .u32 (N * 8)] 48)) (.int .u64 (hsh s)) 31
    rwa [World.size_alloc, World.size_alloc, World.size_alloc] at this

/-- The closure goes through the key's probes. W0: the world in which it is ranged over. -/
theorem probes_stops (F : Fence) (n : Nat) (h7 : F.fn 27) (hro : F.round = none) (hn : 1 ≤ n) (W0 : World) (B1 B2 B3 B4 b off N cap : Nat) (h x : Int) (hN : N ≤ 16777216) (hN8 : 8 ≤ N) (hh0 : 0 ≤ h) (hh1 : h < 18446744073709551616) (hx0 : 0 ≤ x) (hx1 : x ≤ 30)
    (l1 : B1 < W0.heap.size) (l2 : B2 < W0.heap.size) (l3 : B3 < W0.heap.size) (l4 : B4 < W0.heap.size) (lb : b < W0.heap.size)
    (c1 : W0.cell? ⟨B1, 0, none⟩ = some (.int .u64 h)) (c2 : W0.cell? ⟨B2, 0, none⟩ = some (.slice (some ⟨b, off, none⟩) (N + 1) cap)) (c3 : W0.cell? ⟨B3, 0, none⟩ = some (.int .i64 N)) (c4 : W0.cell? ⟨B4, 0, none⟩ = some (.int .u32 (N * 8)))
    (cx : W0.cell? ⟨b, off + N, none⟩ = some (.int .u8 x)) :
    SeqStopsK F n Try.prog 27 #[.pointer (some ⟨B1, 0, none⟩), .pointer (some ⟨B2, 0, none⟩), .pointer (some ⟨B3, 0, none⟩), .pointer (some ⟨B4, 0, none⟩)] (fun p : Pb ((N : Int) * 8) => #[Value.int .u32 p.1]) (Kb B4)
      (fun ys => ys = prbsS h (m := (N : Int) * 8) (by omega) x.toNat) (fun pre => ∃ k, k ≤ x.toNat ∧ pre = prbsS h (m := (N : Int) * 8) (by omega) k) x.toNat W0 := fun l J Jx W hW _ _ hY h0 =>
  probes1_in F n h7 hro hn l B1 B2 B3 B4 b off N cap h (N * 8) x hN hh0 hh1 (by omega) (by omega) hx0 hx1 J Jx hY W ((hW.cell (p := ⟨B1, 0, none⟩) l1).trans c1) ((hW.cell (p := ⟨B2, 0, none⟩) l2).trans c2) ((hW.cell (p := ⟨B3, 0, none⟩) l3).trans c3) ((hW.cell (p := ⟨B4, 0, none⟩) l4).trans c4) ((hW.cell (p := ⟨b, off + N, none⟩) lb).trans cx) h0

/-- A block that is no cells is put: the box stays. -/
theorem kb_put {B : Nat} {w : World} (hB : B < w.heap.size) (W : World) (l : Nat) (o o' : Obj) (hl : w.heap.size ≤ l) (h : W.heap[l]? = some o) (h1 : o.isCells = false) (h2 : o.isWalk = false) : Kb B W (W.putObj l o') :=
  (belowK_b (n₀ := w.heap.size) (Nat.le_refl _) W l o o' hl h h1 h2).cell (p := ⟨B, 0, none⟩) hB
end Go.Proofs.Ytbmljdeenbokmaa
