/-
  slices.IndexFunc over tables, with either closure; place.
-/
import Derived.Test.YtkmpcheamdadcaaVf
import Derived.Lib.AppendZeros
import Derived.Laws.EntriesVeiled
namespace Go.Proofs.Ytkmpcheamdadcaa
open Go.RowKit
set_option linter.unusedVariables false
set_option linter.unusedSimpArgs false
/-- The first one that a test picks: its place, or -1. -/
def idxP (p : Fi → Bool) (l : List Fi) : Int := if l.findIdx p < l.length then (l.findIdx p : Int) else -1
def numB (n : Int) (f : Fi) : Bool := f.num == n
set_option maxRecDepth 100000 in
set_option maxHeartbeats 1000000 in
theorem num_any {w : World} {G : Nat} {n : Int} (h1 : w.cell? ⟨G, 1, none⟩ = some (.int .u64 n)) (f : Fi) :
    Calls Try.prog 48 #[f.v, ptr G] w fun e w' => e = .returned (.bool (numB n f)) ∧ Below w.heap.size w w' := by
  have hl := cell_lt h1
  unfold numB
  go_enter Try.func48, Try.ntmps48
  go_wp2
  go_ret
  exact ⟨rfl, al1 _ _⟩
/-- Whether a table stands behind one that is put in. -/
def behB (how : Int) (lv : Nat) (a : Fi) (f : Fi) : Bool := if lv = 0 then decide (f.num < a.num) else decide (0 < ordF how f.sm a.sm)
set_option maxRecDepth 100000 in
set_option maxHeartbeats 1000000 in
theorem beh_any {w : World} {A H : Nat} {how : Int} {lv : Nat} {a : Fi} (h0 : w.cell? ⟨A, 0, none⟩ = some (.int .i64 lv)) (h1 : w.cell? ⟨A, 1, none⟩ = some (.int .u64 a.num)) (h3 : w.cell? ⟨A, 3, none⟩ = some (.string a.sm.u)) (h4 : w.cell? ⟨A, 4, none⟩ = some (.int .u64 a.sm.s)) (h5 : w.cell? ⟨A, 5, none⟩ = some (.int .i64 a.sm.k))
    (hh : w.cell? ⟨H, 0, none⟩ = some (.int .i64 how)) (f : Fi) :
    Calls Try.prog 86 #[f.v, ptr A, ptr H] w fun e w' => e = .returned (.bool (behB how lv a f)) ∧ Below w.heap.size w w' := by
  have hl := cell_lt h1
  have hl2 := cell_lt hh
  unfold behB
  by_cases hz : lv = 0
  · have hb : ((lv : Int) == 0) = true := by simp [hz]
    rw [if_pos hz]
    clear hz
    go_enter Try.func86, Try.ntmps86
    go_wp2
    go_ret
    exact ⟨rfl, al1 _ _⟩
  · have hb : ((lv : Int) == 0) = false := by simp [hz]
    rw [if_neg hz]
    clear hz
    have HO := fun w => cord_any how f.sm.u f.sm.s f.sm.k a.sm.u a.sm.s a.sm.k w
    show Calls _ _ _ _ fun e w' => e = .returned (.bool (decide (0 < ordK how f.sm.u f.sm.s f.sm.k a.sm.u a.sm.s a.sm.k))) ∧ _
    generalize ordK how f.sm.u f.sm.s f.sm.k a.sm.u a.sm.s a.sm.k = O at *
    go_enter Try.func86, Try.ntmps86
    go_wp2_with (go_at_call 56; refine (HO _).mono ?_; rintro e w' ⟨rfl, rfl⟩)
    go_ret
    exact ⟨rfl, bstep (bstep (al1 _ _) (al1 _ _)) (al1 _ _)⟩
set_option maxRecDepth 100000 in
set_option maxHeartbeats 1000000 in
theorem findex48 {w : World} {a : Option Addr} {cap : Nat} {l : List Fi} (hr : RdF w a l) (hl : l.length * 96 ≤ 140737488355328) {G : Nat} {p : Fi → Bool} (hp : ∀ W, Below w.heap.size w W → ∀ t, Calls Try.prog 48 #[t.v, ptr G] W fun e w' => e = .returned (.bool (p t)) ∧ Below W.heap.size W w') :
    Calls Try.prog 47 #[.slice a l.length cap, .func (.func 48) #[] #[ptr G]] w fun e w' => e = .returned (.int .i64 (idxP p l)) ∧ Below w.heap.size w w' := by
  have HR : Hid (RdF w a l) := hr
  have HP : Hid (∀ W, Below w.heap.size w W → ∀ t, Calls Try.prog 48 #[t.v, ptr G] W fun e w' => e = .returned (.bool (p t)) ∧ Below W.heap.size W w') := hp
  obtain ⟨R, hR⟩ : ∃ R, Hid (idxP p l = R) := ⟨_, rfl⟩
  rw [hR.out]
  obtain ⟨N, hN⟩ : ∃ N, Hid (N = l.length) := ⟨_, rfl⟩
  rw [← hN.out] at hl ⊢
  clear hr hp
  go_enter Try.func47, Try.ntmps47
  go_wp2_with fail
  go_loopw [8] (fun i wr => ∃ k : Nat, k ≤ N ∧ i = .int .i64 k ∧ Hid (Below w.heap.size w wr ∧ ∀ j t, j < k → l[j]? = some t → p t = false)) (fun i _ => ((N : Int) - intOf i).toNat)
  case atStart => exact ⟨0, Nat.zero_le _, rfl, Below.refl _ _, fun j t h => absurd h (Nat.not_lt_zero _)⟩
  case round =>
    obtain ⟨k, hk, rfl, HB⟩ := hrel
    rcases Nat.lt_or_ge k N with hkN | hkN
    · have hkz : (k : Int) < N := by omega
      obtain ⟨t, ht⟩ : ∃ t, l[k]? = some t := ⟨l[k]'(by rw [← hN.out]; omega), List.getElem?_eq_getElem _⟩
      obtain ⟨g, o, rfl, hat⟩ := (HR.out.below HB.out.1).at_ ht
      obtain ⟨t0, t1, t2, t3, t4, t5, t6, t7, t8, t9⟩ := hat.f
      have HT : Hid (l[k]? = some t) := ht
      have HC : Hid (Calls Try.prog 48 #[t.v, ptr G] wr fun e w' => e = .returned (.bool (p t)) ∧ Below wr.heap.size wr w') := HP.out wr HB.out.1 t
      clear ht hat
      cases hp : p t
      · rw [hp] at HC
        go_wp2_with (go_at_call 48; refine HC.out.mono ?_; rintro e w1 ⟨rfl, hb1⟩; have HI2 : Hid (Below w.heap.size w w1) := bstep HB.out.1 hb1; clear hb1)
        go_roundw
        case rel =>
          refine ⟨k + 1, by omega, by go_num, HI2.out, fun j t' hj ht' => ?_⟩
          by_cases e : j = k
          · subst e; rw [HT.out] at ht'; cases ht'; exact hp
          · exact HB.out.2 j t' (by omega) ht'
        case measure => simp [intOf]; omega
      · rw [hp] at HC
        go_wp2_with (go_at_call 48; refine HC.out.mono ?_; rintro e w1 ⟨rfl, hb1⟩; have HI2 : Hid (Below w.heap.size w w1) := bstep HB.out.1 hb1; clear hb1)
        go_ret
        refine ⟨?_, HI2.out⟩
        rw [← hR.out]
        have hf : l.findIdx p = k := by
          rw [List.findIdx_eq (by rw [← hN.out]; exact hkN)]
          obtain ⟨h1, h2⟩ := List.getElem?_eq_some_iff.1 HT.out
          refine ⟨by rw [h2]; exact hp, fun j hj => ?_⟩
          exact HB.out.2 j _ hj (List.getElem?_eq_getElem (by rw [← hN.out]; omega))
        unfold idxP
        rw [hf, if_pos (by rw [← hN.out]; exact hkN)]
        rfl
    · obtain rfl : k = N := by omega
      have hz : ¬ ((k : Int) < k) := by omega
      go_wp2_with fail
      go_ret
      refine ⟨?_, HB.out.1⟩
      rw [← hR.out]
      unfold idxP
      rw [if_neg]
      · rfl
      · rw [List.findIdx_lt_length]
        rintro ⟨x, hx, hpx⟩
        obtain ⟨j, hj, rfl⟩ := List.getElem_of_mem hx
        have := HB.out.2 j _ (by rw [hN.out]; exact hj) (List.getElem?_eq_getElem hj)
        rw [this] at hpx; cases hpx
set_option maxRecDepth 100000 in
set_option maxHeartbeats 1000000 in
theorem findex86 {w : World} {a : Option Addr} {cap : Nat} {l : List Fi} (hr : RdF w a l) (hl : l.length * 96 ≤ 140737488355328) {A H : Nat} {p : Fi → Bool} (hp : ∀ W, Below w.heap.size w W → ∀ t, Calls Try.prog 86 #[t.v, ptr A, ptr H] W fun e w' => e = .returned (.bool (p t)) ∧ Below W.heap.size W w') :
    Calls Try.prog 47 #[.slice a l.length cap, .func (.func 86) #[] #[ptr A, ptr H]] w fun e w' => e = .returned (.int .i64 (idxP p l)) ∧ Below w.heap.size w w' := by
  have HR : Hid (RdF w a l) := hr
  have HP : Hid (∀ W, Below w.heap.size w W → ∀ t, Calls Try.prog 86 #[t.v, ptr A, ptr H] W fun e w' => e = .returned (.bool (p t)) ∧ Below W.heap.size W w') := hp
  obtain ⟨R, hR⟩ : ∃ R, Hid (idxP p l = R) := ⟨_, rfl⟩
  rw [hR.out]
  obtain ⟨N, hN⟩ : ∃ N, Hid (N = l.length) := ⟨_, rfl⟩
  rw [← hN.out] at hl ⊢
  clear hr hp
  go_enter Try.func47, Try.ntmps47
  go_wp2_with fail
  go_loopw [8] (fun i wr => ∃ k : Nat, k ≤ N ∧ i = .int .i64 k ∧ Hid (Below w.heap.size w wr ∧ ∀ j t, j < k → l[j]? = some t → p t = false)) (fun i _ => ((N : Int) - intOf i).toNat)
  case atStart => exact ⟨0, Nat.zero_le _, rfl, Below.refl _ _, fun j t h => absurd h (Nat.not_lt_zero _)⟩
  case round =>
    obtain ⟨k, hk, rfl, HB⟩ := hrel
    rcases Nat.lt_or_ge k N with hkN | hkN
    · have hkz : (k : Int) < N := by omega
      obtain ⟨t, ht⟩ : ∃ t, l[k]? = some t := ⟨l[k]'(by rw [← hN.out]; omega), List.getElem?_eq_getElem _⟩
      obtain ⟨g, o, rfl, hat⟩ := (HR.out.below HB.out.1).at_ ht
      obtain ⟨t0, t1, t2, t3, t4, t5, t6, t7, t8, t9⟩ := hat.f
      have HT : Hid (l[k]? = some t) := ht
      have HC : Hid (Calls Try.prog 86 #[t.v, ptr A, ptr H] wr fun e w' => e = .returned (.bool (p t)) ∧ Below wr.heap.size wr w') := HP.out wr HB.out.1 t
      clear ht hat
      cases hp : p t
      · rw [hp] at HC
        go_wp2_with (go_at_call 86; refine HC.out.mono ?_; rintro e w1 ⟨rfl, hb1⟩; have HI2 : Hid (Below w.heap.size w w1) := bstep HB.out.1 hb1; clear hb1)
        go_roundw
        case rel =>
          refine ⟨k + 1, by omega, by go_num, HI2.out, fun j t' hj ht' => ?_⟩
          by_cases e : j = k
          · subst e; rw [HT.out] at ht'; cases ht'; exact hp
          · exact HB.out.2 j t' (by omega) ht'
        case measure => simp [intOf]; omega
      · rw [hp] at HC
        go_wp2_with (go_at_call 86; refine HC.out.mono ?_; rintro e w1 ⟨rfl, hb1⟩; have HI2 : Hid (Below w.heap.size w w1) := bstep HB.out.1 hb1; clear hb1)
        go_ret
        refine ⟨?_, HI2.out⟩
        rw [← hR.out]
        have hf : l.findIdx p = k := by
          rw [List.findIdx_eq (by rw [← hN.out]; exact hkN)]
          obtain ⟨h1, h2⟩ := List.getElem?_eq_some_iff.1 HT.out
          refine ⟨by rw [h2]; exact hp, fun j hj => ?_⟩
          exact HB.out.2 j _ hj (List.getElem?_eq_getElem (by rw [← hN.out]; omega))
        unfold idxP
        rw [hf, if_pos (by rw [← hN.out]; exact hkN)]
        rfl
    · obtain rfl : k = N := by omega
      have hz : ¬ ((k : Int) < k) := by omega
      go_wp2_with fail
      go_ret
      refine ⟨?_, HB.out.1⟩
      rw [← hR.out]
      unfold idxP
      rw [if_neg]
      · rfl
      · rw [List.findIdx_lt_length]
        rintro ⟨x, hx, hpx⟩
        obtain ⟨j, hj, rfl⟩ := List.getElem_of_mem hx
        have := HB.out.2 j _ (by rw [hN.out]; exact hj) (List.getElem?_eq_getElem hj)
        rw [this] at hpx; cases hpx
set_option maxRecDepth 100000 in
set_option maxHeartbeats 1000000 in
theorem place_any {w : World} {x : Option Addr} {cap : Nat} {l : List Fi} (hr : RdF w x l) (hl : l.length * 96 ≤ 140737488355328) (how : Int) (lv : Nat) (a : Fi) :
    Calls Try.prog 50 #[.int .i64 how, .agg #[.int .i64 lv, .int .u64 a.num, .int .u64 a.size, .string a.sm.u, .int .u64 a.sm.s, .int .i64 a.sm.k, .string a.la.u, .int .u64 a.la.s, .int .i64 a.la.k, .int .u64 a.ents, .int .u64 a.rngs], .slice x l.length cap] w fun e w' => e = .returned (.int .i64 (l.findIdx (behB how lv a) : Nat)) ∧ Below w.heap.size w w' := by
  have hb0 : Below w.heap.size w ((w.alloc (.cells #[.int .i64 how] 3)).alloc (.cells #[.int .i64 lv, .int .u64 a.num, .int .u64 a.size, .string a.sm.u, .int .u64 a.sm.s, .int .i64 a.sm.k, .string a.la.u, .int .u64 a.la.s, .int .i64 a.la.k, .int .u64 a.ents, .int .u64 a.rngs] 64)) := bstep (al1 _ _) (al1 _ _)
  have B0 := (Blk.new w 3 [.int .i64 how]).alloc (.cells #[.int .i64 lv, .int .u64 a.num, .int .u64 a.size, .string a.sm.u, .int .u64 a.sm.s, .int .i64 a.sm.k, .string a.la.u, .int .u64 a.la.s, .int .i64 a.la.k, .int .u64 a.ents, .int .u64 a.rngs] 64)
  have B1 := Blk.new (w.alloc (.cells #[.int .i64 how] 3)) 64 [.int .i64 lv, .int .u64 a.num, .int .u64 a.size, .string a.sm.u, .int .u64 a.sm.s, .int .i64 a.sm.k, .string a.la.u, .int .u64 a.la.s, .int .i64 a.la.k, .int .u64 a.ents, .int .u64 a.rngs]
  rw [World.size_alloc] at B1
  have HI := findex86 (cap := cap) (hr.below hb0) hl (A := w.heap.size + 1) (H := w.heap.size) (p := behB how lv a) (fun W hW t => by
    have C0 := B0.upd (S := Non) (Upd.ofBelow hW) (fun h => h)
    have C1 := B1.upd (S := Non) (Upd.ofBelow hW) (fun h => h)
    exact beh_any (C1.cell1 0 _ rfl) (C1.cell1 1 _ rfl) (C1.cell1 3 _ rfl) (C1.cell1 4 _ rfl) (C1.cell1 5 _ rfl) (C0.cell1 0 _ rfl) t)
  have hm : Hid (l.findIdx (behB how lv a) ≤ l.length) := List.findIdx_le_length
  have HB0 : Hid (Below w.heap.size w ((w.alloc (.cells #[.int .i64 how] 3)).alloc (.cells #[.int .i64 lv, .int .u64 a.num, .int .u64 a.size, .string a.sm.u, .int .u64 a.sm.s, .int .i64 a.sm.k, .string a.la.u, .int .u64 a.la.s, .int .i64 a.la.k, .int .u64 a.ents, .int .u64 a.rngs] 64))) := hb0
  unfold idxP at HI
  generalize l.findIdx (behB how lv a) = I at *
  obtain ⟨N, hN⟩ : ∃ N, Hid (l.length = N) := ⟨_, rfl⟩
  rw [hN.out] at HI hl ⊢
  have hm' : Hid (I ≤ N) := by show I ≤ N; rw [← hN.out]; exact hm.out
  clear B0 B1 hb0 hr
  by_cases h : I < N
  · rw [if_pos h] at HI
    go_enter Try.func50, Try.ntmps50
    go_wp2_with (go_at_call 47; refine HI.mono ?_; rintro e w1 ⟨rfl, hb1⟩)
    go_ret
    exact ⟨rfl, bstep HB0.out hb1⟩
  · rw [if_neg h] at HI
    obtain rfl : I = N := by have := hm'.out; omega
    go_enter Try.func50, Try.ntmps50
    go_wp2_with (go_at_call 47; refine HI.mono ?_; rintro e w1 ⟨rfl, hb1⟩)
    go_ret
    exact ⟨rfl, bstep HB0.out hb1⟩
end Go.Proofs.Ytkmpcheamdadcaa
