import Derived.Test.YtlkfabejecgfgaaFg
import Derived.Laws.MakeOwn
import Derived.Carry
namespace Go.Proofs.Ytlkfabejecgfgaa
open Go.RowKit Go.Maps
set_option linter.unusedVariables false
set_option linter.unusedSimpArgs false
def newC (n room : Nat) (st : Bool) : Cs := { r := room / n, st := st, xs := List.replicate n x0, P := [] }
def zc : Array Value := #[.map none, .pointer none, .pointer none, .int .u64 0, .int .u64 0, .int .u64 0, .int .u64 0]
theorem info66 : (Try.prog.info? 66).map (fun i => (i.zero, i.size, i.bytes)) = some (some (.agg zc), 7, 56) := by kernel_rfl
def rc0 (n : Nat) : List Value := (madeCells zc (n * 7)).toList
theorem rc0_len (n : Nat) : (rc0 n).length = n * 7 := by simp [rc0, size_madeCells]
theorem rc0_cel {n i : Nat} (hi : i < n) : Cel (rc0 n) (i * 7) zc.toList := by
  intro j v hv
  have hj : j < 7 := (List.getElem?_eq_some_iff.1 hv).1
  unfold rc0 madeCells
  rw [Array.getElem?_toList, Array.getElem?_map, Array.getElem?_range, if_pos (by omega : i * 7 + j < n * 7)]
  have h7 : zc.size = 7 := rfl
  rw [Option.map_some, h7, show (i * 7 + j) % 7 = j by omega]
  rw [Array.getElem?_toList] at hv
  rw [← hv]
  rw [getElem!_pos zc j (by rw [h7]; omega)]
  exact (Array.getElem?_eq_getElem _).symm
theorem run_mk (n : Nat) (hn : n ≤ 64) (w : World) : (Instr.makeSlice 55 (.int .i64 (n : Int)) (.int .i64 (n : Int))).run Try.prog w = .ok (.slice (some ⟨w.heap.size, 0, none⟩) n n) (w.alloc (.cells (rc0 n).toArray 66)) := by
  have hI := info66
  cases hi : Try.prog.info? 66 with
  | none => rw [hi] at hI; cases hI
  | some i0 =>
    rw [hi] at hI
    simp only [Option.map_some, Option.some.injEq, Prod.mk.injEq] at hI
    obtain ⟨h1, h2, h3⟩ := hI
    have := run_make (P := Try.prog) w 55 66 i0 (.agg zc) Try.underlying55 hi h1 .i64 .i64 n n (by omega) (by omega) (by rw [h3]; omega) (by omega)
    rw [this, h2]
    unfold rc0
    simp
    rfl
/-- The making of the maps. -/
structure Mk (w wr : World) (n m : Nat) (st : Bool) : Prop where
  b : Blk wr (w.heap.size + 2) 58 [.slice (some ⟨w.heap.size, 0, none⟩) n n, .int .u64 0, .bool st, .map (some (w.heap.size + 1)), .int .i64 0]
  p : IM wr (w.heap.size + 1) (fun _ => none) (.map [])
  u : Upd Non w wr
  z : w.heap.size + 3 ≤ wr.heap.size
  r : ∃ (rc : List Value) (mbs : Nat → Nat), Blk wr w.heap.size 66 rc ∧ rc.length = n * 7 ∧ (∀ i, i < m → Cel rc (i * 7) (shC (mbs i) (fun _ => 0) x0) ∧ PM wr (mbs i) (fun _ => none) (.map []) ∧ w.heap.size + 3 ≤ mbs i) ∧
    (∀ i, m ≤ i → i < n → Cel rc (i * 7) zc.toList) ∧ (∀ i i', i < m → i' < m → mbs i = mbs i' → i = i')
theorem rep_get {n i : Nat} {x : Xs} (h : (List.replicate n x0)[i]? = some x) : x = x0 ∧ i < n := by
  obtain ⟨h1, h2⟩ := List.getElem?_eq_some_iff.1 h
  simp at h1 h2
  exact ⟨h2.symm, h1⟩
theorem Mk.done {w wr : World} {n : Nat} {st : Bool} (h : Mk w wr n n st) : ∃ L : Lo, L.cb = w.heap.size + 2 ∧ Ca wr L { r := 0, st := st, xs := List.replicate n x0, P := [] } ∧ ∀ k, Cb L { r := 0, st := st, xs := List.replicate n x0, P := [] } k → w.heap.size ≤ k := by
  obtain ⟨rc, mbs, hB, hl, h1, _, h3⟩ := h.r
  refine ⟨⟨w.heap.size + 2, w.heap.size, w.heap.size + 1, mbs, fun _ _ => 0⟩, rfl, ⟨?_, ⟨rc, by simpa using hl, ?_⟩, ⟨.map [], ?_, ?_⟩, ?_, ?_, ?_⟩, ?_⟩
  · have := h.b
    unfold caC
    simpa using this
  · intro i x hx
    obtain ⟨rfl, hi⟩ := rep_get hx
    obtain ⟨hc, hp, _⟩ := h1 i hi
    refine ⟨hB, hc, ⟨_, hp, rfl⟩, ?_, ?_, by simp [x0], ?_, ?_, by simp [x0], by simp [x0], ?_⟩
    · intro j e hj; simp [x0] at hj
    · intro a b ha; simp [x0] at ha
    · intro j hj; simp [x0] at hj
    · intro k j hj; simp [x0] at hj
    · intro j e hj; simp [x0] at hj
  · have e1 : (fun k => (({ r := 0, st := st, xs := List.replicate n x0, P := [] } : Cs).pin k).map (fun ij : Nat × Nat => 0)) = fun _ => none := by
      funext k; unfold Cs.pin; simp
    rw [e1]; exact h.p
  · simp [Maps.size]
  · intro i i' hi hi'; simp at hi hi'; exact h3 i i' hi hi'
  · intro i hi; simp at hi; have := (h1 i hi).2.2; simp only []; omega
  · intro i i' x x' j j' hx _ hj; obtain ⟨rfl, _⟩ := rep_get hx; simp [x0] at hj
  · rintro k (e | e | ⟨i, x, hx, hs⟩)
    · simp only [] at e; omega
    · simp only [] at e; omega
    · obtain ⟨rfl, hi⟩ := rep_get hx
      rcases hs with e | e | ⟨j, hj, _⟩
      · have := (h1 i hi).2.2; simp only [] at e; omega
      · simp only [] at e; omega
      · simp [x0] at hj
theorem Mk.start (w : World) (n : Nat) (st : Bool) : Mk w (((w.alloc (.cells (rc0 n).toArray 66)).alloc (.map #[] 0)).alloc (.cells #[.slice (some ⟨w.heap.size, 0, none⟩) n n, .int .u64 0, .bool st, .map (some (w.heap.size + 1)), .int .i64 0] 58)) n 0 st := by
  have s1 : (w.alloc (.cells (rc0 n).toArray 66)).heap.size = w.heap.size + 1 := by simp
  have s2 : ((w.alloc (.cells (rc0 n).toArray 66)).alloc (.map #[] 0)).heap.size = w.heap.size + 2 := by simp
  refine ⟨?_, ?_, ((((Upd.refl _ w).alloc _).alloc _).alloc _), by simp, ⟨rc0 n, fun _ => 0, ?_, rc0_len n, ?_, fun i _ hi => rc0_cel hi, ?_⟩⟩
  · have := Blk.new ((w.alloc (.cells (rc0 n).toArray 66)).alloc (.map #[] 0)) 58 [.slice (some ⟨w.heap.size, 0, none⟩) n n, .int .u64 0, .bool st, .map (some (w.heap.size + 1)), .int .i64 0]
    rw [s2] at this; exact this
  · have := KM.made 3 kI (w.alloc (.cells (rc0 n).toArray 66))
    rw [s1] at this
    exact this.upd ((Upd.refl Non _).alloc _) (fun e => e)
  · exact ((Blk.new w 66 (rc0 n)).alloc _).alloc _
  · intro i hi; omega
  · intro i i' hi; omega
theorem Mk.step {w wr : World} {n m : Nat} {st : Bool} (h : Mk w wr n m st) (hm : m < n) : Mk w ((wr.alloc (.map #[] 0)).setCell ⟨w.heap.size, m * 7, none⟩ (.map (some wr.heap.size))) n (m + 1) st := by
  obtain ⟨rc, mbs, hB, hl, h1, h2, h3⟩ := h.r
  have hz := h.z
  have U : Upd (fun k => k = w.heap.size) wr ((wr.alloc (.map #[] 0)).setCell ⟨w.heap.size, m * 7, none⟩ (.map (some wr.heap.size))) := Upd.setCell (p := ⟨w.heap.size, m * 7, none⟩) (Upd.alloc (Upd.refl (fun k => k = w.heap.size) _) _) (fun _ => rfl) _
  have hne : ∀ i, i < m → mbs i ≠ wr.heap.size := fun i hi => by have := (h1 i hi).2.1.lt; omega
  refine ⟨h.b.upd U (by omega), h.p.upd U (by omega), ?_, ?_, ⟨rc.set (m * 7 + 0) (.map (some wr.heap.size)), fset mbs m wr.heap.size, ?_, by simpa using hl, ?_, ?_, ?_⟩⟩
  · refine ⟨U.os.trans h.u.os, U.tape.trans h.u.tape, U.output.trans h.u.output, Nat.le_trans h.u.size U.size, fun k hk hs => ?_⟩
    exact (U.block k (Nat.lt_of_lt_of_le hk h.u.size) (by omega)).trans (h.u.block k hk hs)
  · exact Nat.le_trans hz U.size
  · exact (hB.alloc _).set (m * 7) _
  · intro i hi
    by_cases c : i = m
    · subst c
      have e1 : fset mbs i wr.heap.size i = wr.heap.size := by unfold fset; rw [if_pos rfl]
      rw [e1]
      refine ⟨?_, ?_, hz⟩
      · have := (h2 i (Nat.le_refl _) hm).set 0 (.map (some wr.heap.size))
        exact this
      · refine (KM.made 9 kS wr).upd (S := fun k => k = w.heap.size) (Upd.setCell (p := ⟨w.heap.size, i * 7, none⟩) (Upd.refl (fun k => k = w.heap.size) _) (fun _ => rfl) _) ?_
        omega
    · have hi' : i < m := by omega
      have e1 : fset mbs m wr.heap.size i = mbs i := by unfold fset; rw [if_neg c]
      rw [e1]
      obtain ⟨a1, a2, a3⟩ := h1 i hi'
      refine ⟨?_, a2.upd U (by omega), a3⟩
      intro j v hv
      have hj : j < 7 := by
        have := (List.getElem?_eq_some_iff.1 hv).1
        simpa [shC] using this
      rw [List.getElem?_set_ne (by omega)]
      exact a1 j v hv
  · intro i h4 h5 j v hv
    have hj : j < 7 := (List.getElem?_eq_some_iff.1 hv).1
    rw [List.getElem?_set_ne (by omega)]
    exact h2 i (by omega) h5 j v hv
  · intro i i' hi hi' hh
    unfold fset at hh
    split at hh <;> split at hh
    · omega
    · exact absurd hh.symm (hne i' (by omega))
    · exact absurd hh (hne i (by omega))
    · exact h3 i i' (by omega) (by omega) hh
set_option maxRecDepth 100000 in
set_option maxHeartbeats 2000000 in
theorem new_no (w : World) {n : Int} (hn : n < 1 ∨ 64 < n) {room : Nat} {st : Bool} :
    Calls Try.prog 7 #[.int .i64 n, .int .u64 room, .bool st] w fun e w' => e = .returned (.tuple #[.pointer none, .int .i64 1]) ∧ w' = w := by
  by_cases h1 : n < 1
  · go_enter Try.func7, Try.ntmps7
    go_wp2_with fail
    refine bodyPost_ret (v := .tuple #[.pointer none, .int .i64 1]) (by simp [results, Try.results7, go_sem]) rfl ⟨rfl, rfl⟩
  · have h2 : 64 < n := by omega
    go_enter Try.func7, Try.ntmps7
    go_wp2_with fail
    refine bodyPost_ret (v := .tuple #[.pointer none, .int .i64 1]) (by simp [results, Try.results7, go_sem]) rfl ⟨rfl, rfl⟩
theorem room_new (n room : Nat) (st : Bool) : roomC { r := 0, st := st, xs := List.replicate n x0, P := [] } room = newC n room st := by
  unfold roomC newC
  simp only [List.length_replicate, List.map_replicate]
  congr 2
theorem iv0 : Iv x0 := ⟨by simp [x0], fun j => by simp [x0], fun k j h => by simp [x0] at h, by simp [x0]⟩
set_option maxRecDepth 100000 in
set_option maxHeartbeats 2000000 in
theorem new_any (w : World) {n : Nat} (h1 : 1 ≤ n) (h2 : n ≤ 64) {room : Nat} (hr : room < 18446744073709551616) {st : Bool} :
    Calls Try.prog 7 #[.int .i64 n, .int .u64 room, .bool st] w fun e w' => ∃ L : Lo, e = .returned (.tuple #[.pointer (some ⟨L.cb, 0, none⟩), .int .i64 0]) ∧ Ca w' L (newC n room st) ∧ Upd Non w w' ∧ ∀ k, Cb L (newC n room st) k → w.heap.size ≤ k := by
  have hmk := run_mk n h2 w
  have M0 := Mk.start w n st
  have h1' : ¬ (n : Int) < 1 := by omega
  have h2' : ¬ 64 < (n : Int) := by omega
  have hm1 : ∀ w : World, (Instr.makeMap 56 none).run Try.prog w = .ok (.map (some w.heap.size)) (w.alloc (.map #[] 0)) := fun w => @run_makeMap Try.prog _ _
  have hm2 : ∀ w : World, (Instr.makeMap 59 none).run Try.prog w = .ok (.map (some w.heap.size)) (w.alloc (.map #[] 0)) := fun w => @run_makeMap Try.prog _ _
  go_enter Try.func7, Try.ntmps7
  go_wp2_with fail
  have s1 : (w.alloc (.cells (rc0 n).toArray 66)).heap.size = w.heap.size + 1 := by simp
  clear hmk hm1
  go_loopw [27] (fun i wr => ∃ m : Nat, i = .int .i64 m ∧ m ≤ n ∧ Mk w wr n m st) (fun i wr => match i with | .int _ z => n - z.toNat | _ => 0)
  case atStart => exact ⟨0, rfl, Nat.zero_le _, M0⟩
  case round =>
    obtain ⟨m, rfl, hm, M⟩ := hrel
    clear M0 s1
    by_cases hlt : m < n
    · have hlt' : (m : Int) < n := by omega
      have M' : Hid _ := M.step hlt
      have c0 := M.b.cell1 0 _ rfl
      have hz := M.z
      obtain ⟨rc, mbs, hB, hl, _, h2, _⟩ := M.r
      have cz := hB.cell1 (m * 7) _ (h2 m (Nat.le_refl _) hlt 0 _ rfl)
      have cf := hB.frozen (m * 7)
      have c0' := (M.b.alloc (.map #[] 0)).cell1 0 _ rfl
      have cz' := (hB.alloc (.map #[] 0)).cell1 (m * 7) _ (h2 m (Nat.le_refl _) hlt 0 _ rfl)
      have cf' := (hB.alloc (.map #[] 0)).frozen (m * 7)
      clear M hB h2
      go_wp2_with fail
      go_roundw
      case rel => exact ⟨m + 1, rfl, hlt, M'.out⟩
      case measure => simp only []; omega
    · have hlt' : (m : Int) = n := by omega
      have hmn : m = n := by omega
      subst hmn
      obtain ⟨L, hcb, C, hL⟩ := M.done
      have HR := room_any C (by simpa using h1) (by simpa using h2) (fun i x hx => by obtain ⟨rfl, _⟩ := rep_get hx; exact iv0) hr
      rw [room_new] at HR
      rw [hcb] at HR
      have hu := M.u
      have hu' : Hid _ := hu
      have hz := M.z
      clear M C hm2 hu
      go_wp2_with (go_at_call 20; refine HR.mono ?_; rintro e w3 ⟨rfl, C3, U3⟩)
      have U3' : Upd Non w w3 := ⟨U3.os.trans hu'.out.os, U3.tape.trans hu'.out.tape, U3.output.trans hu'.out.output, Nat.le_trans hu'.out.size U3.size, fun k hk hs => (U3.block k (Nat.lt_of_lt_of_le hk hu'.out.size) (fun hh => by have := hL k hh; omega)).trans (hu'.out.block k hk hs)⟩
      refine bodyPost_ret (v := .tuple #[.pointer (some ⟨w.heap.size + 2, 0, none⟩), .int .i64 0]) (by simp [results, Try.results7, go_sem]) rfl ⟨L, by rw [hcb], C3, U3', ?_⟩
      intro k hk
      refine hL k ?_
      rcases hk with e | e | ⟨i, x, hx, hb⟩
      · exact .inl e
      · exact .inr (.inl e)
      · exact Cb.sub hx hb
end Go.Proofs.Ytlkfabejecgfgaa
