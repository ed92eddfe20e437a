/-
  The reference's New.
-/
import Derived.Test.YtlkfabejecgfgaaRj
import Derived.Test.YtlkfabejecgfgaaFh
namespace Go.Proofs.Ytlkfabejecgfgaa
open Go.RowKit Go.Maps
set_option linter.unusedVariables false
set_option linter.unusedSimpArgs false
theorem info68 : (Try.prog.info? 68).map (fun i => (i.zero, i.size, i.bytes)) = some (some (.slice none 0 0), 1, 24) := by kernel_rfl
theorem run_mkq (n : Nat) (hn : n ≤ 64) (w : World) : (Instr.makeSlice 67 (.int .i64 (n : Int)) (.int .i64 (n : Int))).run Try.prog w = .ok (.slice (some ⟨w.heap.size, 0, none⟩) n n) (w.alloc (.cells (List.replicate n (Value.slice none 0 0)).toArray 68)) := by
  have hI := info68
  cases hi : Try.prog.info? 68 with
  | none => rw [hi] at hI; cases hI
  | some i0 =>
    rw [hi] at hI
    simp only [Option.map_some, Option.some.injEq, Prod.mk.injEq] at hI
    obtain ⟨h1, h2, h3⟩ := hI
    have := run_make (P := Try.prog) w 67 68 i0 (.slice none 0 0) Try.underlying67 hi h1 .i64 .i64 n n (by omega) (by omega) (by rw [h3]; omega) (by omega)
    rw [this, h2]
    have e1 : madeCells (Value.slice none 0 0).cells (n * 1) = (List.replicate n (Value.slice none 0 0)).toArray := by
      unfold madeCells
      apply Array.ext
      · simp
      · intro i hi1 hi2
        simp
        show (#[Value.slice none 0 0] : Array Value)[i % 1]! = _
        rw [Nat.mod_one]
        rfl
    simp only [Int.toNat_natCast]
    rw [e1]
theorem su0 : Su x0 := ⟨rfl, rfl, fun j e h => by simp [x0] at h, by simp [x0]⟩
theorem vx0 : Vx v0 x0 := ⟨rfl, rfl, rfl, fun j e h => by simp [x0] at h⟩
section
variable {w : World}
theorem rr_new {W : World} {b n : Nat} {R : Lr} {vs : List Vw} (hB : Blk W b 68 (List.replicate n (Value.slice none 0 0))) (f : Nat → List Nat) (hf : ∀ i, i < n → f i = []) : Rr W R b n (.slice none 0 0) f := by
  refine ⟨_, hB, by simp, fun i hi => ⟨.slice none 0 0, by rw [List.getElem?_replicate, if_pos hi], ?_, fun k hk => by cases hk⟩⟩
  rw [hf i hi]
  exact ⟨rfl, .inl ⟨rfl, rfl⟩⟩
theorem new_rx {W : World} {cb lb wb n room : Nat} {st : Bool} (h1 : 1 ≤ n) (hr : room < 18446744073709551616) (hc : Blk W cb 70 [.int .i64 n, .int .u64 room, .bool st, .slice (some ⟨lb, 0, none⟩) n n, .slice (some ⟨wb, 0, none⟩) n n, .slice none 0 0])
    (hl : Blk W lb 68 (List.replicate n (Value.slice none 0 0))) (hw : Blk W wb 68 (List.replicate n (Value.slice none 0 0))) (hlw : lb ≠ wb) : Rx W ⟨cb, lb, wb, fun _ _ => 0⟩ room (List.replicate n v0) (.slice none 0 0) (newC n room st) := by
  have hat : ∀ i, vat_ (List.replicate n v0) i = v0 := fun i => by
    unfold vat_
    rw [List.getD_eq_getElem?_getD, List.getElem?_replicate]
    split <;> rfl
  have hg : ∀ (i : Nat) (v : Vw), (List.replicate n v0)[i]? = some v → v = v0 := fun i v hv => by
    rw [List.getElem?_replicate] at hv
    split at hv
    · cases hv; rfl
    · cases hv
  have hgx : ∀ (i : Nat) (x : Xs), (newC n room st).xs[i]? = some x → x = x0 := fun i x hx => (rep_get hx).1
  have hln : (newC n room st).xs.length = n := by unfold newC; simp
  refine ⟨?_, by rw [hln]; rfl, hr, fun i v x hv hx => by rw [hg i v hv, hgx i x hx]; exact vx0, fun i x hx => by rw [hgx i x hx]; exact su0, by unfold newC; simp⟩
  rw [hln]
  refine ⟨hc, by simp, rr_new (vs := []) hl _ (fun i _ => by rw [hat]; rfl), rr_new (vs := []) hw _ (fun i _ => by rw [hat]; rfl), hlw, ⟨rfl, .inl ⟨rfl, rfl⟩⟩, fun i v j e hv he => ?_, fun i v j i' v' j' hv hj => ?_, fun i v hv => ?_⟩
  · rw [hg i v hv] at he; simp [v0] at he
  · rw [hg i v hv] at hj; simp [v0] at hj
  · rw [hg i v hv]; simp [v0]
theorem new_blks (w : World) (n : Nat) (C : List Value) {W : World} (hW : W = (((w.alloc (.cells (Array.replicate n (Value.slice none 0 0)) 68)).alloc (.cells (Array.replicate n (Value.slice none 0 0)) 68)).alloc (.cells C.toArray 70)).drew) :
    Blk W w.heap.size 68 (List.replicate n (Value.slice none 0 0)) ∧ Blk W (w.heap.size + 1) 68 (List.replicate n (Value.slice none 0 0)) ∧ Blk W (w.heap.size + 1 + 1) 70 C ∧ Upd Non w W := by
  have e : Array.replicate n (Value.slice none 0 0) = (List.replicate n (Value.slice none 0 0)).toArray := by simp
  rw [e] at hW
  have B0 := Blk.new w 68 (List.replicate n (Value.slice none 0 0))
  have B1 := Blk.new (w.alloc (.cells (List.replicate n (Value.slice none 0 0)).toArray 68)) 68 (List.replicate n (Value.slice none 0 0))
  have B2 := Blk.new ((w.alloc (.cells (List.replicate n (Value.slice none 0 0)).toArray 68)).alloc (.cells (List.replicate n (Value.slice none 0 0)).toArray 68)) 70 C
  have s1 : (w.alloc (.cells (List.replicate n (Value.slice none 0 0)).toArray 68)).heap.size = w.heap.size + 1 := by simp
  have s2 : ((w.alloc (.cells (List.replicate n (Value.slice none 0 0)).toArray 68)).alloc (.cells (List.replicate n (Value.slice none 0 0)).toArray 68)).heap.size = w.heap.size + 1 + 1 := by simp
  rw [s1] at B1
  rw [s2] at B2
  subst hW
  exact ⟨((B0.alloc _).alloc _).drew, (B1.alloc _).drew, B2.drew, ((((Upd.refl Non w).alloc _).alloc _).alloc _).drew⟩
set_option maxRecDepth 100000 in
set_option maxHeartbeats 2000000 in
theorem rnew_any (w : World) {n : Nat} (h1 : 1 ≤ n) (h2 : n ≤ 64) {room : Nat} (hr : room < 18446744073709551616) {st : Bool} :
    Calls Try.prog 8 #[.int .i64 n, .int .u64 room, .bool st] w fun e w' => ∃ (R : Lr) (vs : List Vw) (pv : Value), e = .returned (.tuple #[.pointer (some ⟨R.cb, 0, none⟩), .int .i64 0]) ∧ Rx w' R room vs pv (newC n room st) ∧ Upd Non w w' ∧ ∀ k, Rb R vs pv k → w.heap.size ≤ k := by
  have hmk := fun W => run_mkq n h2 W
  have h1' : ¬ (n : Int) < 1 := by omega
  have h2' : ¬ 64 < (n : Int) := by omega
  have FIN : Hid (∀ (W : World) (cb lb wb : Nat), Upd Non w W → Blk W cb 70 [.int .i64 n, .int .u64 room, .bool st, .slice (some ⟨lb, 0, none⟩) n n, .slice (some ⟨wb, 0, none⟩) n n, .slice none 0 0] → Blk W lb 68 (List.replicate n (Value.slice none 0 0)) → Blk W wb 68 (List.replicate n (Value.slice none 0 0)) → lb ≠ wb → w.heap.size ≤ cb → w.heap.size ≤ lb → w.heap.size ≤ wb → ∃ (R : Lr) (vs : List Vw) (pv : Value), R.cb = cb ∧ Rx W R room vs pv (newC n room st) ∧ Upd Non w W ∧ ∀ k, Rb R vs pv k → w.heap.size ≤ k) := fun W cb lb wb U hc hl hw hlw a1 a2 a3 =>
    ⟨_, _, _, rfl, new_rx h1 hr hc hl hw hlw, U, fun k hk => by
      rcases hk with e | e | e | e | ⟨i, v, j, hv, hj, e⟩
      · rw [e]; exact a1
      · rw [e]; exact a2
      · rw [e]; exact a3
      · cases e
      · rw [List.getElem?_replicate] at hv
        split at hv
        · cases hv; simp [v0] at hj
        · cases hv⟩
  go_enter Try.func8, Try.ntmps8
  go_wp2_with fail
  go_region
  all_goals go_wp2_with fail
  · obtain ⟨b1, b2, b3, U⟩ := new_blks w n [.int .i64 n, .int .u64 room, .bool st, .slice (some ⟨w.heap.size, 0, none⟩) n n, .slice (some ⟨w.heap.size + 1, 0, none⟩) n n, .slice none 0 0] rfl
    obtain ⟨R, vs, pv, e1, X, U', hb⟩ := FIN.out _ _ _ _ U b3 b1 b2 (by omega) (by omega) (by omega) (by omega)
    refine bodyPost_ret (v := .tuple #[.pointer (some ⟨w.heap.size + 1 + 1, 0, none⟩), .int .i64 0]) (by simp [results, Try.results8, go_sem]) rfl ⟨R, vs, pv, by rw [e1], X, U', hb⟩
  · obtain ⟨b1, b2, b3, U⟩ := new_blks w n [.int .i64 n, .int .u64 room, .bool st, .slice (some ⟨w.heap.size + 1, 0, none⟩) n n, .slice (some ⟨w.heap.size, 0, none⟩) n n, .slice none 0 0] rfl
    obtain ⟨R, vs, pv, e1, X, U', hb⟩ := FIN.out _ _ _ _ U b3 b2 b1 (by omega) (by omega) (by omega) (by omega)
    refine bodyPost_ret (v := .tuple #[.pointer (some ⟨w.heap.size + 1 + 1, 0, none⟩), .int .i64 0]) (by simp [results, Try.results8, go_sem]) rfl ⟨R, vs, pv, by rw [e1], X, U', hb⟩
end
end Go.Proofs.Ytlkfabejecgfgaa
