/-
  count; tombstones.
-/
import Derived.Test.YtagnnocecfoggaaLv
import Derived.Laws.MakeOwn
namespace Go.Proofs.Ytagnnocecfoggaa
open Go.RowKit
set_option linter.unusedVariables false
set_option linter.unusedSimpArgs false
/-- How many numbers in all. -/
def cntQ : List Fg → Nat
  | [] => 0
  | f :: L => f.q.length + cntQ L
theorem cntQ_app (a b : List Fg) : cntQ (a ++ b) = cntQ a + cntQ b := by
  induction a with
  | nil => simp [cntQ]
  | cons f a ih => simp only [List.cons_append, cntQ, ih]; omega
theorem cntQ_take {L : List Fg} {k : Nat} {f : Fg} (h : L[k]? = some f) : cntQ (L.take (k + 1)) = cntQ (L.take k) + f.q.length := by
  rw [List.take_add_one, h, cntQ_app]; simp [cntQ]
theorem cntQ_le {L : List Fg} {B : Nat} (h : ∀ f ∈ L, f.q.length ≤ B) : cntQ L ≤ L.length * B := by
  induction L with
  | nil => simp [cntQ]
  | cons f L ih =>
    have h1 := h f (by simp)
    have h2 := ih (fun g hg => h g (by simp [hg]))
    simp only [cntQ, List.length_cons, Nat.add_mul]
    omega
theorem cntQ_mono {L : List Fg} (k : Nat) : cntQ (L.take k) ≤ cntQ L := by
  have := cntQ_app (L.take k) (L.drop k)
  rw [List.take_append_drop] at this
  omega
set_option maxRecDepth 100000 in
set_option maxHeartbeats 1000000 in
theorem count_any {w : World} {a : Option Addr} {c : Nat} {L : List Fg} (h : RdF w a L) (hl : L.length ≤ 10000) (hq : ∀ f ∈ L, f.q.length ≤ 140737488355328) :
    Calls Try.prog 57 #[.slice a L.length c] w fun e w' => e = .returned (.int .i64 (cntQ L)) ∧ Below w.heap.size w w' := by
  have H : Hid (RdF w a L) := h
  have HQ : Hid (∀ f ∈ L, f.q.length ≤ 140737488355328) := hq
  have HS : Hid (cntQ L ≤ 10000 * 140737488355328) := Nat.le_trans (cntQ_le hq) (Nat.mul_le_mul_right _ hl)
  obtain ⟨N, hN⟩ : ∃ N, Hid (L.length = N) := ⟨_, rfl⟩
  rw [hN.out] at hl ⊢
  clear h hq
  go_enter Try.func57, Try.ntmps57
  go_wp2_with fail
  go_loopw [3, 8] (fun s3 s8 wr => ∃ (k C : Nat), k ≤ N ∧ s8 = .int .i64 k ∧ s3 = .int .i64 C ∧ Hid (C = cntQ (L.take k) ∧ Below w.heap.size w wr)) (fun _ s8 _ => ((N : Int) - intOf s8).toNat)
  case atStart => exact ⟨0, 0, Nat.zero_le _, rfl, rfl, rfl, Below.refl _ _⟩
  case round =>
    obtain ⟨k, C, hk, rfl, rfl, HB⟩ := hrel
    rcases Nat.lt_or_ge k N with hkN | hkN
    · have hkz : (k : Int) < N := by omega
      obtain ⟨f, hf⟩ : ∃ f, L[k]? = some f := ⟨_, List.getElem?_eq_getElem (by rw [hN.out]; exact hkN)⟩
      obtain ⟨g, o, pa, pk, rfl, t0, t1, t2, _⟩ := (H.out.below HB.out.2).at_ hf
      have HC : Hid (cntQ (L.take (k + 1)) = cntQ (L.take k) + f.q.length) := cntQ_take hf
      have hsum : C + f.q.length ≤ 10000 * 140737488355328 := by
        have h1 := HB.out.1
        have h2 := HC.out
        have h3 := cntQ_mono (L := L) (k + 1)
        have h4 := HS.out
        omega
      have HB2 : Hid (Below w.heap.size w (wr.alloc (.cells #[.string f.b, .string f.e, .slice pa f.q.length pk] 63))) := HB.out.2.alloc HB.out.2.size _
      obtain ⟨QN, hQN⟩ : ∃ QN, Hid (f.q.length = QN) := ⟨_, rfl⟩
      rw [hQN.out] at t2 hsum HC HB2
      clear hf
      go_wp2_with fail
      go_roundw
      case rel => exact ⟨k + 1, C + QN, by omega, by go_num, by go_num, by rw [HC.out, ← HB.out.1], HB2.out⟩
      case measure => simp [intOf]; omega
    · obtain rfl : k = N := by omega
      have hz : ¬ ((k : Int) < k) := by omega
      have HE : Hid (C = cntQ L) := by
        have := HB.out.1
        rw [List.take_of_length_le (by rw [hN.out]; omega)] at this
        exact this
      go_wp2_with fail
      go_ret
      exact ⟨by rw [← HE.out]; rfl, HB.out.2⟩
/-- The tombstones of fragments. -/
def jnT (L : List Fg) : List Tm := L.flatMap (fun f => f.q.map (fun s => (⟨f.b, f.e, s⟩ : Tm)))
theorem jnT_len (L : List Fg) : (jnT L).length = cntQ L := by
  induction L with
  | nil => rfl
  | cons f L ih =>
    have e : jnT (f :: L) = f.q.map (fun s => (⟨f.b, f.e, s⟩ : Tm)) ++ jnT L := rfl
    rw [e, List.length_append, ih]; simp [cntQ]
theorem jnT_take {L : List Fg} {k : Nat} {f : Fg} (h : L[k]? = some f) : jnT (L.take (k + 1)) = jnT (L.take k) ++ f.q.map (fun s => (⟨f.b, f.e, s⟩ : Tm)) := by
  rw [List.take_add_one, h]; simp [jnT]
set_option maxRecDepth 100000 in
set_option maxHeartbeats 1000000 in
theorem tombstones_any {w : World} {a : Option Addr} {c : Nat} {L : List Fg} (h : RdF w a L) (hl : L.length ≤ 10000) (hc : cntQ L ≤ 10000000) :
    Calls Try.prog 38 #[.slice a L.length c] w fun e w' => ∃ v, e = .returned v ∧ RowT w' w.heap.size v (jnT L) ∧ Below w.heap.size w w' := by
  have H : Hid (RdF w a L) := h
  have hq : ∀ f ∈ L, f.q.length ≤ 140737488355328 := fun f hf => by
    obtain ⟨i, hi, e⟩ := List.getElem_of_mem hf
    have h1 := cntQ_take (L := L) (k := i) (f := f) (by rw [List.getElem?_eq_getElem hi, e])
    have h2 := cntQ_mono (L := L) (i + 1)
    omega
  have HCt := count_any (c := c) h hl hq
  have HC : Hid (cntQ L ≤ 10000000) := hc
  have HQ : Hid (∀ (k : Nat) (f : Fg), L[k]? = some f → cntQ (L.take k) + f.q.length ≤ 10000000) := fun k f hf => by
    have h1 := cntQ_take hf
    have h2 := cntQ_mono (L := L) (k + 1)
    omega
  obtain ⟨CN, hCN⟩ : ∃ CN, Hid (cntQ L = CN) := ⟨_, rfl⟩
  rw [hCN.out] at HCt hc
  obtain ⟨i0, hi, hz0, hz1, hz2⟩ := info_parts info56
  have HMk : Hid (∀ W, Below w.heap.size w W → ∃ w', (Instr.makeSlice 22 (.int .i64 0) (.int .i64 (CN : Int))).run Try.prog W = .ok (.slice (some ⟨W.heap.size, 0, none⟩) 0 CN) w' ∧ RowT w' w.heap.size (.slice (some ⟨W.heap.size, 0, none⟩) 0 CN) [] ∧ Below w.heap.size w w') := fun W hb => by
    obtain ⟨w', hm, ho, hg⟩ := run_make_own (P := Try.prog) W w.heap.size 22 56 i0 _ 3 Try.underlying22 hi hz0 hz1 .i64 .i64 CN (by rw [hz2]; omega) (by unfold maxLen; omega) hb.size
    exact ⟨w', hm, ho, hb.grown hg hb.size (fun j hj => by cases hj)⟩
  obtain ⟨N, hN⟩ : ∃ N, Hid (L.length = N) := ⟨_, rfl⟩
  rw [hN.out] at hl HCt ⊢
  clear h hq hi hz0 hz1 hz2
  go_enter Try.func38, Try.ntmps38
  go_wp2_with (go_at_call 57; refine HCt.mono ?_; rintro e w1 ⟨rfl, hb1⟩; obtain ⟨w2, hm2, ho2, hb2⟩ := HMk.out w1 hb1; have HS2 : Hid (RowT w2 w.heap.size (.slice (some ⟨w1.heap.size, 0, none⟩) 0 CN) [] ∧ Below w.heap.size w w2) := ⟨ho2, hb2⟩; clear hb1 ho2 hb2)
  clear hm2 HMk HCt
  go_loopw [3, 13] (fun s3 s13 wr => ∃ (k : Nat) (va : Option Addr) (vn vc : Nat), k ≤ N ∧ s13 = .int .i64 k ∧ s3 = .slice va vn vc ∧ Hid (RowT wr w.heap.size (.slice va vn vc) (jnT (L.take k)) ∧ Below w.heap.size w wr)) (fun _ s13 _ => ((N : Int) - intOf s13).toNat)
  case atStart => exact ⟨0, _, _, _, Nat.zero_le _, rfl, rfl, HS2.out⟩
  case round =>
    clear HS2
    obtain ⟨k, va, vn, vc, hk, rfl, rfl, HB⟩ := hrel
    rcases Nat.lt_or_ge k N with hkN | hkN
    · have hkz : (k : Int) < N := by omega
      obtain ⟨f, hf⟩ : ∃ f, L[k]? = some f := ⟨_, List.getElem?_eq_getElem (by rw [hN.out]; exact hkN)⟩
      obtain ⟨g, o, pa, pk, rfl, t0w, t1w, t2w, t3⟩ := H.out.at_ hf
      have t0 := cell_below HB.out.2 t0w
      have t1 := cell_below HB.out.2 t1w
      have t2 := cell_below HB.out.2 t2w
      have HT3 : Hid (Rd uc 1 w pa f.q) := t3
      have hql := HQ.out k f hf
      have hbx : Below wr.heap.size wr (wr.alloc (.cells #[.string f.b, .string f.e, .slice pa f.q.length pk] 63)) := (Below.refl _ _).alloc (Nat.le_refl _) _
      have HJ : Hid (jnT (L.take (k + 1)) = jnT (L.take k) ++ f.q.map (fun s => (⟨f.b, f.e, s⟩ : Tm)) ∧ (jnT (L.take k)).length = cntQ (L.take k)) := ⟨jnT_take hf, jnT_len _⟩
      have HB2 : Hid (RowT (wr.alloc (.cells #[.string f.b, .string f.e, .slice pa f.q.length pk] 63)) w.heap.size (.slice va vn vc) (jnT (L.take k)) ∧ Below w.heap.size w (wr.alloc (.cells #[.string f.b, .string f.e, .slice pa f.q.length pk] 63)) ∧ Blk (wr.alloc (.cells #[.string f.b, .string f.e, .slice pa f.q.length pk] 63)) wr.heap.size 63 [.string f.b, .string f.e, .slice pa f.q.length pk]) := ⟨rowt_below HB.out.1 hbx, HB.out.2.trans (hbx.mono HB.out.2.size), Blk.new wr 63 _⟩
      obtain ⟨QN, hQN⟩ : ∃ QN, Hid (f.q.length = QN) := ⟨_, rfl⟩
      rw [hQN.out] at t2 hql HB2
      clear hf hbx t3 t0w t1w t2w
      obtain ⟨W0, rfl⟩ : ∃ W0, W0 = wr := ⟨_, rfl⟩
      go_wp2_with fail
      obtain ⟨xb, hxb⟩ : ∃ xb, Hid (W0.heap.size = xb) := ⟨_, rfl⟩
      rw [hxb.out] at HB2 ⊢
      generalize hW1 : W0.alloc (.cells #[.string f.b, .string f.e, .slice pa QN pk] 63) = W1 at *
      clear hW1
      go_loopw [3, 20] (fun s3 s20 wr => ∃ (m : Nat) (va : Option Addr) (vn vc : Nat), m ≤ QN ∧ s20 = .int .i64 m ∧ s3 = .slice va vn vc ∧ Hid (RowT wr w.heap.size (.slice va vn vc) (jnT (L.take k) ++ (f.q.take m).map (fun s => (⟨f.b, f.e, s⟩ : Tm))) ∧ Below w.heap.size w wr ∧ Blk wr xb 63 [.string f.b, .string f.e, .slice pa QN pk])) (fun _ s20 _ => ((QN : Int) - intOf s20).toNat)
      case atStart => exact ⟨0, _, _, _, Nat.zero_le _, rfl, rfl, (by have h := HB2.out; refine ⟨?_, h.2⟩; simpa using h.1)⟩
      case round =>
        clear HB2
        obtain ⟨m, va, vn, vc, hm, rfl, rfl, HM⟩ := hrel
        rcases Nat.lt_or_ge m QN with hmN | hmN
        · have hmz : (m : Int) < QN := by omega
          obtain ⟨x, hx⟩ : ∃ x, f.q[m]? = some x := ⟨_, List.getElem?_eq_getElem (by rw [hQN.out]; exact hmN)⟩
          obtain ⟨pg, po, rfl, hat⟩ := (HT3.out.below HM.out.2.1).at_ hx
          have x0 := hat.u1
          rw [Nat.mul_one] at x0
          have b0 := HM.out.2.2.cell1 0 _ rfl
          have b1 := HM.out.2.2.cell1 1 _ rfl
          have hll : (jnT (L.take k) ++ (f.q.take m).map (fun s => (⟨f.b, f.e, s⟩ : Tm))).length ≤ 10000000 := by
            have h1 := HJ.out.2
            rw [List.length_append, h1, List.length_map, List.length_take]; omega
          have hbx : Below wr.heap.size wr (wr.alloc (.cells #[.string f.b, .string f.e, .int .u64 x] 56)) := (Below.refl _ _).alloc (Nat.le_refl _) _
          obtain ⟨v9, w9, hr9, g1, g2, g3, _⟩ := push_tm (base := w.heap.size) (x := ⟨f.b, f.e, x⟩) (rowt_below HM.out.1 hbx) (by have := HM.out.2.1.size; simp; omega) (Blk.new wr 56 (Tm.c ⟨f.b, f.e, x⟩)) 22 hll
          have HP : Hid (RowT w9 w.heap.size v9 (jnT (L.take k) ++ (f.q.take (m + 1)).map (fun s => (⟨f.b, f.e, s⟩ : Tm))) ∧ Below w.heap.size w w9 ∧ Blk w9 xb 63 [.string f.b, .string f.e, .slice (some ⟨pg, po, none⟩) QN pk]) := by
            have U : Upd (fun k => (Value.slice va vn vc).ownBlock = some k) wr w9 := (Upd.ofBelow hbx).then g2 (fun _ _ h => h)
            refine ⟨?_, HM.out.2.1.trans (U.below (fun k hk => Nat.lt_of_lt_of_le hk HM.out.2.1.size) (fun j hj => (row_blk HM.out.1 j hj).1)), HM.out.2.2.upd U (fun e => row_ne HM.out.1 HM.out.2.2 (by decide) _ e rfl)⟩
            · have e : (f.q.take (m + 1)).map (fun s => (⟨f.b, f.e, s⟩ : Tm)) = (f.q.take m).map (fun s => (⟨f.b, f.e, s⟩ : Tm)) ++ [⟨f.b, f.e, x⟩] := by rw [List.take_add_one, hx]; simp
              rw [e, ← List.append_assoc]; exact g1
          obtain ⟨v9a, v9c, hv9⟩ := row_slice g1
          generalize hMN : (jnT (L.take k) ++ (f.q.take m).map (fun s => (⟨f.b, f.e, s⟩ : Tm)) ++ [(⟨f.b, f.e, x⟩ : Tm)]).length = MN at hv9
          subst hv9
          clear hx hat hll hbx g1 g2 g3 hMN
          go_wp2_with (at_builtin; refine Lib.wpList_append_run _ rfl _ _ _ _ rfl _ _ rfl rfl _ _ hr9 ?_)
          go_roundw
          case rel => exact ⟨m + 1, v9a, MN, v9c, by omega, by go_num, rfl, HP.out⟩
          case measure => simp [intOf]; omega
        · obtain rfl : m = QN := by omega
          have hz : ¬ ((m : Int) < m) := by omega
          go_wp2_with fail
          go_roundw
          case rel =>
            refine ⟨k + 1, va, vn, vc, by omega, by go_num, rfl, ?_, HM.out.2.1⟩
            rw [HJ.out.1]
            have := HM.out.1
            rw [show f.q.take m = f.q from List.take_of_length_le (by rw [hQN.out]; omega)] at this
            exact this
          case measure => simp [intOf]; omega
    · obtain rfl : k = N := by omega
      have hz : ¬ ((k : Int) < k) := by omega
      have HE := HB.out
      rw [List.take_of_length_le (by rw [hN.out]; omega)] at HE
      have HE' : Hid (RowT wr w.heap.size (.slice va vn vc) (jnT L) ∧ Below w.heap.size w wr) := HE
      clear HE
      go_wp2_with fail
      go_ret
      exact ⟨_, rfl, HE'.out⟩
end Go.Proofs.Ytagnnocecfoggaa
