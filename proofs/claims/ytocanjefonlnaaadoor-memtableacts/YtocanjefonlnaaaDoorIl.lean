/-
  The reference's Add: a tombstone.
-/
import Derived.Test.YtocanjefonlnaaaDoorIh
import Derived.Test.YtocanjefonlnaaaDoorIj
import Derived.Deep.CutBlock
namespace Go.Proofs.YtocanjefonlnaaaDoor
open Go.RowKit
set_option linter.unusedVariables false
set_option linter.unusedSimpArgs false
theorem eq_tombE (W : World) (a b : Tm) : (binOp .eql 81 a.v b.v).run Tryd.prog W = .ok (.bool (decide (a.b = b.b ∧ a.e = b.e ∧ a.s = b.s))) W := by
  have hf : Tryd.prog.underlying 81 = some (.struct (Tryd.prog.fieldsOf 81)) := by kernel_rfl
  obtain ⟨ab, ae, as_⟩ := a
  obtain ⟨bb, be, bs⟩ := b
  have h1 : ∀ w, (part 9 #[.string ab, .string ae, .int .u64 as_] 0).run Tryd.prog w = .ok (.string ab) w := fun w => by kernel_rfl
  have h2 : ∀ w, (part 9 #[.string ab, .string ae, .int .u64 as_] 1).run Tryd.prog w = .ok (.string ae) w := fun w => by kernel_rfl
  have h3 : ∀ w, (part 33 #[.string ab, .string ae, .int .u64 as_] 2).run Tryd.prog w = .ok (.int .u64 as_) w := fun w => by kernel_rfl
  have h1' : ∀ w, (part 9 #[.string bb, .string be, .int .u64 bs] 0).run Tryd.prog w = .ok (.string bb) w := fun w => by kernel_rfl
  have h2' : ∀ w, (part 9 #[.string bb, .string be, .int .u64 bs] 1).run Tryd.prog w = .ok (.string be) w := fun w => by kernel_rfl
  have h3' : ∀ w, (part 33 #[.string bb, .string be, .int .u64 bs] 2).run Tryd.prog w = .ok (.int .u64 bs) w := fun w => by kernel_rfl
  show (binOp .eql 81 (.agg #[.string ab, .string ae, .int .u64 as_]) (.agg #[.string bb, .string be, .int .u64 bs])).run Tryd.prog W = _
  rw [run_eql_struct, run_equalIn_agg W 9999 81 _ _ hf (by kernel_rfl)]
  have e9 : ∀ w a b, (Op.equalIn 9999 9 (.string a) (.string b)).run Tryd.prog w = .ok (a.toList == b.toList) w := fun w a b => run_equalIn_string w 9998 9 a b Tryd.underlying9
  have e33 : ∀ w a b, (Op.equalIn 9999 33 (.int .u64 a) (.int .u64 b)).run Tryd.prog w = .ok (a == b) w := fun w a b => run_equalIn_int w 9998 33 .u64 .u64 a b Tryd.underlying33
  simp only [Program.fieldsOf, Tryd.underlying81, Op.eqFields, Sem.run_bind, Sem.run_ite, Sem.run_pure, h1, h2, h3, h1', h2', h3', e9, e33, Result.andThen_ok, bytes_beq]
  by_cases a : ab = bb <;> by_cases b : ae = be <;> by_cases c : as_ = bs <;> simp [a, b, c, Result.andThen]
set_option maxRecDepth 100000 in
set_option maxHeartbeats 8000000 in
theorem radd_tomb {w : World} {D : Nat} {how : Int} {Bad : Nat → Prop} {st : Ms} (h : Rq w D how st.E st.R st.sz Bad) (hBad : ∀ k, Bad k → k < w.heap.size) (hI : Inv how st) (seq f : Int) (key val : ByteArray) (hv : val.size ≤ 9223372036854775807) (hq : seq ≤ 72057594037927935) (hc : chk 2 key val = 0) (hn : st.n < 8192) :
    Calls Tryd.prog 23 #[ptr D, .int .u64 seq, recV f 2 key val] w (RAdd w D how Bad (addM how st seq 2 key val)) := by
  have HC := fun W => rcheck_any f 2 key val W hv
  rw [hc] at HC
  have HPl := fun W => rplain_any f 2 key val W
  obtain ⟨la, lc, ta, tc, hR, hlc, htc, hl0, ht0, hBl, hBt⟩ := h.ex
  unfold Ms.n at hn
  obtain ⟨N, hN⟩ : ∃ N, st.E.length = N := ⟨_, rfl⟩
  obtain ⟨M, hM⟩ : ∃ M, st.R.length = M := ⟨_, rfl⟩
  have HB : Hid (∀ W, Below w.heap.size w W → W.cell? ⟨D, 0, none⟩ = some (.int .i64 how) ∧ W.cell? ⟨D, 1, none⟩ = some (.slice la N lc) ∧ W.cell? ⟨D, 2, none⟩ = some (.slice ta M tc) ∧ W.cell? ⟨D, 3, none⟩ = some (.int .i64 st.sz)) := fun W hW => by
    have hb := (hR.below hW).blk
    rw [hN, hM] at hb
    exact ⟨hb.cell1 0 _ rfl, hb.cell1 1 _ rfl, hb.cell1 2 _ rfl, hb.cell1 3 _ rfl⟩
  rw [hN, hM] at hn
  have hz : ¬ (8192 : Int) ≤ (N : Int) + M := by omega
  have H0 : Hid _ := h
  have HR : Hid _ := hR
  clear h hR
  obtain ⟨val', hval⟩ : ∃ v, Hid (plainV 2 val = v) := ⟨_, rfl⟩
  rw [hval.out] at HPl
  have bx : Below w.heap.size w (w.alloc (.cells #[.int .u32 f, .int .i64 2, .string key, .string val] 36)) := (Below.refl _ _).alloc (Nat.le_refl _) _
  have X0 : Blk (w.alloc (.cells #[.int .u32 f, .int .i64 2, .string key, .string val] 36)) w.heap.size 36 [.int .u32 f, .int .i64 2, .string key, .string val] := Blk.new w 36 _
  go_enter Tryd.func23, Tryd.ntmps23
  go_wp2_with (go_at_call 39; refine (HC _).mono ?_; rintro e w1 ⟨rfl, hb1⟩; have hb2 : Below w.heap.size w w1 := bx.trans (hb1.mono (by simp)); obtain ⟨c0, c1, c2, c3⟩ := HB.out _ hb2; have X1 := X0.upd (S := Non) (Upd.ofBelow hb1) (fun h => h))
  first | go_quiet (fail) | go_big_quiet (fail)
  have hb3 : Below w.heap.size w (w1.drewN nq) := hb2.trans ⟨rfl, rfl, rfl, Nat.le_refl _, fun _ _ => rfl⟩
  have X2 : Blk (w1.drewN nq) w.heap.size 36 [.int .u32 f, .int .i64 2, .string key, .string val] := X1
  clear c0 c1 c2 c3 hb1 X1 X0 bx
  generalize w1.drewN nq = w2 at *
  have x0 := X2.cell1 0 _ rfl
  have x1 := X2.cell1 1 _ rfl
  have x2 := X2.cell1 2 _ rfl
  have x3 := X2.cell1 3 _ rfl
  obtain ⟨bx, hbx⟩ : ∃ bx, w.heap.size = bx := ⟨_, rfl⟩
  rw [hbx] at X2 x0 x1 x2 x3
  rw [hbx]
  go_upto_region 9 with (go_at_call 40; refine (HPl _).mono ?_; rintro e w3 ⟨rfl, hb4⟩; have X3 := X2.upd (S := Non) (Upd.ofBelow hb4) (fun h => h); have y0 := X3.cell1 0 _ rfl; have y1 := X3.cell1 1 _ rfl; have y2 := X3.cell1 2 _ rfl; have y3 := X3.cell1 3 _ rfl; have z0 := X3.frozen 0; have z1 := X3.frozen 1; have z2 := X3.frozen 2; have z3 := X3.frozen 3)
  have hb5 : Below w.heap.size w w3 := hb3.trans (hb4.mono hb3.size)
  have X4 : Blk ((((w3.setCell ⟨bx, 0, none⟩ (.int .u32 f)).setCell ⟨bx, 1, none⟩ (.int .i64 2)).setCell ⟨bx, 2, none⟩ (.string key)).setCell ⟨bx, 3, none⟩ (.string val')) bx 36 [.int .u32 f, .int .i64 2, .string key, .string val'] := (((X3.set 0 _).set 1 _).set 2 _).set 3 _
  have hb6 : Below w.heap.size w ((((w3.setCell ⟨bx, 0, none⟩ (.int .u32 f)).setCell ⟨bx, 1, none⟩ (.int .i64 2)).setCell ⟨bx, 2, none⟩ (.string key)).setCell ⟨bx, 3, none⟩ (.string val')) := (((hb5.setCell (by simp; omega) _).setCell (by simp; omega) _).setCell (by simp; omega) _).setCell (by simp; omega) _
  generalize (((w3.setCell ⟨bx, 0, none⟩ (.int .u32 f)).setCell ⟨bx, 1, none⟩ (.int .i64 2)).setCell ⟨bx, 2, none⟩ (.string key)).setCell ⟨bx, 3, none⟩ (.string val') = w4 at *
  clear hb4 hb3 hb2 hb5 X3 y0 y1 y2 y3 z0 z1 z2 z3 X2 x0 x1 x2 x3 HPl HC
  have x0 := X4.cell1 0 _ rfl
  have x1 := X4.cell1 1 _ rfl
  have x2 := X4.cell1 2 _ rfl
  have x3 := X4.cell1 3 _ rfl
  go_upto_block 0 with fail
  have hb7 : Below w.heap.size w (w4.alloc (.cells #[.string key, .string val', .int .u64 seq] 81)) := hb6.alloc hb6.size _
  have Y5 : Blk (w4.alloc (.cells #[.string key, .string val', .int .u64 seq] 81)) w4.heap.size 81 [.string key, .string val', .int .u64 seq] := Blk.new w4 81 _
  have X5 := X4.alloc (.cells #[.string key, .string val', .int .u64 seq] 81)
  have hbz : w4.heap.size ≠ bx := by have := X4.lt; omega
  obtain ⟨bz, hz5⟩ : ∃ bz, w4.heap.size = bz := ⟨_, rfl⟩
  rw [hz5] at Y5 hbz
  rw [hz5]
  clear x0 x1 x2 x3 hb6 X4
  generalize w4.alloc (.cells #[.string key, .string val', .int .u64 seq] 81) = w5 at *
  obtain ⟨p, hp⟩ : ∃ p, posT how st.R ⟨key, val', seq⟩ = p := ⟨_, rfl⟩
  have hpM : p ≤ M := by rw [← hp, ← hM]; exact tw_le _ _
  have hlo : Hid (∀ j t, j < p → st.R[j]? = some t → tord how t ⟨key, val', seq⟩ < 0) := fun j t hj ht => by
    have := tw_lo (fun t => decide (tord how t ⟨key, val', seq⟩ < 0)) st.R j t (by rw [← hp] at hj; exact hj) ht
    simpa using this
  have hst : Hid (∀ t, st.R[p]? = some t → ¬ tord how t ⟨key, val', seq⟩ < 0) := fun t ht => by
    have := tw_stop (fun t => decide (tord how t ⟨key, val', seq⟩ < 0)) st.R t (by rw [← hp] at ht; exact ht)
    simpa using this
  have HK : Hid (∀ W, Below w5.heap.size w5 W → Blk W bz 81 [.string key, .string val', .int .u64 seq] ∧ Blk W bx 36 [.int .u32 f, .int .i64 2, .string key, .string val'] ∧ Below w.heap.size w W) := fun W hW => ⟨Y5.upd (S := Non) (Upd.ofBelow hW) (fun h => h), X5.upd (S := Non) (Upd.ofBelow hW) (fun h => h), hb7.trans (hW.mono hb7.size)⟩
  clear Y5 X5 hb7
  go_cut [9] (fun v wc => v = .int .i64 p ∧ Hid (Below w5.heap.size w5 wc))
  case first =>
    go_wp2_with fail
    go_loopw [9] (fun v wr => ∃ j : Nat, v = .int .i64 j ∧ j ≤ p ∧ Hid (Below w5.heap.size w5 wr)) (fun v wr => p - (intOf v).toNat)
    case atStart => exact ⟨0, rfl, Nat.zero_le _, Below.refl _ _⟩
    case round =>
      obtain ⟨j, rfl, hj, hB⟩ := hrel
      obtain ⟨Y, X, hbw⟩ := HK.out _ hB.out
      obtain ⟨c0, c1, c2, c3⟩ := HB.out _ hbw
      have y0 := Y.cell1 0 _ rfl
      have y1 := Y.cell1 1 _ rfl
      have y2 := Y.cell1 2 _ rfl
      by_cases hlt : j < M
      · have hlt' : (j : Int) < (M : Int) := by omega
        have hld : decide ((j : Int) < (M : Int)) = true := decide_eq_true hlt'
        obtain ⟨t, ht⟩ : ∃ t, st.R[j]? = some t := ⟨_, List.getElem?_eq_getElem (by omega)⟩
        obtain ⟨g, hta, hat⟩ : ∃ g, ta = some ⟨g, 0, none⟩ ∧ TAt wr g (j * 3) t := by
          rcases (HR.out.below hbw).rdt with ⟨_, h⟩ | ⟨g, cp, e, h⟩
          · rw [h] at ht; simp at ht
          · injection e with e1 e2 e3
            exact ⟨g, e1, h j t ht⟩
        subst hta
        obtain ⟨t0, t1, t2⟩ := hat
        have HL : Calls Tryd.prog 41 #[.int .i64 how, .agg #[.string t.b, .string t.e, .int .u64 t.s], .agg #[.string key, .string val', .int .u64 seq]] wr.drew fun e w' => e = .returned (.int .i64 (tord how t ⟨key, val', seq⟩)) ∧ Below wr.drew.heap.size wr.drew w' := rleast_any how t ⟨key, val', seq⟩ wr.drew
        obtain ⟨o, ho⟩ : ∃ o, tord how t ⟨key, val', seq⟩ = o := ⟨_, rfl⟩
        rw [ho] at HL
        by_cases hjp : j < p
        · have hneg : o < 0 := by rw [← ho]; exact hlo.out j t hjp ht
          clear ht ho Y X
          go_upto_region 11 with fail
          go_region_held_law (fun w' => w'.cell? ⟨D, 0, none⟩ = some (.int .i64 how) ∧ w'.cell? ⟨D, 2, none⟩ = some (.slice (some ⟨g, 0, none⟩) M tc) ∧ w'.cell? ⟨g, j * 3, none⟩ = some (.string t.b) ∧ w'.cell? ⟨g, j * 3 + 1, none⟩ = some (.string t.e) ∧ w'.cell? ⟨g, j * 3 + 2, none⟩ = some (.int .u64 t.s) ∧ w'.cell? ⟨bz, 0, none⟩ = some (.string key) ∧ w'.cell? ⟨bz, 1, none⟩ = some (.string val') ∧ w'.cell? ⟨bz, 2, none⟩ = some (.int .u64 seq))
            (first
              | (go_keep; done)
              | exact ⟨keepc hb9 c0, keepc hb9 c2, keepc hb9 t0, keepc hb9 t1, keepc hb9 t2, keepc hb9 y0, keepc hb9 y1, keepc hb9 y2⟩)
            ((go_at_call 41; refine HL.mono ?_; rintro e w6 ⟨rfl, hb9'⟩; have hb9 : Below wr.heap.size wr w6 := ((Below.refl _ wr).drew).trans hb9'))
          have hB2 : Hid (Below w5.heap.size w5 w6) := hB.out.trans (hb9.mono hB.out.size)
          go_wp2_with fail
          go_roundw
          case rel => exact ⟨j + 1, by go_num, hjp, hB2.out⟩
          case measure => first | (simp [intOf]; done) | (simp [intOf]; omega)
        · obtain rfl : j = p := by omega
          have hneg : ¬ o < 0 := by have := hst.out t ht; rw [← ho]; omega
          clear ht ho Y X
          go_upto_region 11 with fail
          go_region_held_law (fun w' => w'.cell? ⟨D, 0, none⟩ = some (.int .i64 how) ∧ w'.cell? ⟨D, 2, none⟩ = some (.slice (some ⟨g, 0, none⟩) M tc) ∧ w'.cell? ⟨g, j * 3, none⟩ = some (.string t.b) ∧ w'.cell? ⟨g, j * 3 + 1, none⟩ = some (.string t.e) ∧ w'.cell? ⟨g, j * 3 + 2, none⟩ = some (.int .u64 t.s) ∧ w'.cell? ⟨bz, 0, none⟩ = some (.string key) ∧ w'.cell? ⟨bz, 1, none⟩ = some (.string val') ∧ w'.cell? ⟨bz, 2, none⟩ = some (.int .u64 seq))
            (first
              | (go_keep; done)
              | exact ⟨keepc hb9 c0, keepc hb9 c2, keepc hb9 t0, keepc hb9 t1, keepc hb9 t2, keepc hb9 y0, keepc hb9 y1, keepc hb9 y2⟩)
            ((go_at_call 41; refine HL.mono ?_; rintro e w6 ⟨rfl, hb9'⟩; have hb9 : Below wr.heap.size wr w6 := ((Below.refl _ wr).drew).trans hb9'))
          have hB2 : Hid (Below w5.heap.size w5 w6) := hB.out.trans (hb9.mono hB.out.size)
          go_wp2_with fail
          go_meet
          case rel => exact ⟨rfl, hB2.out⟩
      · obtain rfl : j = M := by omega
        obtain rfl : p = j := by omega
        have hlt' : ¬ (p : Int) < (p : Int) := by omega
        have hld : decide ((p : Int) < (p : Int)) = false := decide_eq_false hlt'
        clear Y X
        go_upto_region 11 with fail
        first | go_quiet (fail) | go_big_quiet (fail)
        go_wp2_with fail
        go_meet
        case rel => exact ⟨rfl, hB.out.trans ⟨rfl, rfl, rfl, Nat.le_refl _, fun _ _ => rfl⟩⟩
  case rest =>
    obtain ⟨rfl, hB6⟩ := hcut
    obtain ⟨Y6, X6, hbA⟩ := HK.out _ hB6.out
    clear hlo hst HK
    generalize wc = w6 at *
    obtain ⟨c0, c1, c2, c3⟩ := HB.out _ hbA
    have y0 := Y6.cell1 0 _ rfl
    have y1 := Y6.cell1 1 _ rfl
    have y2 := Y6.cell1 2 _ rfl
    have hadd : Hid (addM how st seq 2 key val = if tis how st.R ⟨key, val', seq⟩ p = true then (7, st) else (0, st.rk st.E (tins st.R p ⟨key, val', seq⟩) seq key val')) := by
      show _ = _
      have hvv : val' = val := by rw [← hval.out]; rfl
      unfold addM
      rw [if_neg (by omega), if_neg (by rw [hc]; simp), if_neg (by unfold Ms.n; omega), if_pos rfl, ← hvv, hp]
    go_upto_region 13 with fail
    obtain ⟨ib, hib⟩ : ∃ ib, tis how st.R ⟨key, val', seq⟩ p = ib := ⟨_, rfl⟩
    rw [hib] at hadd
    go_cut [86] (fun t wc => t = .bool ib ∧ Hid (∃ m, wc = w6.drewN m))
    case first =>
      by_cases hlt : p < M
      · have hlt' : (p : Int) < (M : Int) := by omega
        have hld : decide ((p : Int) < (M : Int)) = true := decide_eq_true hlt'
        obtain ⟨t, ht⟩ : ∃ t, st.R[p]? = some t := ⟨_, List.getElem?_eq_getElem (by omega)⟩
        obtain ⟨g, hta, hat⟩ : ∃ g, ta = some ⟨g, 0, none⟩ ∧ TAt w6 g (p * 3) t := by
          rcases (HR.out.below hbA).rdt with ⟨_, h⟩ | ⟨g, cp, e, h⟩
          · rw [h] at ht; simp at ht
          · injection e with e1 e2 e3
            exact ⟨g, e1, h p t ht⟩
        obtain ⟨e0, e1, e2⟩ := hat
        have hib2 : decide (t.b = key ∧ t.e = val' ∧ t.s = seq) = ib := by
          rw [← hib]; unfold tis; rw [ht]
          simp only []
          have := tord_zero how t ⟨key, val', seq⟩
          obtain ⟨tb, te, ts⟩ := t
          simp only [Tm.mk.injEq] at this ⊢
          exact decide_eq_decide.2 this.symm
        have heq : ∀ W : World, (binOp .eql 81 (.agg #[.string t.b, .string t.e, .int .u64 t.s]) (.agg #[.string key, .string val', .int .u64 seq])).run Tryd.prog W = .ok (.bool (decide (t.b = key ∧ t.e = val' ∧ t.s = seq))) W := fun W => eq_tombE W t ⟨key, val', seq⟩
        rw [hib2] at heq
        subst hta
        clear hib2 hib ht
        first | go_quiet (fail) | go_big_quiet (fail)
        go_wp2_with fail
        go_meet
        case rel => exact ⟨rfl, nq, rfl⟩
      · have hlt' : ¬ (p : Int) < (M : Int) := by omega
        have hld : decide ((p : Int) < (M : Int)) = false := decide_eq_false hlt'
        obtain rfl : ib = false := by rw [← hib]; unfold tis; rw [List.getElem?_eq_none (by omega)]
        clear hib
        first | go_quiet (fail) | go_big_quiet (fail)
        go_wp2_with fail
        go_meet
        case rel => exact ⟨rfl, nq, rfl⟩
    case rest =>
      obtain ⟨rfl, hh⟩ := hcut
      obtain ⟨m7, rfl⟩ := hh.out
      have hb7 : Below w.heap.size w (w6.drewN m7) := hbA.trans ⟨rfl, rfl, rfl, Nat.le_refl _, fun _ _ => rfl⟩
      have Y7 : Blk (w6.drewN m7) bz 81 [.string key, .string val', .int .u64 seq] := Y6
      have X7 : Blk (w6.drewN m7) bx 36 [.int .u32 f, .int .i64 2, .string key, .string val'] := X6
      clear c0 c1 c2 c3 y0 y1 y2 hbA Y6 X6 hh
      generalize w6.drewN m7 = w7 at *
      cases ib with
      | true =>
        have hadd' : Hid (addM how st seq 2 key val = (7, st)) := by show _ = _; rw [hadd.out, if_pos rfl]
        go_wp2_with fail
        go_ret
        rw [hadd'.out]
        exact RAdd.same H0.out hb7 7
      | false =>
        have hadd' : Hid (addM how st seq 2 key val = (0, st.rk st.E (tins st.R p ⟨key, val', seq⟩) seq key val')) := by show _ = _; rw [hadd.out, if_neg (by simp)]
        clear hadd
        go_upto_region 15 with fail
        have hlp : (st.R.take p).length = p := by rw [List.length_take]; omega
        have KB : Hid (∀ W, Upd Non w7 W → W.cell? ⟨D, 2, none⟩ = some (.slice ta M tc) ∧ W.cell? ⟨bz, 0, none⟩ = some (.string key) ∧ W.cell? ⟨bz, 1, none⟩ = some (.string val') ∧ W.cell? ⟨bz, 2, none⟩ = some (.int .u64 seq)) := fun W hU => by
          have hb := hU.below (n := w7.heap.size) (fun k hk => hk) (fun k hk => hk.elim)
          have Y := Y7.upd hU (fun h => h)
          exact ⟨(HB.out _ (hb7.trans (hb.mono hb7.size))).2.2.1, Y.cell1 0 _ rfl, Y.cell1 1 _ rfl, Y.cell1 2 _ rfl⟩
        have APP : Hid (∀ (W : World) (v : Value) (l : List Tm), RowT W w7.heap.size v l → w7.heap.size ≤ W.heap.size → Upd Non w7 W → l.length ≤ 10 → ∀ ty, ∃ v' w', (Builtin.append_ #[60, 60] ty #[v, .slice ta p tc]).run Tryd.prog W = .ok v' w' ∧ RowT w' w7.heap.size v' (l ++ st.R.take p) ∧ Upd (fun k => v.ownBlock = some k) W w') := fun W v l hv hW hU hl ty => by
          have hb := hU.below (n := w7.heap.size) (fun k hk => hk) (fun k hk => hk.elim)
          have hr := rd_take (rdt_rg (HR.out.below (hb7.trans (hb.mono hb7.size))).rdt) p
          have := appT hv hW (a := ta) (c := tc) hr (fun e => by obtain ⟨e1, e2⟩ := ht0 e; exact ⟨by rw [e1]; simp, e2⟩) (by rw [hlp]; omega) ty
          rw [hlp] at this
          exact this
        have hcutH := cutH_run elem60 slc60 size81 ta M tc p (by omega)
        have HU0 : Upd Non w7 w7.drew := Upd.drew (Upd.refl Non w7)
        go_cut [10] (fun v wc => ∃ ya yc, v = .slice ya (p + 1) yc ∧ Hid (RowT wc w7.heap.size (.slice ya (p + 1) yc) (st.R.take p ++ [⟨key, val', seq⟩]) ∧ Upd Non w7 wc))
        case first =>
          refine wp_region_held_drew (S := fun W => W.cell? ⟨D, 2, none⟩ = some (.slice ta M tc) ∧ W.cell? ⟨bz, 0, none⟩ = some (.string key) ∧ W.cell? ⟨bz, 1, none⟩ = some (.string val') ∧ W.cell? ⟨bz, 2, none⟩ = some (.int .u64 seq)) (by kernel_rfl) ?_ (fun hHeld => ?_)
          · (try dsimp only); exact KB.out _ HU0
          generalize w7.drew = wd at *
          refine wpAnyH_take (i := 1) (v := ?_) (by simp only [List.getElem?_toArray, List.getElem?_cons_zero, List.getElem?_cons_succ]; rfl) (by kernel_rfl) (by kernel_rfl) (by kernel_rfl) (by intro _ _ _ h; exact h) (Or.inl ⟨by rfl, ?_⟩) (by assumption) ?_
          rotate_left
          · intro w hSw; (try dsimp only at hSw); go_simp; (try with_reducible rfl)
          (try simp only [Act.put, List.setIfInBounds_toArray, List.set_cons_zero, List.set_cons_succ])
          refine wpAnyH_take (i := 2) (v := ?_) (by simp only [List.getElem?_toArray, List.getElem?_cons_zero, List.getElem?_cons_succ]; rfl) (by kernel_rfl) (by kernel_rfl) (by kernel_rfl) (by intro _ _ _ h; exact h) (Or.inl ⟨by rfl, ?_⟩) (by assumption) ?_
          rotate_left
          · intro w hSw; (try dsimp only at hSw); go_simp; (try with_reducible rfl)
          (try simp only [Act.put, List.setIfInBounds_toArray, List.set_cons_zero, List.set_cons_succ])
          refine wpAnyH_take (i := 3) (v := ?_) (by simp only [List.getElem?_toArray, List.getElem?_cons_zero, List.getElem?_cons_succ]; rfl) (by kernel_rfl) (by kernel_rfl) (by kernel_rfl) (by intro _ _ _ h; exact h) (Or.inl ⟨by rfl, ?_⟩) (by assumption) ?_
          rotate_left
          · intro w hSw; (try dsimp only at hSw); go_simp; (try with_reducible rfl)
          (try simp only [Act.put, List.setIfInBounds_toArray, List.set_cons_zero, List.set_cons_succ])
          refine wpAnyH_take (i := 4) (v := ?_) (by simp only [List.getElem?_toArray, List.getElem?_cons_zero, List.getElem?_cons_succ]; rfl) (by kernel_rfl) (by kernel_rfl) (by kernel_rfl) (by intro _ _ _ h; exact h) (Or.inl ⟨by rfl, ?_⟩) (by assumption) ?_
          rotate_left
          · intro w hSw; (try dsimp only at hSw); go_simp; (try with_reducible rfl)
          (try simp only [Act.put, List.setIfInBounds_toArray, List.set_cons_zero, List.set_cons_succ])
          refine wpAnyH_take (i := 5) (v := ?_) (by simp only [List.getElem?_toArray, List.getElem?_cons_zero, List.getElem?_cons_succ]; rfl) (by kernel_rfl) (by kernel_rfl) (by kernel_rfl) (by intro _ _ _ h; exact h) (Or.inl ⟨by rfl, ?_⟩) (by assumption) ?_
          rotate_left
          · intro w hSw; (try dsimp only at hSw); go_simp; (try with_reducible rfl)
          (try simp only [Act.put, List.setIfInBounds_toArray, List.set_cons_zero, List.set_cons_succ])
          refine wpAnyH_take (i := 6) (v := ?_) (by simp only [List.getElem?_toArray, List.getElem?_cons_zero, List.getElem?_cons_succ]; rfl) (by kernel_rfl) (by kernel_rfl) (by kernel_rfl) (by intro _ _ _ h; exact h) (Or.inl ⟨by rfl, ?_⟩) (by assumption) ?_
          rotate_left
          · intro w hSw; (try dsimp only at hSw); go_simp; (try with_reducible rfl)
          (try simp only [Act.put, List.setIfInBounds_toArray, List.set_cons_zero, List.set_cons_succ])
          refine wpAnyH_take (i := 8) (v := ?_) (by simp only [List.getElem?_toArray, List.getElem?_cons_zero, List.getElem?_cons_succ]; rfl) (by kernel_rfl) (by kernel_rfl) (by kernel_rfl) (by intro _ _ _ h; exact h) (Or.inl ⟨by rfl, ?_⟩) (by assumption) ?_
          rotate_left
          · intro w hSw; (try dsimp only at hSw); go_simp; (try with_reducible rfl)
          (try simp only [Act.put, List.setIfInBounds_toArray, List.set_cons_zero, List.set_cons_succ])
          refine wpAnyH_ready (rs := [0, 9]) (by kernel_rfl) (by simp) ?_
          refine AllReadyH.cons rfl (fun K hK => ?_) ?_
          · have hE : RowT (wd.alloc (.cells #[] 81)) w7.heap.size (.slice (some ⟨wd.heap.size, 0, none⟩) 0 0) [] := by
              have := rowT0 wd (b := w7.heap.size) HU0.size
              simpa using this
            go_simp
            refine hK.out _ _ (KB.out _ (HU0.alloc (.cells #[] 81))) (fun hHeld => ?_)
            clear hK K
            (try simp only [Act.put, List.setIfInBounds_toArray, List.set_cons_zero, List.set_cons_succ])
            refine wpAnyH_ready (rs := [7, 9]) (by kernel_rfl) (by simp) ?_
            refine AllReadyH.cons rfl (fun K hK => ?_) ?_
            · refine step_app (by rfl) (by rfl) _ _ (by rfl) (by rfl) (by rfl) (APP.out _ _ _ hE (HU0.alloc (.cells #[] 81)).size (HU0.alloc (.cells #[] 81)) (by simp) _) ?_
              rintro vA wA ⟨hA, hUA⟩
              have HUA : Upd Non w7 wA := Upd.then (HU0.alloc (.cells #[] 81)) hUA (fun a ha hs => absurd (row_blk hE a hs).1 (by omega))
              refine hK.out _ _ (KB.out _ HUA) (fun hHeld => ?_)
              clear hUA hE
              clear hK K
              (try simp only [Act.put, List.setIfInBounds_toArray, List.set_cons_zero, List.set_cons_succ])
              refine wpAnyH_ready (rs := [9]) (by kernel_rfl) (by simp) ?_
              refine AllReadyH.cons rfl (fun K hK => ?_) ?_
              · have hB : Rg.Rd Tm.c 3 (wA.alloc (.cells #[.string key, .string val', .int .u64 seq] 81)) (some ⟨wA.heap.size, 0, none⟩) [⟨key, val', seq⟩] := by
                  have := srcT wA ⟨key, val', seq⟩
                  simpa using this
                have hA := row_upd hA ((Upd.refl Non _).alloc (.cells #[.string key, .string val', .int .u64 seq] 81)) (fun _ _ e => e)
                go_simp
                refine hK.out _ _ (KB.out _ (HUA.alloc (.cells #[.string key, .string val', .int .u64 seq] 81))) (fun hHeld => ?_)
                clear hK K
                (try simp only [Act.put, List.setIfInBounds_toArray, List.set_cons_zero, List.set_cons_succ])
                refine wpAnyH_ready (rs := [10]) (by kernel_rfl) (by simp) ?_
                refine AllReadyH.cons rfl (fun K hK => ?_) ?_
                · refine step_app (by rfl) (by rfl) _ _ (by rfl) (by rfl) (by rfl) (appT hA (HUA.alloc (.cells #[.string key, .string val', .int .u64 seq] 81)).size (a := some ⟨wA.heap.size, 0, none⟩) (c := 1) hB (fun e => by cases e) (by simp; omega) _) ?_
                  rintro vN wN ⟨hN7, hUN⟩
                  have HUN : Upd Non w7 wN := Upd.then (HUA.alloc (.cells #[.string key, .string val', .int .u64 seq] 81)) hUN (fun a ha hs => absurd (row_blk hA a hs).1 (by omega))
                  refine hK.out _ _ (KB.out _ HUN) (fun hHeld => ?_)
                  clear hUN hA hB
                  clear hK K
                  (try simp only [Act.put, List.setIfInBounds_toArray, List.set_cons_zero, List.set_cons_succ])
                  refine wpAnyH_take (i := 11) (v := ?_) (by simp only [List.getElem?_toArray, List.getElem?_cons_zero, List.getElem?_cons_succ]; rfl) (by kernel_rfl) (by kernel_rfl) (by kernel_rfl) (by intro _ _ _ h; exact h) (Or.inl ⟨by rfl, ?_⟩) (by assumption) ?_
                  rotate_left
                  · intro w hSw; (try dsimp only at hSw); go_simp; (try with_reducible rfl)
                  (try simp only [Act.put, List.setIfInBounds_toArray, List.set_cons_zero, List.set_cons_succ])
                  refine wpAnyH_done (by kernel_rfl) ?_ _
                  go_wp2_with fail
                  obtain ⟨ya, yc, hy9⟩ := row_slice hN7
                  have hyl : (([] ++ st.R.take p) ++ [(⟨key, val', seq⟩ : Tm)]).length = p + 1 := by simp; omega
                  rw [hyl] at hy9
                  subst hy9
                  go_meet
                  case rel => exact ⟨ya, yc, rfl, by simpa using hN7, HUN⟩
                exact AllReadyH.nil
              exact AllReadyH.nil
            refine AllReadyH.cons rfl (fun K hK => ?_) ?_
            · have hB : Rg.Rd Tm.c 3 ((wd.alloc (.cells #[] 81)).alloc (.cells #[.string key, .string val', .int .u64 seq] 81)) (some ⟨wd.heap.size + 1, 0, none⟩) [⟨key, val', seq⟩] := by
                have := srcT (wd.alloc (.cells #[] 81)) ⟨key, val', seq⟩
                simpa using this
              have hE := row_upd hE ((Upd.refl Non _).alloc (.cells #[.string key, .string val', .int .u64 seq] 81)) (fun _ _ e => e)
              go_simp
              refine hK.out _ _ (KB.out _ ((HU0.alloc (.cells #[] 81)).alloc (.cells #[.string key, .string val', .int .u64 seq] 81))) (fun hHeld => ?_)
              clear hK K
              (try simp only [Act.put, List.setIfInBounds_toArray, List.set_cons_zero, List.set_cons_succ])
              refine wpAnyH_ready (rs := [7]) (by kernel_rfl) (by simp) ?_
              refine AllReadyH.cons rfl (fun K hK => ?_) ?_
              · refine step_app (by rfl) (by rfl) _ _ (by rfl) (by rfl) (by rfl) (APP.out _ _ _ hE ((HU0.alloc (.cells #[] 81)).alloc (.cells #[.string key, .string val', .int .u64 seq] 81)).size ((HU0.alloc (.cells #[] 81)).alloc (.cells #[.string key, .string val', .int .u64 seq] 81)) (by simp) _) ?_
                rintro vA wA ⟨hA, hUA⟩
                have HUA : Upd Non w7 wA := Upd.then ((HU0.alloc (.cells #[] 81)).alloc (.cells #[.string key, .string val', .int .u64 seq] 81)) hUA (fun a ha hs => absurd (row_blk hE a hs).1 (by omega))
                have hB := hB.upd hUA (fun g o e ha => absurd (Option.some.inj (show (some (wd.heap.size) : Option Nat) = some g from ha)) (by cases e; omega))
                refine hK.out _ _ (KB.out _ HUA) (fun hHeld => ?_)
                clear hUA hE
                clear hK K
                (try simp only [Act.put, List.setIfInBounds_toArray, List.set_cons_zero, List.set_cons_succ])
                refine wpAnyH_ready (rs := [10]) (by kernel_rfl) (by simp) ?_
                refine AllReadyH.cons rfl (fun K hK => ?_) ?_
                · refine step_app (by rfl) (by rfl) _ _ (by rfl) (by rfl) (by rfl) (appT hA HUA.size (a := some ⟨wd.heap.size + 1, 0, none⟩) (c := 1) hB (fun e => by cases e) (by simp; omega) _) ?_
                  rintro vN wN ⟨hN7, hUN⟩
                  have HUN : Upd Non w7 wN := Upd.then HUA hUN (fun a ha hs => absurd (row_blk hA a hs).1 (by omega))
                  refine hK.out _ _ (KB.out _ HUN) (fun hHeld => ?_)
                  clear hUN hA hB
                  clear hK K
                  (try simp only [Act.put, List.setIfInBounds_toArray, List.set_cons_zero, List.set_cons_succ])
                  refine wpAnyH_take (i := 11) (v := ?_) (by simp only [List.getElem?_toArray, List.getElem?_cons_zero, List.getElem?_cons_succ]; rfl) (by kernel_rfl) (by kernel_rfl) (by kernel_rfl) (by intro _ _ _ h; exact h) (Or.inl ⟨by rfl, ?_⟩) (by assumption) ?_
                  rotate_left
                  · intro w hSw; (try dsimp only at hSw); go_simp; (try with_reducible rfl)
                  (try simp only [Act.put, List.setIfInBounds_toArray, List.set_cons_zero, List.set_cons_succ])
                  refine wpAnyH_done (by kernel_rfl) ?_ _
                  go_wp2_with fail
                  obtain ⟨ya, yc, hy9⟩ := row_slice hN7
                  have hyl : (([] ++ st.R.take p) ++ [(⟨key, val', seq⟩ : Tm)]).length = p + 1 := by simp; omega
                  rw [hyl] at hy9
                  subst hy9
                  go_meet
                  case rel => exact ⟨ya, yc, rfl, by simpa using hN7, HUN⟩
                exact AllReadyH.nil
              exact AllReadyH.nil
            exact AllReadyH.nil
          refine AllReadyH.cons rfl (fun K hK => ?_) ?_
          · have hB : Rg.Rd Tm.c 3 (wd.alloc (.cells #[.string key, .string val', .int .u64 seq] 81)) (some ⟨wd.heap.size, 0, none⟩) [⟨key, val', seq⟩] := by
              have := srcT wd ⟨key, val', seq⟩
              simpa using this
            go_simp
            refine hK.out _ _ (KB.out _ (HU0.alloc (.cells #[.string key, .string val', .int .u64 seq] 81))) (fun hHeld => ?_)
            clear hK K
            (try simp only [Act.put, List.setIfInBounds_toArray, List.set_cons_zero, List.set_cons_succ])
            refine wpAnyH_ready (rs := [0]) (by kernel_rfl) (by simp) ?_
            refine AllReadyH.cons rfl (fun K hK => ?_) ?_
            · have hE : RowT ((wd.alloc (.cells #[.string key, .string val', .int .u64 seq] 81)).alloc (.cells #[] 81)) w7.heap.size (.slice (some ⟨wd.heap.size + 1, 0, none⟩) 0 0) [] := by
                have := rowT0 (wd.alloc (.cells #[.string key, .string val', .int .u64 seq] 81)) (b := w7.heap.size) (HU0.alloc (.cells #[.string key, .string val', .int .u64 seq] 81)).size
                simpa using this
              have hB := hB.upd ((Upd.refl Non _).alloc (.cells #[] 81)) (fun _ _ _ e => e)
              go_simp
              refine hK.out _ _ (KB.out _ ((HU0.alloc (.cells #[.string key, .string val', .int .u64 seq] 81)).alloc (.cells #[] 81))) (fun hHeld => ?_)
              clear hK K
              (try simp only [Act.put, List.setIfInBounds_toArray, List.set_cons_zero, List.set_cons_succ])
              refine wpAnyH_ready (rs := [7]) (by kernel_rfl) (by simp) ?_
              refine AllReadyH.cons rfl (fun K hK => ?_) ?_
              · refine step_app (by rfl) (by rfl) _ _ (by rfl) (by rfl) (by rfl) (APP.out _ _ _ hE ((HU0.alloc (.cells #[.string key, .string val', .int .u64 seq] 81)).alloc (.cells #[] 81)).size ((HU0.alloc (.cells #[.string key, .string val', .int .u64 seq] 81)).alloc (.cells #[] 81)) (by simp) _) ?_
                rintro vA wA ⟨hA, hUA⟩
                have HUA : Upd Non w7 wA := Upd.then ((HU0.alloc (.cells #[.string key, .string val', .int .u64 seq] 81)).alloc (.cells #[] 81)) hUA (fun a ha hs => absurd (row_blk hE a hs).1 (by omega))
                have hB := hB.upd hUA (fun g o e ha => absurd (Option.some.inj (show (some (wd.heap.size + 1) : Option Nat) = some g from ha)) (by cases e; omega))
                refine hK.out _ _ (KB.out _ HUA) (fun hHeld => ?_)
                clear hUA hE
                clear hK K
                (try simp only [Act.put, List.setIfInBounds_toArray, List.set_cons_zero, List.set_cons_succ])
                refine wpAnyH_ready (rs := [10]) (by kernel_rfl) (by simp) ?_
                refine AllReadyH.cons rfl (fun K hK => ?_) ?_
                · refine step_app (by rfl) (by rfl) _ _ (by rfl) (by rfl) (by rfl) (appT hA HUA.size (a := some ⟨wd.heap.size, 0, none⟩) (c := 1) hB (fun e => by cases e) (by simp; omega) _) ?_
                  rintro vN wN ⟨hN7, hUN⟩
                  have HUN : Upd Non w7 wN := Upd.then HUA hUN (fun a ha hs => absurd (row_blk hA a hs).1 (by omega))
                  refine hK.out _ _ (KB.out _ HUN) (fun hHeld => ?_)
                  clear hUN hA hB
                  clear hK K
                  (try simp only [Act.put, List.setIfInBounds_toArray, List.set_cons_zero, List.set_cons_succ])
                  refine wpAnyH_take (i := 11) (v := ?_) (by simp only [List.getElem?_toArray, List.getElem?_cons_zero, List.getElem?_cons_succ]; rfl) (by kernel_rfl) (by kernel_rfl) (by kernel_rfl) (by intro _ _ _ h; exact h) (Or.inl ⟨by rfl, ?_⟩) (by assumption) ?_
                  rotate_left
                  · intro w hSw; (try dsimp only at hSw); go_simp; (try with_reducible rfl)
                  (try simp only [Act.put, List.setIfInBounds_toArray, List.set_cons_zero, List.set_cons_succ])
                  refine wpAnyH_done (by kernel_rfl) ?_ _
                  go_wp2_with fail
                  obtain ⟨ya, yc, hy9⟩ := row_slice hN7
                  have hyl : (([] ++ st.R.take p) ++ [(⟨key, val', seq⟩ : Tm)]).length = p + 1 := by simp; omega
                  rw [hyl] at hy9
                  subst hy9
                  go_meet
                  case rel => exact ⟨ya, yc, rfl, by simpa using hN7, HUN⟩
                exact AllReadyH.nil
              exact AllReadyH.nil
            exact AllReadyH.nil
          exact AllReadyH.nil
        case rest =>
          obtain ⟨ya, yc, rfl, hh⟩ := hcut
          obtain ⟨hN8, HU8⟩ := hh.out
          have hb8' : Below w7.heap.size w7 wc := HU8.below (fun k hk => hk) (fun k hk => hk.elim)
          have hb8 : Below w.heap.size w wc := hb7.trans (hb8'.mono hb7.size)
          obtain ⟨c0, c1, c2, c3⟩ := HB.out _ hb8
          have hcutL := cutK_run elem60 slc60 size81 ta M tc p (by omega)
          have hld : (st.R.drop p).length = M - p := by rw [List.length_drop]; omega
          obtain ⟨vF, wF, hrun, hF, hUF⟩ := appT hN8 hb8'.size (a := cutK 3 ta tc p) (c := tc - p) (rd_cut (rdt_rg (HR.out.below hb8).rdt) htc) (fun e => by obtain ⟨e1, e2⟩ := ht0 (cutK_none e); exact ⟨by rw [e1]; simp, by rw [e2]; simp⟩) (by rw [hld]; simp; omega) 60
          rw [hld] at hrun
          have hel : (st.R.take p ++ [(⟨key, val', seq⟩ : Tm)]) ++ st.R.drop p = tins st.R p ⟨key, val', seq⟩ := by unfold tins; simp
          rw [hel] at hF
          obtain ⟨fa, fc, hvF, hfc, hfr, hf0⟩ := rowT_rdt hF
          have hell : (tins st.R p ⟨key, val', seq⟩).length = M + 1 := by rw [tins_len _ _ _ (by omega), hM]
          rw [hell] at hvF hfr
          subst hvF
          have hDw : D < w.heap.size := HR.out.blk.lt
          have hnX : ¬ Value.ownBlock (.slice ya (p + 1) yc) = some bx := fun e => by
            have := (row_blk hN8 bx e).1
            have := X7.lt
            omega
          have hbF : Below w.heap.size w wF := hb8.trans (hUF.below (n := w.heap.size) (fun i hi => Nat.lt_of_lt_of_le hi hb8.size) (fun i hi => by have := (row_blk hN8 i hi).1; have := hb7.size; omega))
          have BF := (HR.out.below hbF).blk
          rw [hN, hM] at BF
          have hRe := (HR.out.below hbF).rde
          have XF := (X7.upd HU8 (fun h => h)).upd hUF hnX
          have hXD : bx ≠ D := by omega
          obtain ⟨hok1, hok2, hok3⟩ := chk_ok hc
          rw [hval.out] at hok3
          have hs0 := hI.s0
          have hs1 := hI.s1
          have hsn : (st.n : Int) ≤ 8192 := by unfold Ms.n; omega
          have BG := BF.set 2 (.slice fa ((M + 1 : Nat) : Nat) fc)
          have XG := XF.other (a := ⟨D, 2, none⟩) hXD (.slice fa (M + 1) fc)
          have FIN : Hid (∀ m8, RAdd w D how Bad (addM how st seq 2 key val) (.returned (.int .i64 0)) (((wF.setCell ⟨D, 2, none⟩ (.slice fa (M + 1) fc)).setCell ⟨D, 3, none⟩ (.int .i64 (st.sz + (key.size + val'.size + 16)))).drewN m8)) := fun m8 => by
            rw [hadd'.out]
            refine ⟨rfl, ⟨la, lc, fa, fc, ⟨?_, ?_, ?_⟩, hlc, ?_, hl0, ?_, hBl, ?_⟩, ?_⟩
            · show Blk _ D 74 _
              have := (BG.set 3 (.int .i64 (st.sz + (key.size + val'.size + 16))))
              unfold Ms.rk
              simp only []
              rw [hell, hN]
              exact this
            · have h1 := rde_setD BF hRe 2 (.slice fa (M + 1) fc)
              exact rde_setD BG h1 3 _
            · have h1 := rdt_setD BF hfr 2 (.slice fa (M + 1) fc)
              have h2 := rdt_setD BG h1 3 (.int .i64 (st.sz + (key.size + val'.size + 16)))
              unfold Ms.rk
              simp only []
              rw [hell]
              exact h2
            · exact hfc
            · exact hf0
            · intro g o e _ hb
              have h1 := hBad g hb
              have h2 := (row_blk hF g (by rw [e]; rfl)).1
              have h3 := hb7.size
              omega
            · have U1 : Upd (fun b => b = D) w wF := Upd.ofBelow hbF
              exact ((U1.setCell (fun _ => rfl) _).setCell (fun _ => rfl) _).trans ⟨rfl, rfl, rfl, Nat.le_refl _, fun _ _ _ => rfl⟩
          have k1 := BF.cell1 2 _ rfl
          have z1 := BF.frozen 2
          go_upto_region 23 with (at_builtin; refine Lib.wpList_append_run _ rfl _ _ _ _ rfl _ _ rfl rfl _ _ hrun ?_)
          have g3 := BG.cell1 3 _ rfl
          have gz := BG.frozen 3
          have x2 := XG.cell1 2 _ rfl
          have x3 := XG.cell1 3 _ rfl
          clear k1 z1 hrun hcutL hcutH c0 c1 c2 c3 APP KB HU0 HB HR H0 hh hN8 hF hUF hfr hRe BF XF hadd'
          have hsum : st.sz + key.size + val'.size + 16 = st.sz + (key.size + val'.size + 16) := by omega
          generalize wF.setCell ⟨D, 2, none⟩ (.slice fa (M + 1) fc) = wG at *
          go_region
          go_wp2_with fail
          go_ret
          exact FIN.out 1
end Go.Proofs.YtocanjefonlnaaaDoor
