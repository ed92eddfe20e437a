/-
  look, at bytes that were written.
-/
import Derived.Test.YtbnllobofndckaaCf
import Derived.Deep.DeepCutAuto
import Derived.Deep.RegionLaw
import Derived.BigQuiet
namespace Go.Proofs.Ytbnllobofndckaa
open Go.RowKit
set_option linter.unusedVariables false
set_option linter.unusedSimpArgs false
theorem rown_rd {w : World} {base : Nat} {v : Value} {l : List Nat} (h : RowN w base v l) : ∃ a c, v = .slice a l.length c ∧ l.length ≤ c ∧ RdN w a l := by
  obtain ⟨a, c, e, h1, h2, _⟩ := G.row_rd u4_k h
  exact ⟨a, c, e, h1, h2⟩
theorem rown_rd2 {w : World} {base : Nat} {a : Option Addr} {n c : Nat} {l : List Nat} (h : RowN w base (.slice a n c) l) : RdN w a l := by
  obtain ⟨a', c', e, _, h2⟩ := rown_rd h
  injection e with e1 _ _
  rw [e1]; exact h2
theorem step_call70 {ops : Array Oper} {o : Oper} {a : Act} {w : World} {K : Act → World → Prop} {Q : Exit → Act → World → Prop} {Ex : Prop} (hgd : o.guard = none) {d : Nat} (hd : o.dst = some d) (x : Operand) (ts : Array TypeId)
    (ho : o.op = .call { callee := .value (.func 70), args := #[x], argTypes := ts }) (u : Value) (hx : a.eval x = u) {R : Ending → World → Prop} (hc : Calls Try.prog 70 #[u] w R)
    (h : ∀ e w', R e w' → ∃ r, e = .returned r ∧ K (a.put (some d) r) w') :
    if Region.wanted o (yielded ops a.tmps) = true then Oper.wp Try.prog o a w K Q else Ex := by
  have hw : Region.wanted o (yielded ops a.tmps) = true := by simp [Region.wanted, hgd]
  rw [if_pos hw]
  have he := enters_of (P := Try.prog) Try.func70 (by kernel_rfl) rfl #[u]
  unfold Oper.wp execOp
  simp only [ho, resolve, invoke, Sem.run_bind, Sem.run_pure, Result.andThen_ok, List.map_toArray, List.map_cons, List.map_nil, hx, go_sem]
  show Oper.upon Try.prog o a K Q (Sem.run Try.prog (callFunc 70 (#[] ++ #[a.eval x] ++ #[])) w)
  rw [show (#[] ++ #[a.eval x] ++ #[] : Array Value) = #[u] by simp [hx], he, Oper.upon_enter]
  refine hc.mono ?_
  intro e w' hR
  obtain ⟨r, rfl, hk⟩ := h e w' hR
  show K (a.put o.dst r) w'
  rw [hd]
  exact hk
set_option maxRecDepth 100000 in
set_option maxHeartbeats 1000000 in
theorem look_any {w : World} {how : Int} {a : Option Addr} {LEN cap : Nat} {r : Nat} {l : List Ent} {LB PN : Nat} (hA : Arg w a LEN cap (wr8 r l)) (hcap : LEN ≤ cap) (hh : isHw how = true) (hf : Fit l) (hs : ∀ k p e, l[k]? = some p → l[k + 1]? = some e → ordE how p e < 0) (hr : 1 ≤ r) (hl : l.length ≤ 65536) (hL : LEN ≤ 4194304) (hLB : (bt r l l.length).length = LB) (hPN : (plc r l).length = PN) :
    Calls Try.prog 38 #[.int .i64 how, .slice a LEN cap] w fun e w' => ∃ pa pc, e = .returned (.tuple #[.agg #[.int .i64 how, .slice a LB cap, .slice pa PN pc, .int .i64 l.length], .int .i64 0]) ∧ RowN w' w.heap.size (.slice pa PN pc) (plc r l) ∧ Below w.heap.size w w' := by
  have e1 : wr8 r l = bt r l l.length ++ (pbs (plc r l) ++ byts 4 (PN : Nat)) := by rw [wr8_plc, hPN, List.append_assoc]
  have hlen : LEN = LB + (4 * PN + 4) := by
    rw [← hA.1, e1, List.length_append, List.length_append, pbs_len, byts_len, hLB, hPN]
  have hP1 : 1 ≤ PN := by rw [← hPN, plc_len r hr]; omega
  have hP2 : PN ≤ 65536 := by
    rw [← hPN]; unfold plc
    split
    · simp
    · rw [pI_len]; have := wn_le r l.length; omega
  obtain ⟨L1, hL1⟩ : ∃ L1, Hid (L1 = LB + 4 * PN) := ⟨_, rfl⟩
  have hL1' := hL1.out
  have hsub : (LEN : Int) - 4 = (L1 : Int) := by omega
  have hsw : IntKind.i64.wrap ((LEN : Int) - 4) = (L1 : Int) := by rw [IntKind.wrap_i64]; omega
  have hsw1 : IntKind.i64.wrap (L1 : Int) = (L1 : Int) := by rw [IntKind.wrap_i64]; omega
  have hmw : IntKind.i64.wrap (PN : Int) = (PN : Int) := by rw [IntKind.wrap_i64]; omega
  have hgt : ¬ (4 * (PN : Int) > (L1 : Int)) := by omega
  have hend : (L1 : Int) - 4 * (PN : Int) = (LB : Int) := by omega
  have hk1 : ¬ (LEN : Int) > 4194304 := by omega
  have hk2 : ¬ (LEN : Int) < 8 := by omega
  have cu1 := fun W => bcut_hi a LEN cap L1 (by omega) W
  have cu2 : ∀ W, (Instr.sliceAt 23 (.slice a LEN cap) (some (.int .i64 L1)) none none).run Try.prog W = .ok (.slice (cutA a cap L1) 4 (cap - L1)) W := fun W => by
    have := bcut_lo2 a LEN cap L1 (by omega) W
    rw [show LEN - L1 = 4 by omega] at this; exact this
  have cu3 := fun W => bcut_hi a L1 cap LB (by omega) W
  have cu4 : ∀ W, (Instr.sliceAt 23 (.slice a L1 cap) (some (.int .i64 LB)) none none).run Try.prog W = .ok (.slice (cutA a cap LB) (4 * PN) (cap - LB)) W := fun W => by
    have := bcut_lo2 a L1 cap LB (by omega) W
    rw [show L1 - LB = 4 * PN by omega] at this; exact this
  have A1 : Arg w a L1 cap (bt r l l.length ++ pbs (plc r l)) := by
    have := hA.hi (m := L1) (by omega)
    rwa [e1, ← List.append_assoc, List.take_left' (by rw [List.length_append, pbs_len, hLB, hPN]; omega)] at this
  have A2 : Arg w (cutA a cap L1) 4 (cap - L1) (byts 4 (PN : Nat)) := by
    have := hA.lo (m := L1) (by omega) hcap
    rwa [e1, ← List.append_assoc, List.drop_left' (by rw [List.length_append, pbs_len, hLB, hPN]; omega), show LEN - L1 = 4 by omega] at this
  have A3 : Arg w a LB cap (bt r l l.length) := by
    have := A1.hi (m := LB) (by omega)
    rwa [List.take_left' hLB] at this
  have A4 : Arg w (cutA a cap LB) (4 * PN) (cap - LB) (pbs (plc r l)) := by
    have := A1.lo (m := LB) (by omega) (by omega)
    rwa [List.drop_left' hLB, show L1 - LB = 4 * PN by omega] at this
  have HFx : Hid (∀ W, Below w.heap.size w W → Calls Try.prog 69 #[.slice (cutA a cap L1) 4 (cap - L1)] W fun e w' => e = .returned (.int .u32 PN) ∧ Below W.heap.size W w') := fun W hW => by
    have := fix69 (A2.below hW) (by omega) (Nat.le_refl 4)
    rw [List.take_of_length_le (by rw [byts_len]; exact Nat.le_refl _), leV_byts 4 _ (by omega) (by omega)] at this
    exact this
  have hplb := plc_bd (r := r) (l := l) (by omega)
  have HPl : Hid (∀ W, Below w.heap.size w W → Calls Try.prog 70 #[.slice (cutA a cap LB) (4 * PN) (cap - LB)] W fun e w' => ∃ pa pc, e = .returned (.slice pa PN pc) ∧ PN ≤ pc ∧ RdN w' pa (plc r l) ∧ RowN w' w.heap.size (.slice pa PN pc) (plc r l) ∧ Below W.heap.size W w') := fun W hW => by
    refine (placesOf_any (A4.below hW) (by omega) (fun x hx => by have := hplb x hx; omega) (by omega)).mono ?_
    rintro e w' ⟨v, rfl, h1, h2⟩
    obtain ⟨pa, pc, e1, h3, h4⟩ := rown_rd h1
    subst e1
    rw [hPN] at h1 h3 ⊢
    exact ⟨pa, pc, rfl, h3, h4, ⟨h1.1, by
      rcases h1.2 with hn | ⟨g, cp, cur, hv, hb, rest⟩
      · exact .inl hn
      · exact .inr ⟨g, cp, cur, hv, Nat.le_trans hW.size hb, rest⟩⟩, h2⟩
  have HCo : Hid (∀ W pa pc, Below w.heap.size w W → RdN W pa (plc r l) → PN ≤ pc → Calls Try.prog 71 #[.agg #[.int .i64 how, .slice a LB cap, .slice pa PN pc, .int .i64 0]] W fun e w' => e = .returned (.tuple #[.int .i64 l.length, .int .i64 0]) ∧ Below W.heap.size W w') := fun W pa pc hW hp hpc =>
    counted_any (A3.below hW) (by omega) hp hPN hpc hf hs hr hl (by omega)
  have HH : Hid (∀ W, Calls Try.prog 25 #[.int .i64 how] W fun e w' => e = .returned (.bool true) ∧ w' = W) := fun W => by rw [← hh]; exact ishow_any how W
  obtain ⟨N, hN⟩ : ∃ N, Hid (l.length = N) := ⟨_, rfl⟩
  have hPb : PN ≤ 4194304 := by omega
  have hLb : LB ≤ 4194304 := by omega
  have hL1b : L1 ≤ 4194304 := by omega
  have HB0 : Hid (Below w.heap.size w (w.alloc (.cells #[.int .i64 0, .slice none 0 0, .slice none 0 0, .int .i64 0] 76))) := (Below.refl _ _).alloc (Nat.le_refl _) _
  rw [hN.out] at HCo ⊢
  clear hA hcap hf hs e1 hlen A1 A2 A3 A4 hL1' hLB hPN hplb hL hl
  go_enter Try.func38, Try.ntmps38
  go_wp2_with (go_at_call 25; refine (HH.out _).mono ?_; rintro e w1 ⟨rfl, hw⟩; have hw1 := hw.symm; subst hw1; clear hw)
  first | go_quiet (fail) | go_big_quiet (fail)
  obtain ⟨W0, hW0⟩ : ∃ W0, W0 = (w.alloc (.cells #[.int .i64 0, .slice none 0 0, .slice none 0 0, .int .i64 0] 76)).drewN nq := ⟨_, rfl⟩
  have HB1 : Hid (Below w.heap.size w W0 ∧ Blk W0 w.heap.size 76 [.int .i64 0, .slice none 0 0, .slice none 0 0, .int .i64 0]) := by
    rw [hW0]
    exact ⟨HB0.out.trans ⟨rfl, rfl, rfl, Nat.le_refl _, fun _ _ => rfl⟩, Blk.new w 76 [.int .i64 0, .slice none 0 0, .slice none 0 0, .int .i64 0]⟩
  rw [← hW0]
  clear hW0 HB0
  go_wp2_with (go_at_call 69; refine (HFx.out _ HB1.out.1).mono ?_; rintro e w2 ⟨rfl, hb2⟩
               have HB2 : Hid (Below w.heap.size w w2 ∧ Blk w2 w.heap.size 76 [.int .i64 0, .slice none 0 0, .slice none 0 0, .int .i64 0]) := ⟨HB1.out.1.trans (hb2.mono HB1.out.1.size), HB1.out.2.upd (S := Non) (Upd.ofBelow hb2) id⟩
               clear hb2 HB1)
  go_cut [10] (fun s10 wc => ∃ (xb : Nat) (pa : Option Addr) (pc : Nat), s10 = ptr xb ∧ PN ≤ pc ∧ Hid (w.heap.size < xb ∧ Below w.heap.size w wc ∧ Blk wc w.heap.size 76 [.int .i64 0, .slice none 0 0, .slice none 0 0, .int .i64 0] ∧ Blk wc xb 76 [.int .i64 how, .slice a LB cap, .slice pa PN pc, .int .i64 0] ∧ RdN wc pa (plc r l) ∧ RowN wc w.heap.size (.slice pa PN pc) (plc r l)))
  case first =>
    have HK2 : Hid (∀ W, Below w2.heap.size w2 W → Below w.heap.size w W) := fun W hW => HB2.out.1.trans (hW.mono HB2.out.1.size)
    have HBN : Hid (∀ W : World, W.heap = (w2.alloc (.cells #[.int .i64 0, .slice none 0 0, .slice none 0 0, .int .i64 0] 76)).heap → Blk W w2.heap.size 76 [.int .i64 0, .slice none 0 0, .slice none 0 0, .int .i64 0]) := fun W h => by
      have := Blk.new w2 76 [.int .i64 0, .slice none 0 0, .slice none 0 0, .int .i64 0]
      unfold Blk at *
      rw [h]; exact this
    go_region_with (go_at_call 70; refine (HPl.out _ (HK2.out _ (by first | exact (Below.refl _ _).drew | exact ((Below.refl _ _).drew).alloc (by simp) _ | exact ((Below.refl _ _).alloc (by simp) _).drew))).mono ?_; rintro e w4 ⟨pa, pc, rfl, p1, p2, p3, p4⟩
                    have U4 := Upd.ofBelow (S := Non) p4
                    try (have BX := Blk.upd (HBN.out _ (by rfl)) U4 id
                         have y0 := BX.cell1 0 _ rfl; have y1 := BX.cell1 1 _ rfl; have y2 := BX.cell1 2 _ rfl; have y3 := BX.cell1 3 _ rfl; have z0 := BX.frozen 0; have z1 := BX.frozen 1; have z2 := BX.frozen 2; have z3 := BX.frozen 3; have HBX : Hid (Blk w4 w2.heap.size 76 [.int .i64 0, .slice none 0 0, .slice none 0 0, .int .i64 0]) := BX; clear BX)
                    have HP4 : Hid _ := p4
                    have HP2 : Hid (RdN w4 pa (plc r l) ∧ RowN w4 w.heap.size (.slice pa PN pc) (plc r l)) := ⟨p2, p3⟩
                    clear p2 p3 p4 U4)
    · go_wp2
      go_meet
      case rel =>
        have B24 : Below w2.heap.size w2 w4 := ((Below.refl _ _).drew).trans HP4.out
        have hb4 := HK2.out _ B24
        have hb5 := hb4.alloc hb4.size (.cells #[.int .i64 how, .slice a LB cap, .slice pa PN pc, .int .i64 0] 76)
        have B0 := HB2.out.2.upd (S := Non) (Upd.ofBelow B24) id
        have R5 : RowN (w4.alloc (.cells #[.int .i64 how, .slice a LB cap, .slice pa PN pc, .int .i64 0] 76)) w.heap.size (.slice pa PN pc) (plc r l) := row_upd HP2.out.2 ((Upd.refl Non _).alloc _) (fun _ _ h => h)
        exact ⟨w4.heap.size, pa, pc, rfl, p1, B0.lt, hb5, B0.alloc _, Blk.new w4 76 [.int .i64 how, .slice a LB cap, .slice pa PN pc, .int .i64 0], rown_rd2 R5, R5⟩
    · go_wp2
      go_meet
      case rel =>
        have B24 : Below w2.heap.size w2 w4 := by
          have h1 : Below w2.heap.size w2 (w2.alloc (.cells #[.int .i64 0, .slice none 0 0, .slice none 0 0, .int .i64 0] 76)).drew := ((Below.refl _ _).alloc (Nat.le_refl _) _).drew
          exact h1.trans (HP4.out.mono (by simp))
        have hb4 := HK2.out _ B24
        have B0 := HB2.out.2.upd (S := Non) (Upd.ofBelow B24) id
        have U5 : Upd (fun j => j = w2.heap.size) w4 ((((w4.setCell ⟨w2.heap.size, 0, none⟩ (.int .i64 how)).setCell ⟨w2.heap.size, 1, none⟩ (.slice a LB cap)).setCell ⟨w2.heap.size, 2, none⟩ (.slice pa PN pc)).setCell ⟨w2.heap.size, 3, none⟩ (.int .i64 0)) :=
          ((((Upd.refl (fun j => j = w2.heap.size) _).setCell (p := ⟨w2.heap.size, 0, none⟩) (fun _ => rfl) _).setCell (p := ⟨w2.heap.size, 1, none⟩) (fun _ => rfl) _).setCell (p := ⟨w2.heap.size, 2, none⟩) (fun _ => rfl) _).setCell (p := ⟨w2.heap.size, 3, none⟩) (fun _ => rfl) _
        have hlt := HB2.out.2.lt
        have R5 := row_upd HP2.out.2 U5 (fun k hk hs => G.row_ne HP2.out.2 HBX.out (by decide) k hk hs)
        exact ⟨w2.heap.size, pa, pc, rfl, p1, hlt, hb4.trans (U5.below (fun j hj => Nat.lt_of_lt_of_le hj hb4.size) (fun j hj => by omega)), B0.upd U5 (by omega), (((HBX.out.set 0 (.int .i64 how)).set 1 (.slice a LB cap)).set 2 (.slice pa PN pc)).set 3 (.int .i64 0), rown_rd2 R5, R5⟩
  case rest =>
    clear HB2
    obtain ⟨xb, pa, pc, rfl, hpc, HX⟩ := hcut
    have c0 := HX.out.2.2.2.1.cell1 0 _ rfl
    have c1 := HX.out.2.2.2.1.cell1 1 _ rfl
    have c2 := HX.out.2.2.2.1.cell1 2 _ rfl
    have c3 := HX.out.2.2.2.1.cell1 3 _ rfl
    go_wp2_with (go_at_call 71; refine (HCo.out _ pa pc HX.out.2.1 HX.out.2.2.2.2.1 hpc).mono ?_; rintro e w5 ⟨rfl, hb5⟩
                 have U5 := Upd.ofBelow (S := Non) hb5
                 have B5 := HX.out.2.2.1.upd U5 id
                 have X5 := HX.out.2.2.2.1.upd U5 id
                 have d0 := X5.cell1 0 _ rfl
                 have d1 := X5.cell1 1 _ rfl
                 have d2 := X5.cell1 2 _ rfl
                 have d3 := X5.cell1 3 _ rfl
                 have z3 := X5.frozen 3
                 have hne : w.heap.size ≠ xb := Nat.ne_of_lt HX.out.1
                 have B6 := B5.other (a := ⟨xb, 3, none⟩) hne (.int .i64 N)
                 have f0 := B6.frozen 0
                 have f1 := B6.frozen 1
                 have f2 := B6.frozen 2
                 have f3 := B6.frozen 3
                 have g0 := B6.cell1 0 _ rfl
                 have g1 := B6.cell1 1 _ rfl
                 have g2 := B6.cell1 2 _ rfl
                 have g3 := B6.cell1 3 _ rfl
                 have HB6 : Hid (Blk (w5.setCell ⟨xb, 3, none⟩ (.int .i64 N)) w.heap.size 76 [.int .i64 0, .slice none 0 0, .slice none 0 0, .int .i64 0]) := B6
                 have H5 : Hid (Below w.heap.size w w5 ∧ RowN w5 w.heap.size (.slice pa PN pc) (plc r l) ∧ Blk w5 xb 76 [.int .i64 how, .slice a LB cap, .slice pa PN pc, .int .i64 0] ∧ w.heap.size < xb) := ⟨HX.out.2.1.trans (hb5.mono HX.out.2.1.size), row_upd HX.out.2.2.2.2.2 U5 (fun _ _ h => h), X5, HX.out.1⟩
                 clear U5 B5 X5 B6 hb5)
    have U7 : Upd (fun j => j = xb ∨ j = w.heap.size) w5 (((((w5.setCell ⟨xb, 3, none⟩ (.int .i64 N)).setCell ⟨w.heap.size, 0, none⟩ (.int .i64 how)).setCell ⟨w.heap.size, 1, none⟩ (.slice a LB cap)).setCell ⟨w.heap.size, 2, none⟩ (.slice pa PN pc)).setCell ⟨w.heap.size, 3, none⟩ (.int .i64 N)) :=
      (((((Upd.refl (fun j => j = xb ∨ j = w.heap.size) _).setCell (p := ⟨xb, 3, none⟩) (fun _ => .inl rfl) _).setCell (p := ⟨w.heap.size, 0, none⟩) (fun _ => .inr rfl) _).setCell (p := ⟨w.heap.size, 1, none⟩) (fun _ => .inr rfl) _).setCell (p := ⟨w.heap.size, 2, none⟩) (fun _ => .inr rfl) _).setCell (p := ⟨w.heap.size, 3, none⟩) (fun _ => .inr rfl) _
    have B7 := (((HB6.out.set 0 (.int .i64 how)).set 1 (.slice a LB cap)).set 2 (.slice pa PN pc)).set 3 (.int .i64 N)
    have B05 : Blk w5 w.heap.size 76 [.int .i64 0, .slice none 0 0, .slice none 0 0, .int .i64 0] := by
      have h1 := HB6.out
      have h2 := H5.out.2.2.2
      unfold Blk at h1 ⊢
      rwa [Below.heap_setCell _ _ _ _ (by show w.heap.size ≠ xb; omega)] at h1
    have q0 := B7.cell1 0 _ rfl
    have q1 := B7.cell1 1 _ rfl
    have q2 := B7.cell1 2 _ rfl
    have q3 := B7.cell1 3 _ rfl
    have hfin : RowN (((((w5.setCell ⟨xb, 3, none⟩ (.int .i64 N)).setCell ⟨w.heap.size, 0, none⟩ (.int .i64 how)).setCell ⟨w.heap.size, 1, none⟩ (.slice a LB cap)).setCell ⟨w.heap.size, 2, none⟩ (.slice pa PN pc)).setCell ⟨w.heap.size, 3, none⟩ (.int .i64 N)) w.heap.size (.slice pa PN pc) (plc r l) := row_upd H5.out.2.1 U7 (fun k hk hs => by
      rcases hs with hs | hs
      · exact G.row_ne H5.out.2.1 H5.out.2.2.1 (by decide) k hk hs
      · exact G.row_ne H5.out.2.1 B05 (by decide) k hk hs)
    have hbf := H5.out.1.trans (U7.below (fun j hj => Nat.lt_of_lt_of_le hj H5.out.1.size) (fun j hj => by
      have := H5.out.2.2.2
      rcases hj with hj | hj <;> omega))
    clear B7 B05 U7
    exact bodyPost_ret (v := .tuple #[.agg #[.int .i64 how, .slice a LB cap, .slice pa PN pc, .int .i64 N], .int .i64 0]) (by simp [results, Try.results38, go_sem, q0, q1, q2, q3]) rfl ⟨pa, pc, rfl, hfin, hbf⟩
end Go.Proofs.Ytbnllobofndckaa
