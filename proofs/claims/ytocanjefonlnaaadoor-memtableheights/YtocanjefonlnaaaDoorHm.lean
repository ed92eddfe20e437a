import Derived.Test.YtocanjefonlnaaaDoorHn
namespace Go.Proofs.YtocanjefonlnaaaDoor
open Go.RowKit Go.Shelf
set_option linter.unusedVariables false
set_option linter.unusedSimpArgs false
attribute [local go_sem] Oper.semAt_some
set_option maxRecDepth 100000 in
set_option maxHeartbeats 4000000 in
theorem heights_in {w : World} (hz : Tz w) (h2 : 2 < w.heap.size) {ha : Option Addr} {hs : List Int} (hh : RdA w ha hs) (hby : ∀ y ∈ hs, 0 ≤ y ∧ y < 256) (hhl : hs.length ≤ 140737488355328)
    {a : Option Addr} {l : List Rec} (hl : RdR w a l) (ch ca : Nat) (key : ByteArray) (hll : l.length ≤ 281474976710656) :
    CallsIn Fence.wide 6 Tryd.prog 6 #[.slice ha hs.length ch, .slice a l.length ca, .string key] w fun e w' => e = .returned (.bool true) ∧ Below w.heap.size w w' := by
  have HNA : Hid (∀ (W : World) (av : Option Addr) (cv : Nat), RdB W (.slice av hs.length cv) hs → hs.length ≤ cv → Calls Tryd.prog 7 #[.int .i64 0, .slice av hs.length cv] W fun e w' => ∃ T, e = .returned (.tuple #[ptr T, .int .i64 0]) ∧ Tb w' T (newB W w') 0 st0 ∧ Below W.heap.size W w' ∧ W.heap.size ≤ T) := fun W av cv h hc => new_any h hc (by omega) hby (how := 0) (.inl rfl)
  have HNB : Hid (∀ W : World, Calls Tryd.prog 7 #[.int .i64 0, .slice none 0 0] W fun e w' => ∃ T, e = .returned (.tuple #[ptr T, .int .i64 0]) ∧ Tb w' T (newB W w') 0 st0 ∧ Below W.heap.size W w' ∧ W.heap.size ≤ T) := fun W => new_any (rdb_nil W) (Nat.le_refl 0) (by omega) (by simp) (how := 0) (.inl rfl)
  have HLv : Hid (∀ W, Below w.heap.size w W → Calls Tryd.prog 9 #[] W fun e w' => e = .returned (.bool true) ∧ Below W.heap.size W w') := fun W hb => lives_any (tz_keep hz hb h2) (Nat.lt_of_lt_of_le h2 hb.size)
  have HL : Hid (RdR w a l) := hl
  have HZ : Hid (Tz w) := hz
  have HH : Hid (RdA w ha hs) := hh
  obtain ⟨N, hN⟩ : ∃ N, Hid (N = l.length) := ⟨_, rfl⟩
  rw [← hN.out] at hll ⊢
  clear hl hz hh
  refine callsIn_of_wp_marks Tryd.func6 rfl trivial ?_ rfl
  simp only [Tryd.ntmps6, List.size_toArray, List.length_cons, List.length_nil, Nat.reduceAdd, Nat.reduceSub, Array.replicate_succ, Array.replicate_zero, List.push_toArray, List.append_toArray, List.nil_append, List.cons_append]
  refine wpIn_wide.2 ?_
  go_wp2_with (first
    | (at_builtin; refine wpl_bytes rfl rfl _ _ rfl rfl rfl HH.out hhl ?_; intro av cv w0 hrd hcv hb0)
    | (go_at_call 7; have hb1x := b1; clear hb1x; refine (HNB.out _).mono ?_; rintro e w2 ⟨T2, rfl, t2, b2', _⟩; have b2 := b1.trans (b2'.mono b1.size))
    | (go_at_call 7; refine (HNA.out _ _ _ hrd hcv).mono ?_; rintro e w1 ⟨T1, rfl, t1, b1', _⟩; have b1 := hb0.trans (b1'.mono hb0.size)))
  have TW0 : Hid (Two w w2 T1 T2 st0 st0) := by
    refine ⟨⟨_, _, t1.below b2', t2, fun k hk => ⟨Nat.le_trans hb0.size hk.1, Nat.lt_of_lt_of_le hk.2 b2'.size⟩, fun k hk => ⟨Nat.le_trans b1.size hk.1, hk.2⟩, fun k hk hk' => ?_⟩, b2⟩
    have h1 : k < w1.heap.size := hk.2
    have h2 : w1.heap.size ≤ k := hk'.1
    omega
  clear t1 t2 b1' b2' b1 b2 hb0 hrd hcv HNA HNB HH
  obtain ⟨W2, rfl⟩ : ∃ W2, W2 = w2 := ⟨_, rfl⟩
  go_loopw [11] (fun i wr => ∃ k : Nat, k ≤ N ∧ i = .int .i64 k ∧ Hid (Two w wr T1 T2 (runG 0 l f9 k) (runG 0 l f9 k))) (fun i _ => ((N : Int) - intOf i).toNat)
  case atStart => exact ⟨0, Nat.zero_le _, rfl, TW0⟩
  case round =>
    obtain ⟨k, hk, rfl, HT⟩ := hrel
    rcases Nat.lt_or_ge k N with hkN | hkN
    · have hkz : (k : Int) < N := by omega
      have hkl : k < l.length := by rw [← hN.out]; exact hkN
      obtain ⟨b, off, rfl, hat⟩ := HL.out.at hkl
      have HAt : Hid (∀ W, Below w.heap.size w W → RAt W b (off + k * 4) l[k]) := hat
      obtain ⟨q, hq⟩ : ∃ q, f9 k = q := ⟨_, rfl⟩
      have HRun : Hid (runG 0 l f9 (k + 1) = (addM 0 (runG 0 l f9 k) q l[k].kind l[k].key l[k].val).2) := by
        have := runG_step 0 l f9 k l[k] (List.getElem?_eq_getElem hkl)
        rw [hq] at this; exact this
      have HI : Hid (Inv 0 (runG 0 l f9 k)) := runG_inv 0 l f9 f9_pos k
      have htm : Int.tmod (k : Int) 9 = q := by rw [← hq]; exact Int.tmod_eq_emod_of_nonneg (by omega)
      have hq0 : 0 ≤ q ∧ q ≤ 8 := by rw [← hq]; exact f9_le k
      generalize l[k] = r at *
      generalize hst : runG 0 l f9 k = st at *
      have HA1 : Hid (∀ wr, Two w wr T1 T2 st st → Calls Tryd.prog 12 #[ptr T1, .int .u64 q, recV r.fam r.kind r.key r.val] wr fun e w' => e = .returned (.int .i64 (addM 0 st q r.kind r.key r.val).1) ∧ Two w w' T1 T2 (addM 0 st q r.kind r.key r.val).2 st) := fun wr h => h.add HZ.out h2 HI.out _ _ _ _ _
      have HA2 : Hid (∀ wr st', Two w wr T1 T2 st' st → Calls Tryd.prog 12 #[ptr T2, .int .u64 q, recV r.fam r.kind r.key r.val] wr fun e w' => e = .returned (.int .i64 (addM 0 st q r.kind r.key r.val).1) ∧ Two w w' T1 T2 st' (addM 0 st q r.kind r.key r.val).2) := fun wr st' h => (h.swap.add HZ.out h2 HI.out _ _ _ _ _).mono fun e w' hh => ⟨hh.1, hh.2.swap⟩
      have hw : IntKind.u64.wrap q = q := by rw [IntKind.wrap_u64]; omega
      have hwi : IntKind.i64.wrap q = q := by rw [IntKind.wrap_i64]; omega
      have c0 := (HAt.out wr HT.out.bel).1
      have c1 := (HAt.out wr HT.out.bel).2.1
      have c2 := (HAt.out wr HT.out.bel).2.2.1
      have c3 := (HAt.out wr HT.out.bel).2.2.2
      obtain ⟨X, hX⟩ : ∃ X, (addM 0 st q r.kind r.key r.val).1 = X := ⟨_, rfl⟩
      rw [hX] at HA1 HA2
      clear hX hat hst hq
      have HTd : Hid (Two w wr.drew T1 T2 st st) := HT.out.step ((Below.refl _ _).drew)
      go_wp2_with fail
      refine wp_noP ?_
      go_region_held_law (fun w' => w'.cell? ⟨b, off + k * 4, none⟩ = some (.int .u32 r.fam) ∧ w'.cell? ⟨b, off + k * 4 + 1, none⟩ = some (.int .i64 r.kind) ∧ w'.cell? ⟨b, off + k * 4 + 2, none⟩ = some (.string r.key) ∧ w'.cell? ⟨b, off + k * 4 + 3, none⟩ = some (.string r.val))
        (first | (go_keep; done) | exact HAt.out _ tw2.bel | exact HAt.out _ tw1.bel)
        (first
          | (go_at_call_of 12 (ptr T1); refine (HA1.out _ HTd.out).mono ?_; rintro e w1 ⟨rfl, tw1⟩)
          | (go_at_call_of 12 (ptr T2); refine (HA2.out _ _ tw1).mono ?_; rintro e w3 ⟨rfl, tw2⟩))
      dsimp only [noP]
      go_wp2_with fail
      go_roundw
      case rel => exact ⟨k + 1, by omega, by go_num, by rw [HRun.out]; exact tw2⟩
      case measure => simp [intOf]; omega
    · have hkz : ¬ ((k : Int) < N) := by omega
      obtain rfl : k = N := by omega
      obtain ⟨st, hst⟩ : ∃ st, Hid (runG 0 l f9 k = st) := ⟨_, rfl⟩
      have HI : Hid (Inv 0 st) := by show Inv 0 st; rw [← hst.out]; exact runG_inv 0 l f9 f9_pos k
      have HQ : Hid (∀ e ∈ st.E, 0 ≤ e.s ∧ e.s ≤ 8) := by show ∀ e ∈ st.E, 0 ≤ e.s ∧ e.s ≤ 8; rw [← hst.out]; exact runG_seq 0 l f9 8 f9_le k
      rw [hst.out] at HT
      clear TW0 HL hst
      have hn52 : ∀ (W : World) (lb : Array Value), (binOp .eql 53 (.func (.func 52) #[] lb) .nilFunc).run Tryd.prog W = .ok (.bool false) W := fun W lb => by kernel_rfl
      have hn53 : ∀ (W : World) (lb : Array Value), (binOp .eql 53 (.func (.func 53) #[] lb) .nilFunc).run Tryd.prog W = .ok (.bool false) W := fun W lb => by kernel_rfl
      have HT0 : Hid (T1 < wr.heap.size) := by
        obtain ⟨Ba, _, g1, _⟩ := HT.out.ex
        obtain ⟨C, L, _, _, _, _, _, _, hS, _⟩ := g1.ex
        exact hS.tab.lt
      go_wp2_with (first
        | (go_at_call 15; refine (all_made (by simp; exact Nat.lt_of_lt_of_le HT0.out (by omega)) _ _ _).mono ?_; rintro e w4 ⟨B1, B2, rfl, p1, p2, p3, p4, p5⟩)
        | (go_at_call 16; refine (back_made (Nat.lt_of_lt_of_le HT0.out (Nat.le_trans (by simp; omega) p5.size)) _ _ _).mono ?_; rintro e w5 ⟨B3, B4, rfl, r1, r2, r3, r4, r5⟩))
      have HR : Hid (Rg w wr w5 T1 T2 st) := Rg.mk' HT.out p5 r5
      have HB12 : Hid (w5.cell? ⟨B1, 0, none⟩ = some (ptr T1) ∧ Blk w5 B2 38 [.string ⟨#[]⟩, .int .u64 72057594037927935, .int .i64 2]) := ⟨keepc r5 p1, p2.upd (S := Non) (Upd.ofBelow r5) id⟩
      have HB34 : Hid (w5.cell? ⟨B3, 0, none⟩ = some (ptr T1) ∧ Blk w5 B4 38 [.string ⟨#[255, 255, 255, 255, 255]⟩, .int .u64 0, .int .i64 0]) := ⟨r1, r2⟩
      have HB5 : Hid (wr.heap.size + 4 ≤ B3 ∧ wr.heap.size + 4 ≤ B4) := by
        have h1 := p5.size
        have h2 : wr.heap.size + 4 ≤ w4.heap.size := by simpa using h1
        exact ⟨Nat.le_trans h2 r3, Nat.le_trans h2 r4⟩
      clear p1 p2 p3 p4 p5 r1 r2 r3 r4 r5
      obtain ⟨B, hB, hseq⟩ := HR.out.tr.all HI.out (top := 72057594037927935) (fun e he => ⟨(HQ.out e he).1, by have := (HQ.out e he).2; omega⟩) HB12.out.1 HB12.out.2 5 (by omega)
      refine (wpIn_wide (n := 6)).1 ?_
      have HBk : Hid (∀ k, B k → k < w5.heap.size ∧ ¬ wr.heap.size ≤ k) := hB
      have hszl := HR.out.sz
      refine wpIn_rangeFunc_ownH rfl (by omega) rfl trivial (fun args w => by kernel_rfl) hseq
        (fun h k => Kq.trans h k) (fun W l o o' hl h h1 h2 => ⟨by simp, fun k hk => ?kb⟩) (Below.refl _ _) (fun _ => rfl)
        (fun pre W => Ap w5 (wr.heap.size + 1 + 1) wr.heap.size (pre.filter (upU U5)) W)
        (fun cd pre W => False)
        (Ap.own w5 _ _ (fun pre => pre.filter (upU U5)))
        (fun cd s A B row hs hg hr => hs)
        HR.out.a0
        (fun x a' W => ∃ b, a' = { tmps := #[Value.slice ha hs.length ch, Value.slice a k ca, Value.string key, undef, undef, undef, u6, ptr T1, Value.int IntKind.i64 0, ptr T2, Value.int IntKind.i64 0, Value.int IntKind.i64 ↑k, Value.pointer (some { block := wr.heap.size + 1 + 1, off := 0 }), Value.pointer (some { block := wr.heap.size + 1 + 1 + 1, off := 0 }), Value.func (Fn.func 52) #[] #[Value.pointer (some { block := B1, off := 0 }), Value.pointer (some { block := B2, off := 0 })], Value.func (Fn.func 53) #[] #[Value.pointer (some { block := B3, off := 0 }), Value.pointer (some { block := B4, off := 0 })], .pointer (some ⟨b, 0, none⟩), undef, undef, undef, undef, undef, undef, undef, undef, undef, Value.tuple #[ptr T1, Value.int IntKind.i64 0], Value.slice (some { block := w.heap.size, off := 0 }) 0 0, Value.slice ha hs.length ch, Value.slice av hs.length cv, Value.tuple #[ptr T1, Value.int IntKind.i64 0], ptr T1, Value.int IntKind.i64 0, Value.tuple #[ptr T2, Value.int IntKind.i64 0], Value.tuple #[ptr T2, Value.int IntKind.i64 0], ptr T2, Value.int IntKind.i64 0, ptr T1, Value.bool false, Value.bool false, ptr T2, Value.bool false, Value.bool false, Value.bool false, Value.int IntKind.i64 0, Value.bool false, Value.bool false, Value.bool false, Value.int IntKind.i64 0, Value.bool false, Value.bool false, Value.int IntKind.i64 ↑k, Value.slice a k ca, Value.int IntKind.i64 ↑k, Value.bool false, u55, u56, u57, u58, u59, u60, u61, u62, u63, u64, u65, u66, u67, u68, u69, u70, u71, u72, u73, u74, u75, Value.slice (some { block := wr.heap.size, off := 0 }) 0 0, Value.slice (some { block := wr.heap.size + 1, off := 0 }) 0 0, ptr T1, Value.agg #[Value.string { data := #[] }, Value.int IntKind.u64 72057594037927935, Value.int IntKind.i64 2], Value.func (Fn.func 52) #[] #[Value.pointer (some { block := B1, off := 0 }), Value.pointer (some { block := B2, off := 0 })], ptr T1, Value.agg #[Value.string { data := #[255, 255, 255, 255, 255] }, Value.int IntKind.u64 0, Value.int IntKind.i64 0], Value.func (Fn.func 53) #[] #[Value.pointer (some { block := B3, off := 0 }), Value.pointer (some { block := B4, off := 0 })], Value.func (Fn.func 52) #[] #[Value.pointer (some { block := B1, off := 0 }), Value.pointer (some { block := B2, off := 0 })], Value.bool false, Value.bool false, Value.func (Fn.func 53) #[] #[Value.pointer (some { block := B3, off := 0 }), Value.pointer (some { block := B4, off := 0 })], Value.bool false, Value.bool false, Value.func (Fn.func 52) #[] #[Value.pointer (some { block := B1, off := 0 }), Value.pointer (some { block := B2, off := 0 })], ev x, undef, undef, undef, undef, undef, undef, undef, undef, undef, undef, undef, undef, undef, undef, undef, undef, undef, undef, undef, undef, undef, undef, undef, undef, undef, undef, undef, undef, undef, undef, undef, undef, undef, undef, undef, undef, undef, undef, undef, undef, undef, undef, undef, undef, undef, undef, undef, undef, undef, undef, undef, undef, undef, undef, undef, undef, undef, undef, undef, undef, undef, undef, undef, undef, undef, undef, undef, undef, undef, undef, undef, undef, undef, undef, undef, undef, undef, undef, undef, undef, undef, undef, undef, undef, undef, undef, undef, undef, undef, undef, undef, undef, undef, undef, undef, undef, undef, undef, undef, undef, undef], defers := [] } ∧ Blk W b 56 x.c)
        (fun x a' => Own.from (fun s A B row hs hg hr => ?ax) _) ?assign ?body ?done ?stop
      case kb =>
        have := HBk.out k hk
        exact (belowK_b (n₀ := w5.heap.size) (w := w5) (Nat.le_refl _) W l o o' hl h h1 h2).block k (by omega)
      case ax =>
        obtain ⟨b, h1, h2⟩ := hs
        exact ⟨b, h1, h2.kept hg hr⟩
      case stop => intro D c pre W _ _ h; exact h.elim
      case assign =>
        intro lp pre x W K hI hK
        have HKK : Hid _ := hK
        unfold ev
        gi_wp2
        exact hK _ _ ((KeepsOthers.alloc _ _).from _) ⟨by simp, fun k hk => Below.heap_alloc _ _ _ (by have := HBk.out k hk; have := hI.up.size; omega)⟩ (hI.same ((Below.refl _ _).alloc (Nat.le_refl _) _)) ⟨W.heap.size, rfl, Blk.new W 56 _⟩
      case body =>
        rintro lp pre x a' W hlW hloop hI ⟨b, rfl, hE⟩ hlt
        have e0 : W.cell? ⟨b, 0, none⟩ = some (.string x.u) := hE.cell1 0 _ rfl
        have e1 : W.cell? ⟨b, 1, none⟩ = some (.int .u64 x.s) := hE.cell1 1 _ rfl
        have e2 : W.cell? ⟨b, 2, none⟩ = some (.int .i64 x.k) := hE.cell1 2 _ rfl
        have e3 : W.cell? ⟨b, 3, none⟩ = some (.string x.v) := hE.cell1 3 _ rfl
        obtain ⟨v, hv, _⟩ := hI.ex
        have hbx : W.cell? ⟨wr.heap.size + 1 + 1, 0, none⟩ = some v := hv.cell1 0 _ rfl
        by_cases hu : upU U5 x = true
        · have hle : (Op.bytesLess x.u.toList [255, 255, 255, 255, 255] || (x.u.toList == [255, 255, 255, 255, 255])) = true := (leq_up' x).trans hu
          have hb1 : Below W.heap.size W (W.alloc (.cells #[.string x.u, .int .u64 x.s, .int .i64 x.k, .string x.v] 56)) := (Below.refl _ _).alloc (Nat.le_refl _) _
          obtain ⟨v', W1, hrun, b1, hAp, hUp, hKO⟩ := (hI.same hb1).push ((hv.alloc _).cell1 0 _ rfl) (vb := W.heap.size) (r := x) (Blk.new W 56 _) 51 (by have h1 := HI.out.n; have h3 := List.length_filter_le (upU U5) pre; unfold Ms.n at h1; have h4 := hlt; omega) (by omega)
          obtain ⟨av', cv', rfl, _⟩ := hAp.slice (b1.set 0 v')
          obtain ⟨nv', hnv'⟩ : ∃ n, Hid (n = (List.filter (upU U5) pre ++ [x]).length) := ⟨_, rfl⟩
          rw [← hnv'.out] at hrun hAp hUp hKO
          have g1 := b1.cell1 0 _ rfl
          have g2 := b1.frozen 0
          have HAp : Hid _ := hAp
          have HUp : Hid _ := hUp
          have HKO : Hid _ := hKO
          have HI2 : Hid _ := hI
          clear hAp hUp hKO
          gi_wp2_with (gi_at_builtin; refine wpListIn_append_run rfl (.tmp 96) (.tmp 98) 51 rfl rfl rfl hrun ?_)
          refine ⟨(((KeepsOthers.alloc _ _).trans HKO.out)).from _, ⟨?_, fun k hk => ?_⟩, ?_⟩
          · exact Nat.le_trans (by simp) HUp.out.size
          · have h1 := HBk.out k hk
            have h2 := HI2.out.up.size
            rw [HUp.out.block k (by simp; omega) (by omega)]
            exact Below.heap_alloc _ _ _ (by omega)
          · show Ap _ _ _ (List.filter (upU U5) (pre ++ [x])) _
            rw [List.filter_append, List.filter_cons_of_pos hu]
            exact HAp.out
        · have hle : (Op.bytesLess x.u.toList [255, 255, 255, 255, 255] || (x.u.toList == [255, 255, 255, 255, 255])) = false := (leq_up' x).trans (by simpa using hu)
          gi_wp2
          refine ⟨(KeepsOthers.refl _).from _, Kq.refl _ _, ?_⟩
          show Ap _ _ _ (List.filter (upU U5) (pre ++ [x])) _
          rw [List.filter_append, List.filter_cons_of_neg hu, List.filter_nil, List.append_nil]
          exact hI
      case done =>
        rintro D ys W hD rfl hI hK
        have HH : Hid (Rh w wr w5 W T1 T2 D B3 B4 st (st.E.filter (upU U5))) := Rh.mk' HR.out hI HB34.out.1 HB34.out.2 HB5.out.1 HB5.out.2 hK hD
        clear hI hK hseq
        go_wp2_with fail
        obtain ⟨Bb, hBb, hseq2⟩ := HH.out.tr.back HI.out (fun e he => (HQ.out e he).1) U5 HH.out.c3 HH.out.c4 5 (by omega)
        refine (wpIn_wide (n := 6)).1 ?_
        have HBb : Hid (∀ k, Bb k → k < W.heap.size ∧ ¬ wr.heap.size ≤ k) := hBb
        obtain ⟨L, hL⟩ : ∃ L, Hid ((st.E.filter (upU U5)) = L) := ⟨_, rfl⟩
        have hszL : Hid (L.length ≤ 8192) := by
          have h1 := HI.out.n
          have h3 := List.length_filter_le (upU U5) st.E
          unfold Ms.n at h1
          rw [hL.out] at h3
          show L.length ≤ 8192
          omega
        rw [hL.out] at hseq2 HH
        have hszW : Hid (wr.heap.size + 4 ≤ W.heap.size) := Nat.le_trans HH.out.sz (HH.out.a0.up.size)
        refine wpIn_rangeFunc_ownH rfl (by omega) rfl trivial (fun args w => by kernel_rfl) hseq2
          (fun h k => Kq.trans h k) (fun W' l o o' hl h h1 h2 => ⟨by simp, fun k hk => ?kb2⟩) (Below.refl _ _) (fun _ => rfl)
          (fun pre W' => Ap W (wr.heap.size + 1 + 1 + 1) (wr.heap.size + 1) pre W')
          (fun cd pre W' => False)
          (Ap.own W _ _ (fun pre => pre))
          (fun cd s A B row hs hg hr => hs)
          HH.out.a1
          (fun x a' W => ∃ b, a' = { tmps := #[Value.slice ha hs.length ch, Value.slice a k ca, Value.string key, undef, undef, undef, u6, ptr T1, Value.int IntKind.i64 0, ptr T2, Value.int IntKind.i64 0, Value.int IntKind.i64 ↑k, Value.pointer (some { block := wr.heap.size + 1 + 1, off := 0 }), Value.pointer (some { block := wr.heap.size + 1 + 1 + 1, off := 0 }), Value.func (Fn.func 52) #[] #[Value.pointer (some { block := B1, off := 0 }), Value.pointer (some { block := B2, off := 0 })], Value.func (Fn.func 53) #[] #[Value.pointer (some { block := B3, off := 0 }), Value.pointer (some { block := B4, off := 0 })], undef, .pointer (some ⟨b, 0, none⟩), undef, undef, undef, undef, undef, undef, undef, undef, Value.tuple #[ptr T1, Value.int IntKind.i64 0], Value.slice (some { block := w.heap.size, off := 0 }) 0 0, Value.slice ha hs.length ch, Value.slice av hs.length cv, Value.tuple #[ptr T1, Value.int IntKind.i64 0], ptr T1, Value.int IntKind.i64 0, Value.tuple #[ptr T2, Value.int IntKind.i64 0], Value.tuple #[ptr T2, Value.int IntKind.i64 0], ptr T2, Value.int IntKind.i64 0, ptr T1, Value.bool false, Value.bool false, ptr T2, Value.bool false, Value.bool false, Value.bool false, Value.int IntKind.i64 0, Value.bool false, Value.bool false, Value.bool false, Value.int IntKind.i64 0, Value.bool false, Value.bool false, Value.int IntKind.i64 ↑k, Value.slice a k ca, Value.int IntKind.i64 ↑k, Value.bool false, u55, u56, u57, u58, u59, u60, u61, u62, u63, u64, u65, u66, u67, u68, u69, u70, u71, u72, u73, u74, u75, Value.slice (some { block := wr.heap.size, off := 0 }) 0 0, Value.slice (some { block := wr.heap.size + 1, off := 0 }) 0 0, ptr T1, Value.agg #[Value.string { data := #[] }, Value.int IntKind.u64 72057594037927935, Value.int IntKind.i64 2], Value.func (Fn.func 52) #[] #[Value.pointer (some { block := B1, off := 0 }), Value.pointer (some { block := B2, off := 0 })], ptr T1, Value.agg #[Value.string { data := #[255, 255, 255, 255, 255] }, Value.int IntKind.u64 0, Value.int IntKind.i64 0], Value.func (Fn.func 53) #[] #[Value.pointer (some { block := B3, off := 0 }), Value.pointer (some { block := B4, off := 0 })], Value.func (Fn.func 52) #[] #[Value.pointer (some { block := B1, off := 0 }), Value.pointer (some { block := B2, off := 0 })], Value.bool false, Value.bool false, Value.func (Fn.func 53) #[] #[Value.pointer (some { block := B3, off := 0 }), Value.pointer (some { block := B4, off := 0 })], Value.bool false, Value.bool false, Value.func (Fn.func 52) #[] #[Value.pointer (some { block := B1, off := 0 }), Value.pointer (some { block := B2, off := 0 })], undef, undef, undef, undef, undef, undef, undef, undef, undef, Value.func (Fn.func 53) #[] #[Value.pointer (some { block := B3, off := 0 }), Value.pointer (some { block := B4, off := 0 })], ev x, undef, undef, undef, undef, undef, undef, undef, undef, undef, undef, undef, undef, undef, undef, undef, undef, undef, undef, undef, undef, undef, undef, undef, undef, undef, undef, undef, undef, undef, undef, undef, undef, undef, undef, undef, undef, undef, undef, undef, undef, undef, undef, undef, undef, undef, undef, undef, undef, undef, undef, undef, undef, undef, undef, undef, undef, undef, undef, undef, undef, undef, undef, undef, undef, undef, undef, undef, undef, undef, undef, undef, undef, undef, undef, undef, undef, undef, undef, undef, undef, undef, undef, undef, undef, undef, undef, undef, undef, undef, undef, undef], defers := [] } ∧ Blk W b 56 x.c)
          (fun x a' => Own.from (fun s A B row hs hg hr => ?ax2) _) ?assign2 ?body2 ?done2 ?stop2
        case kb2 =>
          have := HBb.out k hk
          exact (belowK_b (n₀ := W.heap.size) (w := W) (Nat.le_refl _) W' l o o' hl h h1 h2).block k (by omega)
        case ax2 =>
          obtain ⟨b, h1, h2⟩ := hs
          exact ⟨b, h1, h2.kept hg hr⟩
        case stop2 => intro D c pre W _ _ h; exact h.elim
        case assign2 =>
          intro lp pre x W' K hI hK
          have HKK : Hid _ := hK
          unfold ev
          gi_wp2
          exact hK _ _ ((KeepsOthers.alloc _ _).from _) ⟨by simp, fun k hk => Below.heap_alloc _ _ _ (by have := HBb.out k hk; have := hI.up.size; omega)⟩ (hI.same ((Below.refl _ _).alloc (Nat.le_refl _) _)) ⟨W'.heap.size, rfl, Blk.new W' 56 _⟩
        case body2 =>
          rintro lp pre x a' W' hlW hloop hI ⟨b, rfl, hE⟩ hlt
          have e0 : W'.cell? ⟨b, 0, none⟩ = some (.string x.u) := hE.cell1 0 _ rfl
          have e1 : W'.cell? ⟨b, 1, none⟩ = some (.int .u64 x.s) := hE.cell1 1 _ rfl
          have e2 : W'.cell? ⟨b, 2, none⟩ = some (.int .i64 x.k) := hE.cell1 2 _ rfl
          have e3 : W'.cell? ⟨b, 3, none⟩ = some (.string x.v) := hE.cell1 3 _ rfl
          obtain ⟨v, hv, _⟩ := hI.ex
          have hbx : W'.cell? ⟨wr.heap.size + 1 + 1 + 1, 0, none⟩ = some v := hv.cell1 0 _ rfl
          have hb1 : Below W'.heap.size W' (W'.alloc (.cells #[.string x.u, .int .u64 x.s, .int .i64 x.k, .string x.v] 56)) := (Below.refl _ _).alloc (Nat.le_refl _) _
          obtain ⟨v', W1, hrun, b1, hAp, hUp, hKO⟩ := (hI.same hb1).push ((hv.alloc _).cell1 0 _ rfl) (vb := W'.heap.size) (r := x) (Blk.new W' 56 _) 51 (by have h1 := hszL.out; rw [List.length_reverse] at hlt; omega) (by have := hszW.out; omega)
          obtain ⟨av', cv', rfl, _⟩ := hAp.slice (b1.set 0 v')
          obtain ⟨nv', hnv'⟩ : ∃ n, Hid (n = (pre ++ [x]).length) := ⟨_, rfl⟩
          rw [← hnv'.out] at hrun hAp hUp hKO
          have g1 := b1.cell1 0 _ rfl
          have g2 := b1.frozen 0
          have HAp : Hid _ := hAp
          have HUp : Hid _ := hUp
          have HKO : Hid _ := hKO
          have HI2 : Hid _ := hI
          clear hAp hUp hKO hlt
          gi_wp2_with (gi_at_builtin; refine wpListIn_append_run rfl (.tmp 102) (.tmp 104) 51 rfl rfl rfl hrun ?_)
          refine ⟨(((KeepsOthers.alloc _ _).trans HKO.out)).from _, ⟨?_, fun k hk => ?_⟩, ?_⟩
          · exact Nat.le_trans (by simp) HUp.out.size
          · have h1 := HBb.out k hk
            have h2 := HI2.out.up.size
            rw [HUp.out.block k (by simp; omega) (by omega)]
            exact Below.heap_alloc _ _ _ (by omega)
          · exact HAp.out
        case done2 =>
          rintro D2 ys W3 hD2 rfl hI hK
          have hwr : w.heap.size ≤ wr.heap.size := HT.out.bel.size
          obtain ⟨a1, c1, a2, c2, fi⟩ := Fi.mk' HH.out hI hK hD2 hwr
          obtain ⟨n, hn⟩ : ∃ n, Hid (L.length = n) := ⟨_, rfl⟩
          rw [hn.out] at fi
          have HF : Hid (Fi w W3 T1 T2 D D2 (wr.heap.size + 1 + 1) (wr.heap.size + 1 + 1 + 1) st L n a1 a2 c1 c2) := fi
          have HFd : Hid (Fi w W3.drew T1 T2 D D2 (wr.heap.size + 1 + 1) (wr.heap.size + 1 + 1 + 1) st L n a1 a2 c1 c2) := fi.step (Below.refl _ _).drew
          have HBa : Hid (∀ W, Fi w W T1 T2 D D2 (wr.heap.size + 1 + 1) (wr.heap.size + 1 + 1 + 1) st L n a1 a2 c1 c2 → Calls Tryd.prog 16 #[ptr T2, .agg #[.string ⟨#[255, 255, 255, 255, 255]⟩, .int .u64 0, .int .i64 0]] W fun e w' => ∃ B3 B4, e = .returned (.func (.func 53) #[] #[.pointer (some ⟨B3, 0, none⟩), .pointer (some ⟨B4, 0, none⟩)]) ∧ Fi w w' T1 T2 D D2 (wr.heap.size + 1 + 1) (wr.heap.size + 1 + 1 + 1) st L n a1 a2 c1 c2 ∧
            w'.cell? ⟨B3, 0, none⟩ = some (ptr T2) ∧ Blk w' B4 38 [.string ⟨#[255, 255, 255, 255, 255]⟩, .int .u64 0, .int .i64 0]) := fun W h => h.back
          have HGo : Hid (∀ W B3 B4, Fi w W T1 T2 D D2 (wr.heap.size + 1 + 1) (wr.heap.size + 1 + 1 + 1) st L n a1 a2 c1 c2 → W.cell? ⟨B3, 0, none⟩ = some (ptr T2) → Blk W B4 38 [.string ⟨#[255, 255, 255, 255, 255]⟩, .int .u64 0, .int .i64 0] →
            Calls Tryd.prog 17 #[.func (.func 53) #[] #[.pointer (some ⟨B3, 0, none⟩), .pointer (some ⟨B4, 0, none⟩)], .slice a2 n c2, .int .i64 0] W fun e w' => e = .returned (.bool true) ∧ Fi w w' T1 T2 D D2 (wr.heap.size + 1 + 1) (wr.heap.size + 1 + 1 + 1) st L n a1 a2 c1 c2) := fun W B3 B4 h c3 c4 => h.goes HI.out (fun e he => (HQ.out e he).1) hL.out.symm c3 c4
          have x1 : W3.cell? ⟨wr.heap.size + 1 + 1, 0, none⟩ = some (.slice a1 n c1) := fi.b1.cell1 0 _ rfl
          have x2 : W3.cell? ⟨wr.heap.size + 1 + 1 + 1, 0, none⟩ = some (.slice a2 n c2) := fi.b2.cell1 0 _ rfl
          clear fi hI hK hseq2 HH HB34 HB12 HB5 HR
          go_wp2_with fail
          refine wp_noP ?_
          first
            | go_region_held_law (fun w' => w'.cell? ⟨wr.heap.size + 1 + 1, 0, none⟩ = some (.slice a1 n c1) ∧ w'.cell? ⟨wr.heap.size + 1 + 1 + 1, 0, none⟩ = some (.slice a2 n c2))
                (first | (go_keep; done) | exact ⟨f2.b1.cell1 0 _ rfl, f2.b2.cell1 0 _ rfl⟩ | exact ⟨f1.b1.cell1 0 _ rfl, f1.b2.cell1 0 _ rfl⟩)
                (first
                  | (go_at_call 16; refine (HBa.out _ HFd.out).mono ?_; rintro e w1 ⟨B5, B6, rfl, f1, q1, q2⟩)
                  | (go_at_call 17; refine (HGo.out _ _ _ f1 q1 q2).mono ?_; rintro e w2 ⟨rfl, f2⟩))
            | fail
          dsimp only [noP]
          have HF2 : Hid (Fi w w2 T1 T2 D D2 (wr.heap.size + 1 + 1) (wr.heap.size + 1 + 1 + 1) st L n a1 a2 c1 c2) := f2
          clear f2 f1 q1 q2 x1 x2 HBa HGo HF HFd
          obtain ⟨WR, rfl⟩ : ∃ WR, WR = wr := ⟨_, rfl⟩
          have hn52 : n ≤ 8192 := by rw [← hn.out]; exact hszL.out
          go_wp2_with fail
          go_loopw [18] (fun i wr => ∃ j : Nat, j ≤ n ∧ i = .int .i64 j ∧ Hid (Fi w wr T1 T2 D D2 (WR.heap.size + 1 + 1) (WR.heap.size + 1 + 1 + 1) st L n a1 a2 c1 c2)) (fun i _ => ((n : Int) - intOf i).toNat)
          case atStart => exact ⟨0, Nat.zero_le _, rfl, HF2⟩
          case round =>
            obtain ⟨j, hj, rfl, HFj⟩ := hrel
            have x1 : wr.cell? ⟨WR.heap.size + 1 + 1, 0, none⟩ = some (.slice a1 n c1) := HFj.out.b1.cell1 0 _ rfl
            have x2 : wr.cell? ⟨WR.heap.size + 1 + 1 + 1, 0, none⟩ = some (.slice a2 n c2) := HFj.out.b2.cell1 0 _ rfl
            rcases Nat.lt_or_ge j n with hjn | hjn
            · have hjz : (j : Int) < n := by omega
              obtain ⟨m, hm⟩ : ∃ m : Nat, m + j + 1 = n := ⟨n - 1 - j, by omega⟩
              have hmz : (n : Int) - 1 - j = m := by omega
              have hmn : (m : Int) < n := by omega
              obtain ⟨r, hr1⟩ : ∃ r, L[j]? = some r := ⟨L[j]'(by rw [hn.out]; exact hjn), List.getElem?_eq_getElem _⟩
              have hr2 : L.reverse[m]? = some r := by
                rw [List.getElem?_reverse (by rw [hn.out]; omega), hn.out]
                have : n - 1 - m = j := by omega
                rw [this]; exact hr1
              obtain ⟨b1, o1, rfl, ht1⟩ : ∃ b o, a1 = some ⟨b, o, none⟩ ∧ EAt wr b (o + j * 4) r := by
                rcases HFj.out.r1 with h | ⟨b, o, e, h⟩
                · rw [h] at hr1; simp at hr1
                · exact ⟨b, o, e, h j r hr1⟩
              obtain ⟨b2, o2, rfl, ht2⟩ : ∃ b o, a2 = some ⟨b, o, none⟩ ∧ EAt wr b (o + m * 4) r := by
                rcases HFj.out.r2 with h | ⟨b, o, e, h⟩
                · rw [h] at hr2; simp at hr2
                · exact ⟨b, o, e, h m r hr2⟩
              obtain ⟨e0, e1, e2, e3⟩ := ht1
              obtain ⟨e4, e5, e6, e7⟩ := ht2
              have hne : ∀ W : World, (binOp .neq 56 (.agg #[.string r.u, .int .u64 r.s, .int .i64 r.k, .string r.v]) (.agg #[.string r.u, .int .u64 r.s, .int .i64 r.k, .string r.v])).run Tryd.prog W = .ok (.bool false) W := fun W => by
                have := eq_ent W r r; rw [decide_eq_true ⟨rfl, rfl, rfl, rfl⟩] at this; exact this
              have hw1 : IntKind.i64.wrap ((n : Int) - 1) = n - 1 := by rw [IntKind.wrap_i64]; omega
              have hw2 : IntKind.i64.wrap ((n : Int) - 1 - j) = m := by rw [IntKind.wrap_i64]; omega
              clear hr1 hr2 hm
              go_wp2_with fail
              go_big_quiet (fail)
              have HFn : Hid (Fi w (wr.drewN nq) T1 T2 D D2 (WR.heap.size + 1 + 1) (WR.heap.size + 1 + 1 + 1) st L n (some ⟨b1, o1, none⟩) (some ⟨b2, o2, none⟩) c1 c2) := HFj.out.step ⟨rfl, rfl, rfl, Nat.le_refl _, fun _ _ => rfl⟩
              go_wp2_with fail
              go_roundw
              case rel => exact ⟨j + 1, by omega, by go_num, HFn⟩
              case measure => simp [intOf]; omega
            · have hjz : ¬ ((j : Int) < n) := by omega
              clear HF2
              obtain ⟨WQ, rfl⟩ : ∃ WQ, WQ = wr := ⟨_, rfl⟩
              go_wp2_with fail
              clear x1 x2
              go_loopw [19] (fun i wr => ∃ q : Nat, q ≤ 10 ∧ i = .int .u64 q ∧ Hid (Fi w wr T1 T2 D D2 (WR.heap.size + 1 + 1) (WR.heap.size + 1 + 1 + 1) st L n a1 a2 c1 c2)) (fun i _ => (10 - intOf i).toNat)
              case atStart => exact ⟨0, Nat.zero_le _, rfl, HFj⟩
              case round =>
                obtain ⟨q, hq, rfl, HFq⟩ := hrel
                rcases Nat.lt_or_ge q 10 with hqk | hqk
                · have hqz : (q : Int) < 10 := by omega
                  obtain ⟨G, hG⟩ : ∃ G, Hid (getX st key q = G) := ⟨_, rfl⟩
                  have HG1 : Hid (Calls Tryd.prog 13 #[ptr T1, .string key, .int .u64 q] wr fun e w' => e = .returned (gv G) ∧ Fi w w' T1 T2 D D2 (WR.heap.size + 1 + 1) (WR.heap.size + 1 + 1 + 1) st L n a1 a2 c1 c2) := by
                    have := HFq.out.get1 HI.out key q
                    rw [hG.out] at this; exact this
                  have HG2 : Hid (∀ W, Fi w W T1 T2 D D2 (WR.heap.size + 1 + 1) (WR.heap.size + 1 + 1 + 1) st L n a1 a2 c1 c2 → Calls Tryd.prog 13 #[ptr T2, .string key, .int .u64 q] W fun e w' => e = .returned (gv G) ∧ Fi w w' T1 T2 D D2 (WR.heap.size + 1 + 1) (WR.heap.size + 1 + 1 + 1) st L n a1 a2 c1 c2) := fun W h => by
                    have := h.get2 HI.out key q
                    rw [hG.out] at this; exact this
                  obtain ⟨g1, g2, g3⟩ := G
                  clear hG
                  go_wp2_with (first
                    | (go_at_call 13; have hx := tw1; clear hx; refine (HG2.out _ tw1).mono ?_; rintro e w3 ⟨rfl, tw2⟩)
                    | (go_at_call 13; refine HG1.out.mono ?_; rintro e w1 ⟨rfl, tw1⟩))
                  go_roundw
                  case rel => exact ⟨q + 1, by omega, by go_num, tw2⟩
                  case measure => simp [intOf]; omega
                · have hqz : ¬ ((q : Int) < 10) := by omega
                  clear HFj
                  obtain ⟨SZ, hSZ⟩ : ∃ SZ : Int, Hid (st.sz = SZ) := ⟨_, rfl⟩
                  obtain ⟨LN, hLN⟩ : ∃ LN : Int, Hid ((st.E.length : Int) + st.R.length = LN) := ⟨_, rfl⟩
                  go_wp2_with (first
                    | (go_at_call 9; refine (HLv.out _ f7.two.bel).mono ?_; rintro e w8 ⟨rfl, bb⟩; have f8 := f7.step bb)
                    | (go_at_call 20; refine (tombs_same (row_rdt t1) (row_rdt t2) (by have := HI.out.n; unfold Ms.n at this; omega)).mono ?_; rintro e w7 ⟨rfl, bb7⟩; have f7 := f6.step bb7)
                    | (go_at_call 21; have hx := f5; clear hx; refine (f5.tombs2 HI.out t0).mono ?_; rintro e w6 ⟨v6, rfl, t1, t2, f6⟩)
                    | (go_at_call 21; have hx := f4; clear hx; refine (f4.tombs1 HI.out).mono ?_; rintro e w5' ⟨v5, rfl, t0, f5⟩)
                    | (go_at_call 19; have hx := f3; clear hx; refine f3.size2.mono ?_; rintro e w4' ⟨rfl, f4⟩)
                    | (go_at_call 19; have hx := f2; clear hx; refine f2.size1.mono ?_; rintro e w3' ⟨rfl, f3⟩)
                    | (go_at_call 18; have hx := f1; clear hx; refine (f1.len2 HI.out).mono ?_; rintro e w2' ⟨rfl, f2⟩)
                    | (go_at_call 18; refine (HFq.out.len1 HI.out).mono ?_; rintro e w1' ⟨rfl, f1⟩))
                  have k2 := f8.m2
                  have k1 : (w8.putObj D2 (.deferred none)).heap[D]? = some (.deferred (some [])) := (World.putObj_heap_other f8.ne).trans f8.m1
                  refine ⟨by simp, .inl ⟨_, _, rfl, run_takeDeferred k2, ?_⟩⟩
                  refine ⟨by simp, .inl ⟨_, _, rfl, run_takeDeferred k1, ?_⟩⟩
                  refine ⟨.bool true, ?_, rfl, (f8.two.bel.trans (belowK_b (w := w) (Nat.le_refl _) _ D2 _ _ f8.o2 k2 rfl rfl)).trans (belowK_b (w := w) (Nat.le_refl _) _ D _ _ f8.o1 k1 rfl rfl)⟩
                  simp [results, Tryd.f6, go_sem]
theorem heights_any {w : World} (hz : Tz w) (h2 : 2 < w.heap.size) {ha : Option Addr} {hs : List Int} (hh : RdA w ha hs) (hby : ∀ y ∈ hs, 0 ≤ y ∧ y < 256) (hhl : hs.length ≤ 140737488355328)
    {a : Option Addr} {l : List Rec} (hl : RdR w a l) (ch ca : Nat) (key : ByteArray) (hll : l.length ≤ 281474976710656) :
    Calls Tryd.prog 6 #[.slice ha hs.length ch, .slice a l.length ca, .string key] w fun e w' => e = .returned (.bool true) ∧ Below w.heap.size w w' :=
  (callsIn_wide (n := 6)).1 (heights_in hz h2 hh hby hhl hl ch ca key hll)
end Go.Proofs.YtocanjefonlnaaaDoor
