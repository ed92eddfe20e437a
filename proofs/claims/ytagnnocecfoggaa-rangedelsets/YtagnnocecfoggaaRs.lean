/-
  The reference's Split.
-/
import Derived.Test.YtagnnocecfoggaaWi
import Derived.Test.YtagnnocecfoggaaSe
import Derived.Test.YtagnnocecfoggaaAp
namespace Go.Proofs.Ytagnnocecfoggaa
open Go.RowKit
set_option linter.unusedVariables false
set_option linter.unusedSimpArgs false
/-- Fragments in a row of one's own. -/
structure Ro (wr : World) (base : Nat) (ov : Value) (ps : List Pc) (L : List Fg) : Prop where
  row : RowP wr base ov ps
  len : ps.length = L.length
  at_ : ∀ (i : Nat) (p : Pc) (f : Fg), ps[i]? = some p → L[i]? = some f → p.b = f.b ∧ p.e = f.e ∧ RowU wr base p.s f.q
theorem Ro.upd {S : Nat → Prop} {w w' : World} {base : Nat} {ov : Value} {ps : List Pc} {L : List Fg} (h : Ro w base ov ps L) (u : Upd S w w') (hS : ∀ k, SpB ov ps k → ¬ S k) : Ro w' base ov ps L :=
  ⟨row_upd h.row u (fun k hk => hS k (.inl hk)), h.len, fun i p f hp hf => by
    obtain ⟨e1, e2, e3⟩ := h.at_ i p f hp hf
    exact ⟨e1, e2, row_upd e3 u (fun k hk => hS k (.inr ⟨p, List.mem_of_getElem? hp, hk⟩))⟩⟩
theorem Ro.below {w w' : World} {base : Nat} {ov : Value} {ps : List Pc} {L : List Fg} (h : Ro w base ov ps L) (hb : Below w.heap.size w w') : Ro w' base ov ps L := h.upd (S := Non) (Upd.ofBelow hb) (fun _ _ h => h)
/-- The blocks of fragments are no box of another type. -/
theorem Ro.ne {w : World} {base : Nat} {ov : Value} {ps : List Pc} {L : List Fg} (h : Ro w base ov ps L) {v : Value} {q : List Int} (hv : RowU w base v q) : ∀ k, v.ownBlock = some k → ov.ownBlock ≠ some k := fun k hk => row_row_ne hv h.row (by decide) k hk
theorem Ro.rdf {w : World} {base : Nat} {ov : Value} {ps : List Pc} {L : List Fg} (h : Ro w base ov ps L) : ∃ a c, ov = .slice a L.length c ∧ L.length ≤ c ∧ RdF w a L := by
  obtain ⟨a, c, hv, hc, hrd, _⟩ := row_rd pc_k h.row
  refine ⟨a, c, by rw [hv, h.len], by rw [← h.len]; exact hc, ps, h.len, hrd, fun i p f hp hf => ?_⟩
  obtain ⟨e1, e2, e3⟩ := h.at_ i p f hp hf
  obtain ⟨a', c', e, _, hr, _⟩ := row_rd uc_k e3
  injection e with x1 x2 x3
  exact ⟨e1, e2, x2, by rw [x1]; exact hr⟩
/-- One more fragment. -/
theorem Ro.push {w : World} {base : Nat} {ov : Value} {ps : List Pc} {L : List Fg} (h : Ro w base ov ps L) (hb : base ≤ w.heap.size) {f : Fg} {a : Option Addr} {c : Nat} (hq : RowU w base (.slice a f.q.length c) f.q) (hl : ps.length ≤ 10000) :
    ∃ v' w', (Builtin.append_ #[23, 23] 23 #[ov, .slice (some ⟨w.heap.size, 0, none⟩) 1 1]).run Try.prog (w.alloc (.cells #[.string f.b, .string f.e, .slice a f.q.length c] 63)) = .ok v' w' ∧ Ro w' base v' (ps ++ [⟨f.b, f.e, a, f.q.length, c⟩]) (L ++ [f]) ∧ Upd (fun k => ov.ownBlock = some k) w w' ∧ (v'.ownBlock = ov.ownBlock ∨ ∃ k, v'.ownBlock = some k ∧ w.heap.size ≤ k) := by
  have hbw : Below w.heap.size w (w.alloc (.cells #[.string f.b, .string f.e, .slice a f.q.length c] 63)) := (Below.refl _ _).alloc (Nat.le_refl _) _
  obtain ⟨v', w', hr, g2, g3, g4, _⟩ := pushP (x := ⟨f.b, f.e, a, f.q.length, c⟩) (row_upd h.row (S := Non) (Upd.ofBelow hbw) (fun _ _ h => h)) (by simp; omega) (Blk.new w 63 (Pc.c ⟨f.b, f.e, a, f.q.length, c⟩)) 23 (by omega)
  have h' := h.below hbw
  have hq' : RowU (w.alloc (.cells #[.string f.b, .string f.e, .slice a f.q.length c] 63)) base (.slice a f.q.length c) f.q := row_upd hq (S := Non) (Upd.ofBelow hbw) (fun _ _ h => h)
  refine ⟨v', w', hr, ⟨g2, by simp [h.len], fun i p f' hp hf' => ?_⟩, (Upd.ofBelow hbw).then g3 (fun _ _ h => h), g4.imp id (fun e => ⟨_, e, by simp⟩)⟩
  rcases Nat.lt_or_ge i ps.length with hi | hi
  · rw [List.getElem?_append_left hi] at hp
    rw [List.getElem?_append_left (by rw [← h.len]; exact hi)] at hf'
    obtain ⟨e1, e2, e3⟩ := h'.at_ i p f' hp hf'
    exact ⟨e1, e2, row_upd e3 g3 (fun k hk => h'.ne e3 k hk)⟩
  · rw [List.getElem?_append_right hi] at hp
    rw [List.getElem?_append_right (by rw [← h.len]; exact hi)] at hf'
    have hz : i - ps.length = 0 := by have := (List.getElem?_eq_some_iff.1 hp).1; simp at this; omega
    rw [hz] at hp
    rw [← h.len, hz] at hf'
    simp at hp hf'
    subst hp hf'
    exact ⟨rfl, rfl, row_upd hq' g3 (fun k hk => h'.ne hq' k hk)⟩
theorem keysOf_step (how : Int) (l : List Tm) (k : Nat) (t : Tm) (h : l[k]? = some t) : keysOf how (l.take (k + 1)) = if lies how t = true then insG (kl how) (insG (kl how) (keysOf how (l.take k)) t.b) t.e else keysOf how (l.take k) := by
  unfold keysOf; rw [List.take_add_one, h, List.foldl_append]; rfl
theorem seqsAt_step (how : Int) (l : List Tm) (key : ByteArray) (k : Nat) (t : Tm) (h : l[k]? = some t) : seqsAt how (l.take (k + 1)) key = if ovr how t key = true then insG gt (seqsAt how (l.take k) key) t.s else seqsAt how (l.take k) key := by
  unfold seqsAt; rw [List.take_add_one, h, List.foldl_append]; rfl
/-- The fragments of the first j pieces. -/
def frsTo (how : Int) (l : List Tm) (j : Nat) : List Fg := (((pcs (keysOf how l)).take j).map (fun p => (⟨p.1, p.2, seqsAt how l p.1⟩ : Fg))).filter (fun f => !f.q.isEmpty)
theorem frsTo_step {how : Int} {l : List Tm} {j : Nat} {x y : ByteArray} (h : (pcs (keysOf how l))[j]? = some (x, y)) : frsTo how l (j + 1) = frsTo how l j ++ (if (seqsAt how l x).isEmpty = true then [] else [⟨x, y, seqsAt how l x⟩]) := by
  unfold frsTo
  rw [List.take_add_one, h, List.map_append, List.filter_append]
  congr 1
  simp only [Option.toList_some, List.map_cons, List.map_nil, List.filter_cons, List.filter_nil]
  cases (seqsAt how l x).isEmpty <;> rfl
theorem frsTo_len (how : Int) (l : List Tm) (j : Nat) : (frsTo how l j).length ≤ 2 * l.length := by
  unfold frsTo
  refine Nat.le_trans (List.length_filter_le _ _) ?_
  rw [List.length_map, List.length_take, pcs_len]
  have := keysOf_len how l
  omega
theorem step_call35 {ops : Array Oper} {o : Oper} {a : Act} {w : World} {K : Act → World → Prop} {Q : Exit → Act → World → Prop} {Ex : Prop} (hgd : o.guard = none) {d : Nat} (hd : o.dst = some d) (x y : Operand) (ts : Array TypeId)
    (ho : o.op = .call { callee := .value (.func 35), args := #[x, y], argTypes := ts }) (u v : Value) (hx : a.eval x = u) (hy : a.eval y = v) {R : Ending → World → Prop} (hc : Calls Try.prog 35 #[u, v] w R)
    (h : ∀ e w', R e w' → ∃ r, e = .returned r ∧ K (a.put (some d) r) w') :
    if Region.wanted o (yielded ops a.tmps) = true then Oper.wp Try.prog o a w K Q else Ex := by
  have hw : Region.wanted o (yielded ops a.tmps) = true := by simp [Region.wanted, hgd]
  rw [if_pos hw]
  have he := enters_of (P := Try.prog) Try.func35 (by kernel_rfl) rfl #[u, v]
  unfold Oper.wp execOp
  simp only [ho, resolve, invoke, Sem.run_bind, Sem.run_pure, Result.andThen_ok, List.map_toArray, List.map_cons, List.map_nil, hx, hy, go_sem]
  show Oper.upon Try.prog o a K Q (Sem.run Try.prog (callFunc 35 (#[] ++ #[a.eval x, a.eval y] ++ #[])) w)
  rw [show (#[] ++ #[a.eval x, a.eval y] ++ #[] : Array Value) = #[u, v] by simp [hx, hy], he, Oper.upon_enter]
  refine hc.mono ?_
  intro e w' hR
  obtain ⟨r, rfl, hk⟩ := h e w' hR
  show K (a.put o.dst r) w'
  rw [hd]
  exact hk
/-- All that is so while a piece's numbers are gathered. -/
structure Rj (w wr : World) (how : Int) (l : List Tm) (j : Nat) (ae : Option Addr) (ce : Nat) (ov : Value) (ps : List Pc) (xb : Nat) (x y : ByteArray) (qa : Option Addr) (qn qc : Nat) (q : List Int) : Prop where
  ro : Ro wr w.heap.size ov ps (frsTo how l j)
  kk : RdC sc 1 wr ae ce (keysOf how l)
  bl : Below w.heap.size w wr
  bx : Blk wr xb 63 [.string x, .string y, .slice qa qn qc]
  qq : RowU wr w.heap.size (.slice qa qn qc) q
  xw : w.heap.size ≤ xb
  xo : ov.ownBlock ≠ some xb
  xk : ∀ g o, ae = some ⟨g, o, none⟩ → keysOf how l ≠ [] → g ≠ xb
theorem Rj.below {w wr wr' : World} {how : Int} {l : List Tm} {j : Nat} {ae : Option Addr} {ce : Nat} {ov : Value} {ps : List Pc} {xb : Nat} {x y : ByteArray} {qa : Option Addr} {qn qc : Nat} {q : List Int} (h : Rj w wr how l j ae ce ov ps xb x y qa qn qc q) (hb : Below wr.heap.size wr wr') : Rj w wr' how l j ae ce ov ps xb x y qa qn qc q :=
  ⟨h.ro.below hb, h.kk.below hb, h.bl.trans (hb.mono h.bl.size), h.bx.upd (S := Non) (Upd.ofBelow hb) (fun h => h), row_upd h.qq (S := Non) (Upd.ofBelow hb) (fun _ _ h => h), h.xw, h.xo, h.xk⟩
theorem Rj.put {w wr wr' : World} {how : Int} {l : List Tm} {j : Nat} {ae : Option Addr} {ce : Nat} {ov : Value} {ps : List Pc} {xb : Nat} {x y : ByteArray} {qa : Option Addr} {qn qc : Nat} {q : List Int} (h : Rj w wr how l j ae ce ov ps xb x y qa qn qc q) (hb : Below wr.heap.size wr wr') {a : Option Addr} {n c : Nat} {q' : List Int} (hq : RowU wr' w.heap.size (.slice a n c) q') :
    Rj w (wr'.setCell ⟨xb, 2, none⟩ (.slice a n c)) how l j ae ce ov ps xb x y a n c q' := by
  have h' := h.below hb
  have U : Upd (fun k => k = xb) wr' (wr'.setCell ⟨xb, 2, none⟩ (.slice a n c)) := Upd.setCell (p := ⟨xb, 2, none⟩) (Upd.refl (fun k => k = xb) _) (fun _ => rfl) _
  refine ⟨h'.ro.upd U (fun k hk e => ?_), ⟨?_, h'.kk.cap, h'.kk.nn⟩, ⟨h'.bl.os, h'.bl.tape, h'.bl.output, Nat.le_trans h'.bl.size U.size, fun k hk => ?_⟩, h'.bx.set 2 _, row_upd hq U (fun k hk e => ?_), h.xw, h.xo, h.xk⟩
  · subst e
    rcases hk with hk | ⟨p, hp, hk⟩
    · exact h.xo hk
    · obtain ⟨i, hi, e⟩ := List.getElem_of_mem hp
      obtain ⟨f, hf⟩ : ∃ f, (frsTo how l j)[i]? = some f := ⟨_, List.getElem?_eq_getElem (by rw [← h.ro.len]; exact hi)⟩
      exact row_ne (h'.ro.at_ i p f (by rw [List.getElem?_eq_getElem hi, e]) hf).2.2 h'.bx (by decide) k hk rfl
  · by_cases hk : keysOf how l = []
    · exact .inl hk
    · exact h'.kk.rd.upd U (fun g o e => h.xk g o e hk)
  · rw [U.block k (Nat.lt_of_lt_of_le hk h'.bl.size) (fun e => by have := h.xw; omega)]; exact h'.bl.block k hk
  · subst e
    exact row_ne hq h'.bx (by decide) k hk rfl
theorem keep2c {w w' : World} (hb : Below w.heap.size w w') {a b a' b' : Nat} {v0 v1 : Value} (h : w.cell? ⟨a, a', none⟩ = some v0 ∧ w.cell? ⟨b, b', none⟩ = some v1) : w'.cell? ⟨a, a', none⟩ = some v0 ∧ w'.cell? ⟨b, b', none⟩ = some v1 := ⟨cell_below hb h.1, cell_below hb h.2⟩
set_option maxRecDepth 100000 in
set_option maxHeartbeats 800000 in
theorem rSplit_any {w : World} {a : Option Addr} {cap : Nat} {l : List Tm} (h : RdT w a l) (how : Int) :
    Calls Try.prog 9 #[.int .i64 how, .slice a l.length cap] w fun e w' => ∃ a' c, e = .returned (.tuple #[.slice a' (sL how l).length c, .int .i64 (splE how l)]) ∧ (sL how l).length ≤ c ∧ RdF w' a' (sL how l) ∧ Below w.heap.size w w' := by
  have H : Hid (RdT w a l) := h
  have HC := rcheck_any (cap := cap) h how
  obtain ⟨E, hE⟩ : ∃ E, Hid (splE how l = E) := ⟨_, rfl⟩
  obtain ⟨LR, hLR⟩ : ∃ LR, Hid (sL how l = LR) := ⟨_, rfl⟩
  rw [hE.out] at HC
  rw [hE.out, hLR.out]
  have HLen : Hid (E = 0 → l.length ≤ 1024 ∧ LR = frs how l) := fun h0 => ⟨(splE_len (hE.out.trans h0)).1, by rw [← hLR.out]; unfold sL; rw [hE.out, if_pos h0]⟩
  have HLn0 : Hid (E ≠ 0 → LR = []) := fun h0 => by rw [← hLR.out]; unfold sL; rw [hE.out, if_neg h0]
  obtain ⟨N, hN⟩ : ∃ N, Hid (l.length = N) := ⟨_, rfl⟩
  rw [hN.out] at HC HLen ⊢
  clear h
  by_cases h0 : E = 0
  · subst h0
    obtain ⟨hN1, hLf⟩ := HLen.out rfl
    have HLf : Hid (LR = frs how l) := hLf
    clear HLen HLn0 hLf
    obtain ⟨W0, hW0⟩ : ∃ W0, W0 = w.alloc (.cells #[] 9) := ⟨_, rfl⟩
    have b0 : Below w.heap.size w W0 := by rw [hW0]; exact (Below.refl _ _).alloc (Nat.le_refl _) _
    have HS0 : Hid (RdC sc 1 W0 (some ⟨w.heap.size, 0, none⟩) 0 [] ∧ Below w.heap.size w W0) := ⟨⟨.inl rfl, by simp, fun e => by cases e⟩, b0⟩
    clear b0
    go_enter Try.func9, Try.ntmps9
    go_upto_region 5 with (go_at_call 28; refine HC.mono ?_; rintro e w1 ⟨rfl, hw⟩; have hw' := hw.symm; subst hw')
    rw [← hW0]
    clear hW0 HC
    go_wp2_with fail
    go_loopw [7, 8] (fun s7 s8 wr => ∃ (k : Nat) (ae : Option Addr) (ce : Nat) (KN : Nat), k ≤ N ∧ s8 = .int .i64 k ∧ s7 = .slice ae KN ce ∧ Hid (KN = (keysOf how (l.take k)).length ∧ RdC sc 1 wr ae ce (keysOf how (l.take k)) ∧ Below w.heap.size w wr)) (fun _ s8 _ => ((N : Int) - intOf s8).toNat)
    case atStart => exact ⟨0, _, _, 0, Nat.zero_le _, rfl, rfl, rfl, HS0.out⟩
    case round =>
      obtain ⟨k, ae, ce, KN, hk, rfl, rfl, HB⟩ := hrel
      rcases Nat.lt_or_ge k N with hkN | hkN
      · have hkz : (k : Int) < N := by omega
        obtain ⟨t, ht⟩ : ∃ t, l[k]? = some t := ⟨_, List.getElem?_eq_getElem (by rw [hN.out]; exact hkN)⟩
        obtain ⟨g, o, rfl, hat⟩ := (H.out.below HB.out.2.2).at_ ht
        obtain ⟨t0, t1, t2⟩ := hat.t
        have HK : Hid (keysOf how (l.take (k + 1)) = if lies how t = true then insG (kl how) (insG (kl how) (keysOf how (l.take k)) t.b) t.e else keysOf how (l.take k)) := keysOf_step how l k t ht
        have hKl : (keysOf how (l.take k)).length ≤ 2048 := by have := keysOf_len how (l.take k); simp at this; omega
        clear hat ht t2
        cases hlt : lies how t
        · have hd : decide (cmpH how t.b t.e < 0) = false := hlt
          have HE : Hid (∀ n, KN = (keysOf how (l.take (k + 1))).length ∧ RdC sc 1 (wr.drewN n) ae ce (keysOf how (l.take (k + 1))) ∧ Below w.heap.size w (wr.drewN n)) := fun n => by
            rw [HK.out, hlt]
            exact ⟨HB.out.1, HB.out.2.1.below (belN (Below.refl _ _) n), belN HB.out.2.2 n⟩
          clear hKl
          go_wp2_with fail
          go_quiet ((go_at_call 26; exact Calls.quiet_of_same (rcmp_any _ _ _ _)))
          go_wp2_with fail
          go_roundw
          case rel => exact ⟨k + 1, ae, ce, KN, by omega, by go_num, rfl, HE.out _⟩
          case measure => simp [intOf]; omega
        · have hd : decide (cmpH how t.b t.e < 0) = true := hlt
          go_wp2_with fail
          go_quiet ((go_at_call 26; exact Calls.quiet_of_same (rcmp_any _ _ _ _)))
          have HB6 : Hid (KN = (keysOf how (l.take k)).length ∧ RdC sc 1 (wr.drewN nq) ae ce (keysOf how (l.take k)) ∧ Below w.heap.size w (wr.drewN nq)) := ⟨HB.out.1, HB.out.2.1.below (belN (Below.refl _ _) _), belN HB.out.2.2 _⟩
          have t0' : (wr.drewN nq).cell? ⟨g, o + k * 3, none⟩ = some (.string t.b) := t0
          have t1' : (wr.drewN nq).cell? ⟨g, o + k * 3 + 1, none⟩ = some (.string t.e) := t1
          clear t0 t1
          generalize wr.drewN nq = W6 at *
          have HW1 : Hid (Calls Try.prog 34 #[.int .i64 how, .slice ae KN ce, .string t.b] W6.drew fun e w' => ∃ a' c' M, e = .returned (.slice a' M c') ∧ M = (insG (kl how) (keysOf how (l.take k)) t.b).length ∧ RdC sc 1 w' a' c' (insG (kl how) (keysOf how (l.take k)) t.b) ∧ Below W6.drew.heap.size W6.drew w') := by
            have := with_any (HB6.out.2.1.below (Below.refl _ _).drew) t.b (by omega) (how := how)
            rw [← HB6.out.1] at this
            refine this.mono ?_
            rintro e w' ⟨a', c', rfl, q1, q2, _⟩
            exact ⟨a', c', _, rfl, rfl, q1, q2⟩
          have HW2 : Hid (∀ (W : World) a' c' M, M = (insG (kl how) (keysOf how (l.take k)) t.b).length → RdC sc 1 W a' c' (insG (kl how) (keysOf how (l.take k)) t.b) → Calls Try.prog 34 #[.int .i64 how, .slice a' M c', .string t.e] W fun e w' => ∃ a'' c'' M', e = .returned (.slice a'' M' c'') ∧ M' = (keysOf how (l.take (k + 1))).length ∧ RdC sc 1 w' a'' c'' (keysOf how (l.take (k + 1))) ∧ Below W.heap.size W w') := by
            intro W a' c' M hM hR
            subst hM
            rw [HK.out, hlt, if_pos rfl]
            refine (with_any hR t.e (by have := insG_len (kl how) (keysOf how (l.take k)) t.b; omega) (how := how)).mono ?_
            rintro e w' ⟨a'', c'', rfl, q1, q2, _⟩
            exact ⟨a'', c'', _, rfl, rfl, q1, q2⟩
          go_wp2_with fail
          go_region_held_law (fun w' => w'.cell? ⟨g, o + k * 3, none⟩ = some (.string t.b) ∧ w'.cell? ⟨g, o + k * 3 + 1, none⟩ = some (.string t.e))
            (first | (go_keep; done) | exact keep2c hb7 ‹_› | exact keep2c hb8 ‹_›)
            (first
              | (go_at_call_of 34 (Value.slice ae KN ce); refine HW1.out.mono ?_; rintro e w7 ⟨a7, c7, M7, rfl, m7, q7, hb7⟩
                 have HM7 : Hid (M7 = (insG (kl how) (keysOf how (l.take k)) t.b).length ∧ RdC sc 1 w7 a7 c7 (insG (kl how) (keysOf how (l.take k)) t.b)) := ⟨m7, q7⟩
                 clear m7 q7)
              | (have hx := HM7; clear hx; go_at_call 34; refine (HW2.out w7 a7 c7 M7 HM7.out.1 HM7.out.2).mono ?_; rintro e w8 ⟨a8, c8, M8, rfl, m8, q8, hb8⟩
                 have HM8 : Hid (M8 = (keysOf how (l.take (k + 1))).length ∧ RdC sc 1 w8 a8 c8 (keysOf how (l.take (k + 1)))) := ⟨m8, q8⟩
                 clear m8 q8))
          have HB8 : Hid (M8 = (keysOf how (l.take (k + 1))).length ∧ RdC sc 1 w8 a8 c8 (keysOf how (l.take (k + 1))) ∧ Below w.heap.size w w8) := ⟨HM8.out.1, HM8.out.2, (HB6.out.2.2.drew.trans (hb7.mono HB6.out.2.2.drew.size)).trans (hb8.mono (Nat.le_trans HB6.out.2.2.drew.size hb7.size))⟩
          clear hb7 hb8 hKl
          go_wp2_with fail
          go_roundw
          case rel => exact ⟨k + 1, a8, c8, M8, by omega, by go_num, rfl, HB8.out⟩
          case measure => simp [intOf]; omega
      · obtain rfl : k = N := by omega
        have hz : ¬ ((k : Int) < k) := by omega
        have HK0 : Hid (KN = (keysOf how l).length ∧ RdC sc 1 wr ae ce (keysOf how l) ∧ Below w.heap.size w wr) := by
          have := HB.out
          rw [List.take_of_length_le (by rw [hN.out]; omega)] at this
          exact this
        have hKN : KN ≤ 2048 := by have h1 := HK0.out.1; have h2 := keysOf_len how l; have h3 := hN.out; omega
        clear HB
        have hbo : Below wr.heap.size wr (wr.alloc (.cells #[] 63)) := (Below.refl _ _).alloc (Nat.le_refl _) _
        have HR0 : Hid ((∀ g o, ae = some ⟨g, o, none⟩ → keysOf how l ≠ [] → (Value.slice (some ⟨wr.heap.size, 0, none⟩) 0 0).ownBlock ≠ some g) ∧ Ro (wr.alloc (.cells #[] 63)) w.heap.size (.slice (some ⟨wr.heap.size, 0, none⟩) 0 0) [] (frsTo how l 0) ∧ RdC sc 1 (wr.alloc (.cells #[] 63)) ae ce (keysOf how l) ∧ Below w.heap.size w (wr.alloc (.cells #[] 63))) := by
          refine ⟨fun g o e hne he => ?_, ⟨?_, by simp [frsTo], fun i p f hp => by simp at hp⟩, HK0.out.2.1.below hbo, HK0.out.2.2.trans (hbo.mono HK0.out.2.2.size)⟩
          · cases he
            obtain ⟨z, hz⟩ := List.exists_mem_of_ne_nil _ hne
            obtain ⟨i, hi, e1⟩ := List.getElem_of_mem hz
            obtain ⟨g', o', e2, hat⟩ := HK0.out.2.1.rd.at_ (List.getElem?_eq_getElem hi)
            rw [e] at e2
            cases e2
            have := cell_lt hat.s1
            exact Nat.lt_irrefl _ this
          · have := World.ownsRow_made (base := w.heap.size) (e := 63) (size := 3) wr #[] 0 HK0.out.2.2.size (by unfold maxLen; omega) rfl
            exact this
        clear hbo
        go_wp2_with fail
        clear hz
        go_loopw [9, 10] (fun s9 s10 wr => ∃ (j : Nat) (oa : Option Addr) (on oc : Nat) (ps : List Pc), j ≤ 2048 ∧ s10 = .int .i64 j ∧ s9 = .slice oa on oc ∧ (j = 0 ∨ j < KN) ∧ Hid ((∀ g o, ae = some ⟨g, o, none⟩ → keysOf how l ≠ [] → (Value.slice oa on oc).ownBlock ≠ some g) ∧ Ro wr w.heap.size (.slice oa on oc) ps (frsTo how l j) ∧ RdC sc 1 wr ae ce (keysOf how l) ∧ Below w.heap.size w wr)) (fun _ s10 _ => (2048 - intOf s10).toNat)
        case atStart => exact ⟨0, _, _, _, [], by omega, rfl, rfl, .inl rfl, HR0.out⟩
        case round =>
          clear HR0
          obtain ⟨j, oa, on, oc, ps, hj, rfl, rfl, hj0, HJ⟩ := hrel
          rcases Nat.lt_or_ge (j + 1) KN with hjN | hjN
          · have hjz : (j : Int) + 1 < KN := by omega
            have hjz0 : (j : Int) < KN := by omega
            have h0j : (0 : Int) ≤ (j : Int) + 1 := by omega
            have hwj : IntKind.i64.wrap ((j : Int) + 1) = (j : Int) + 1 := by rw [IntKind.wrap_i64]; omega
            obtain ⟨x, hx⟩ : ∃ x, (keysOf how l)[j]? = some x := ⟨_, List.getElem?_eq_getElem (by rw [← HK0.out.1]; omega)⟩
            obtain ⟨y, hy⟩ : ∃ y, (keysOf how l)[j + 1]? = some y := ⟨_, List.getElem?_eq_getElem (by rw [← HK0.out.1]; omega)⟩
            obtain ⟨ge, oe, hae, hatx⟩ := HJ.out.2.2.1.rd.at_ hx
            obtain ⟨ge', oe', hae', haty⟩ := HJ.out.2.2.1.rd.at_ hy
            rw [hae] at hae'
            cases hae'
            have x0 := hatx.s1
            have y0 := haty.s1
            rw [Nat.mul_one] at x0 y0
            have HXY : Hid ((pcs (keysOf how l))[j]? = some (x, y) ∧ (keysOf how l)[j]? = some x) := ⟨pcs_get.2 ⟨hx, hy⟩, hx⟩
            have HKO : Hid ((Value.slice oa on oc).ownBlock ≠ some ge) := HJ.out.1 ge oe hae (fun e => by rw [e] at hx; simp at hx)
            have hgl : ge < wr.heap.size := by have := cell_lt x0; exact this
            subst hae
            have HJ0 : Hid (∀ W, W = wr.drew.alloc (.cells #[.string x, .string y, .slice none 0 0] 63) → Rj w W how l j (some ⟨ge, oe, none⟩) ce (.slice oa on oc) ps wr.heap.size x y none 0 0 []) := by
              rintro W rfl
              have hb1 : Below wr.heap.size wr (wr.drew.alloc (.cells #[.string x, .string y, .slice none 0 0] 63)) := (Below.refl _ _).drew.alloc (Nat.le_refl _) _
              refine ⟨HJ.out.2.1.below hb1, HJ.out.2.2.1.below hb1, HJ.out.2.2.2.trans (hb1.mono HJ.out.2.2.2.size), Blk.new wr.drew 63 [.string x, .string y, .slice none 0 0], World.ownsRow_nil _ _ _ _, HJ.out.2.2.2.size, fun e => ?_, fun g o e _ => by cases e; omega⟩
              have := (row_blk HJ.out.2.1.row _ e).2; omega
            clear hx hy hatx haty
            obtain ⟨W0, rfl⟩ : ∃ W0, W0 = wr := ⟨_, rfl⟩
            go_wp2_with fail
            go_cut [11] (fun s11 W => s11 = .pointer (some ⟨W0.heap.size, 0, none⟩) ∧ Hid (Rj w W how l j (some ⟨ge, oe, none⟩) ce (.slice oa on oc) ps W0.heap.size x y none 0 0 []))
            case first =>
              go_region
              all_goals
                go_wp2_with fail
                go_meet
                exact ⟨rfl, HJ0.out _ rfl⟩
            case rest =>
              obtain ⟨rfl, HC0⟩ := hcut
              clear HJ0 x0 y0
              obtain ⟨xb, hxb⟩ : ∃ xb, Hid (W0.heap.size = xb) := ⟨_, rfl⟩
              rw [hxb.out] at HC0 ⊢
              go_wp2_with fail
              go_loopw [12] (fun s12 wr => ∃ (m : Nat) (qa : Option Addr) (qn qc : Nat), m ≤ k ∧ s12 = .int .i64 m ∧ Hid (Rj w wr how l j (some ⟨ge, oe, none⟩) ce (.slice oa on oc) ps xb x y qa qn qc (seqsAt how (l.take m) x))) (fun s12 _ => ((k : Int) - intOf s12).toNat)
              case atStart => exact ⟨0, none, 0, 0, Nat.zero_le _, rfl, HC0.out⟩
              case round =>
                clear HC0
                obtain ⟨m, qa, qn, qc, hm, rfl, HM⟩ := hrel
                rcases Nat.lt_or_ge m k with hmk | hmk
                · have hmz : (m : Int) < k := by omega
                  obtain ⟨t, ht⟩ : ∃ t, l[m]? = some t := ⟨_, List.getElem?_eq_getElem (by rw [hN.out]; exact hmk)⟩
                  obtain ⟨g, o, rfl, hat⟩ := (H.out.below HM.out.bl).at_ ht
                  obtain ⟨t0, t1, t2⟩ := hat.t
                  obtain ⟨ge', oe', e', hatx⟩ := HM.out.kk.rd.at_ HXY.out.2
                  cases e'
                  have x0 := hatx.s1
                  rw [Nat.mul_one] at x0
                  have HSt : Hid (seqsAt how (l.take (m + 1)) x = if ovr how t x = true then insG gt (seqsAt how (l.take m) x) t.s else seqsAt how (l.take m) x) := seqsAt_step how l x m t ht
                  have HOv : Hid (Calls Try.prog 29 #[.int .i64 how, t.v, .string x] wr.drew fun e w' => e = .returned (.bool (ovr how t x)) ∧ Below wr.drew.heap.size wr.drew w') := over_any how t x _
                  obtain ⟨V, hV⟩ : ∃ V, Hid (ovr how t x = V) := ⟨_, rfl⟩
                  rw [hV.out] at HOv HSt
                  clear ht hat hatx
                  go_wp2_with fail
                  go_region_held_law (fun w' => w'.cell? ⟨g, o + m * 3, none⟩ = some (.string t.b) ∧ w'.cell? ⟨g, o + m * 3 + 1, none⟩ = some (.string t.e) ∧ w'.cell? ⟨g, o + m * 3 + 2, none⟩ = some (.int .u64 t.s) ∧ w'.cell? ⟨ge, oe + j, none⟩ = some (.string x))
                    (first | (go_keep; done) | exact keep4b hb3 ‹_›)
                    ((go_at_call 29; refine HOv.out.mono ?_; rintro e w4 ⟨rfl, hb3⟩))
                  have hb4 : Below wr.heap.size wr w4 := (Below.refl _ _).drew.trans hb3
                  have HM4 : Hid (Rj w w4 how l j (some ⟨ge, oe, none⟩) ce (.slice oa on oc) ps xb x y qa qn qc (seqsAt how (l.take m) x)) := HM.out.below hb4
                  have t2' := cell_below hb4 t2
                  clear hb3 hb4 t0 t1 t2 x0
                  cases V
                  · go_wp2_with fail
                    go_roundw
                    case rel => exact ⟨m + 1, qa, qn, qc, by omega, by go_num, by rw [HSt.out]; exact HM4.out⟩
                    case measure => simp [intOf]; omega
                  · have b2 := HM4.out.bx.cell1 2 _ rfl
                    have hql : (seqsAt how (l.take m) x).length ≤ 10000 := by have := seqsAt_len how (l.take m) x; simp at this; omega
                    have HSq : Hid (Calls Try.prog 35 #[.slice qa qn qc, .int .u64 t.s] w4.drew fun e w' => ∃ v', e = .returned v' ∧ RowU w' w.heap.size v' (insG gt (seqsAt how (l.take m) x) t.s) ∧ Below w4.drew.heap.size w4.drew w') := seqs_row (row_upd HM4.out.qq (S := Non) (Upd.ofBelow ((Below.refl _ _).drew)) (fun _ _ h => h)) HM4.out.bl.size t.s (by omega)
                    have HPut : Hid (∀ w7 v', RowU w7 w.heap.size v' (insG gt (seqsAt how (l.take m) x) t.s) → Below w4.drew.heap.size w4.drew w7 → ∃ a n c, v' = .slice a n c ∧ w7.cell? ⟨xb, 2, none⟩ = some (.slice qa qn qc) ∧ w7.frozen? ⟨xb, 2, none⟩ = false ∧ Hid (Rj w (w7.setCell ⟨xb, 2, none⟩ (.slice a n c)) how l j (some ⟨ge, oe, none⟩) ce (.slice oa on oc) ps xb x y a n c (seqsAt how (l.take (m + 1)) x))) := by
                      intro w7 v' r1 r2
                      obtain ⟨a, c, hv⟩ := row_slice r1
                      generalize hnn : (insG gt (seqsAt how (l.take m) x) t.s).length = n at hv
                      subst hv
                      have hb47 : Below w4.heap.size w4 w7 := (Below.refl _ _).drew.trans r2
                      refine ⟨a, n, c, rfl, cell_below hb47 b2, (HM4.out.below hb47).bx.frozen 2, ?_⟩
                      rw [HSt.out, if_pos rfl]
                      exact HM4.out.put hb47 r1
                    clear hql
                    go_wp2_with fail
                    go_region_law (first
                      | (refine step_call35 (by rfl) (by rfl) _ _ _ (by rfl) _ _ (by rfl) (by rfl) HSq.out ?_
                         rintro e w7 ⟨v', rfl, r1, r2⟩
                         obtain ⟨a7, m7, c7, rfl, k1, k2, HF7⟩ := HPut.out w7 v' r1 r2
                         refine ⟨_, rfl, ?_⟩
                         clear r1 r2))
                    all_goals
                      go_wp2_with fail
                      go_roundw
                      case rel => exact ⟨m + 1, a7, m7, c7, by omega, by go_num, HF7.out⟩
                      case measure => simp [intOf]; omega
                · obtain rfl : m = k := by omega
                  have hz : ¬ ((m : Int) < m) := by omega
                  have HM' : Hid (Rj w wr how l j (some ⟨ge, oe, none⟩) ce (.slice oa on oc) ps xb x y qa qn qc (seqsAt how l x)) := by
                    have := HM.out
                    rw [List.take_of_length_le (by rw [hN.out]; omega)] at this
                    exact this
                  clear HM
                  have b0 := HM'.out.bx.cell1 0 _ rfl
                  have b1 := HM'.out.bx.cell1 1 _ rfl
                  have b2 := HM'.out.bx.cell1 2 _ rfl
                  have hqn : qn = (seqsAt how l x).length := by
                    obtain ⟨_, _, e⟩ := row_slice HM'.out.qq
                    injection e with _ e _
                  have HFr : Hid (frsTo how l (j + 1) = frsTo how l j ++ (if (seqsAt how l x).isEmpty = true then [] else [⟨x, y, seqsAt how l x⟩])) := frsTo_step HXY.out.1
                  have HQN : Hid (qn = (seqsAt how l x).length) := hqn
                  rcases Nat.eq_zero_or_pos qn with hq0 | hq0
                  · have hqz : ¬ ((0 : Int) < qn) := by omega
                    have hqe : (seqsAt how l x).isEmpty = true := by rw [List.isEmpty_iff_length_eq_zero, ← hqn]; exact hq0
                    clear hqn hq0
                    go_wp2_with fail
                    go_roundw
                    case rel =>
                      refine ⟨j + 1, oa, on, oc, ps, by omega, by go_num, rfl, .inr hjN, fun g o e _ => by cases e; exact HKO.out, ?_, HM'.out.kk, HM'.out.bl⟩
                      rw [HFr.out, hqe, if_pos rfl, List.append_nil]
                      exact HM'.out.ro
                    case measure => simp [intOf]; omega
                  · have hqz : (0 : Int) < qn := by omega
                    have hqe : (seqsAt how l x).isEmpty = false := by
                      cases e : (seqsAt how l x).isEmpty
                      · rfl
                      · rw [List.isEmpty_iff_length_eq_zero] at e; omega
                    have hfl := frsTo_len how l j
                    have hpl := HM'.out.ro.len
                    have hq9 : RowU wr w.heap.size (.slice qa (seqsAt how l x).length qc) (seqsAt how l x) := by rw [← hqn]; exact HM'.out.qq
                    obtain ⟨v9, w9, hr9, g1, g2, g3⟩ := Ro.push (f := ⟨x, y, seqsAt how l x⟩) HM'.out.ro HM'.out.bl.size hq9 (by rw [hpl]; have := hN.out; omega)
                    have HP9 : Hid ((∀ g o, (some ⟨ge, oe, none⟩ : Option Addr) = some ⟨g, o, none⟩ → keysOf how l ≠ [] → v9.ownBlock ≠ some g) ∧ Ro w9 w.heap.size v9 (ps ++ [⟨x, y, qa, (seqsAt how l x).length, qc⟩]) (frsTo how l (j + 1)) ∧ RdC sc 1 w9 (some ⟨ge, oe, none⟩) ce (keysOf how l) ∧ Below w.heap.size w w9) := by
                      refine ⟨fun g o e _ => ?_, by rw [HFr.out, hqe]; exact g1, ?_, ?_⟩
                      · cases e
                        rcases g3 with g3 | ⟨k9, g3, g4⟩
                        · rw [g3]; exact HKO.out
                        · rw [g3]
                          intro e
                          cases e
                          obtain ⟨_, _, e', hatx⟩ := HM'.out.kk.rd.at_ HXY.out.2
                          cases e'
                          have := cell_lt hatx.s1
                          exact absurd this (Nat.not_lt.2 g4)
                      · refine ⟨HM'.out.kk.rd.upd g2 (fun g o e hg => ?_), HM'.out.kk.cap, HM'.out.kk.nn⟩
                        cases e
                        exact HKO.out (hg)
                      · exact HM'.out.bl.trans (g2.below (fun k hk => Nat.lt_of_lt_of_le hk HM'.out.bl.size) (fun j hj => (row_blk HM'.out.ro.row j hj).1))
                    obtain ⟨v9a, v9c, hv9⟩ := row_slice g1.row
                    generalize hMN : (ps ++ [(⟨x, y, qa, (seqsAt how l x).length, qc⟩ : Pc)]).length = MN at hv9
                    subst hv9
                    rw [← hqn] at hr9
                    clear hqn hq0 g1 g2 g3 hq9 hfl hpl
                    go_wp2_with (at_builtin; refine Lib.wpList_append_run _ rfl _ _ _ _ rfl _ _ rfl rfl _ _ hr9 ?_)
                    go_roundw
                    case rel => exact ⟨j + 1, v9a, MN, v9c, _, by omega, by go_num, rfl, .inr hjN, HP9.out⟩
                    case measure => simp [intOf]; omega
          · have hjz : ¬ ((j : Int) + 1 < KN) := by omega
            have hwj : IntKind.i64.wrap ((j : Int) + 1) = (j : Int) + 1 := by rw [IntKind.wrap_i64]; omega
            have HEnd : Hid (∃ a c, (Value.slice oa on oc) = .slice a LR.length c ∧ LR.length ≤ c ∧ RdF wr a LR ∧ Below w.heap.size w wr) := by
              have hfr : frsTo how l j = LR := by
                rw [HLf.out]
                unfold frsTo frs
                rw [List.take_of_length_le (by rw [pcs_len, ← HK0.out.1]; omega)]
              have hro := HJ.out.2.1
              rw [hfr] at hro
              obtain ⟨a, c, e, h1, h2⟩ := hro.rdf
              exact ⟨a, c, e, h1, h2, HJ.out.2.2.2⟩
            obtain ⟨a9, c9, e9, h9⟩ := HEnd.out
            injection e9 with e1 e2 e3
            subst e1 e3
            have HE9 : Hid (on = LR.length) := e2
            have H9 : Hid (LR.length ≤ oc ∧ RdF wr oa LR ∧ Below w.heap.size w wr) := h9
            clear HEnd h9 e2
            go_wp2_with fail
            go_ret2
            rw [← HE9.out]
            have h9' := H9.out
            rw [← HE9.out] at h9'
            first | exact ⟨oa, oc, rfl, h9'⟩ | exact ⟨oa, ⟨oc, rfl⟩, h9'⟩
  · have hL0 := HLn0.out h0
    subst hL0
    have hne : (E != 0) = true := by simpa using h0
    clear HLen HLn0 h0
    go_enter Try.func9, Try.ntmps9
    go_wp2_with (go_at_call 28; refine HC.mono ?_; rintro e w1 ⟨rfl, hw⟩; have hw' := hw.symm; subst hw')
    go_ret2
    first | exact ⟨none, 0, rfl, Nat.zero_le _, rdf_nil _ _, Below.refl _ _⟩ | exact ⟨none, ⟨0, rfl⟩, rdf_nil _ _, Below.refl _ _⟩
end Go.Proofs.Ytagnnocecfoggaa
