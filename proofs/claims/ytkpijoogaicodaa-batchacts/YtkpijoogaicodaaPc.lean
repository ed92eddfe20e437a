import Derived.Test.YtkpijoogaicodaaGc
import Derived.Test.YtkpijoogaicodaaPa
import Derived.Test.YtkpijoogaicodaaGb
namespace Go.Proofs.Ytkpijoogaicodaa
open Go.RowKit
set_option linter.unusedVariables false
set_option linter.unusedSimpArgs false

theorem RdR.take {w : World} {a : Option Addr} {n c : Nat} {l : List Rec} (h : RdR w (.slice a n c) l) (m : Nat) (hm : m ≤ l.length) : RdR w (.slice a m c) (l.take m) := by
  rcases h with ⟨a', c', hv, rfl⟩ | ⟨b, off, cap, hv, hb, hc⟩
  · cases hv
    have : m = 0 := by simpa using hm
    subst this
    exact .inl ⟨_, _, rfl, rfl⟩
  · cases hv
    have hl : (l.take m).length = m := by rw [List.length_take]; omega
    refine .inr ⟨b, off, c, by rw [hl], hb, fun j hj => ?_⟩
    have hj' : j < m := by omega
    rw [List.getElem_take]
    exact hc j (by omega)
theorem elem41 : Try.prog.elem 41 = 3 := by kernel_rfl
theorem slc41 : Try.prog.underlying 41 = some (.slice (Try.prog.elem 41)) := by rw [elem41]; exact Try.underlying41
theorem cut_marks (a : Option Addr) (n cap m : Nat) (h : m ≤ cap) (W : World) : (Instr.sliceAt 41 (.slice a n cap) none (some (.int .i64 m)) none).run Try.prog W = .ok (.slice a m cap) W := by
  have hs : (sizeOf 3).run Try.prog W = .ok 1 W := by kernel_rfl
  have hr := run_slice_h (P := Try.prog) W 41 a n cap slc41 .i64 (m : Int) (by omega) (by omega)
  rw [elem41, hs] at hr
  simp only [Result.andThen, sliced, Int.toNat_natCast] at hr
  rw [run_sliceAt_slice _ _ _ _ _ _ slc41, hr]
  cases a <;> simp [Addr.add]
set_option maxRecDepth 100000 in
set_option maxHeartbeats 800000 in
/-- The reference's Pop: the mark away, and, if it is to be, all that was added behind it. -/
theorem qpop_any {w : World} {q : Nat} {rv mv : Value} {rs : List Rec} {ms : List Nat} {m : Nat} (h : Qt w q rv mv rs (ms ++ [m])) (hm : m ≤ rs.length) (all : Bool) :
    Calls Try.prog 48 #[ptr q, .bool all] w fun e w' => ∃ rv' mv', e = .returned (.int .i64 0) ∧ Qt w' q rv' mv' (if all = true then rs.take m else rs) ms ∧ Upd (fun k => k = q) w w' ∧ rv'.ownBlock = rv.ownBlock ∧ mv'.ownBlock = mv.ownBlock := by
  obtain ⟨g, mc, hmv, hcm⟩ := marks_last h.marks
  obtain ⟨ra, rc, hrv⟩ := h.row.len
  subst hmv hrv
  have c0 := h.blk.cell1 0 _ rfl
  have c1 := h.blk.cell1 1 _ rfl
  have f0 := h.blk.frozen 0
  have f1 := h.blk.frozen 1
  obtain ⟨hcm, hc1, hc2⟩ := hcm
  have hc3 : (ms.length : Int) ≤ 9223372036854775806 := by unfold maxLen at hc2; omega
  have e1 : wrap64 (ms.length : Int) = ms.length := by unfold wrap64; omega
  have k1 := fun W => cut_marks (some ⟨g, 0, none⟩) (ms.length + 1) mc ms.length (by omega) W
  have hrc : rs.length ≤ rc := h.cap _ _ _ rfl
  have hms := row_short (show w.ownsRow 0 3 1 (.slice (some ⟨g, 0, none⟩) (ms.length + 1) mc) (ms.length + 1) (imc (ms ++ [m])) by have := h.marks; simpa using this) ms.length (by omega)
  have e : (imc (ms ++ [m])).take (ms.length * 1) = imc ms := by rw [imc_app, Nat.mul_one, List.take_left' (imc_len ms)]
  rw [e] at hms
  clear e hc2 hc3
  have nmb := row_ne h.marks h.blk (by decide)
  obtain ⟨L, hL⟩ : ∃ L, (if all = true then rs.take m else rs) = L := ⟨_, rfl⟩
  rw [hL]
  have HL : Hid ((if all = true then rs.take m else rs) = L) := hL
  clear hL
  cases all with
  | false =>
    go_enter Try.func48, Try.ntmps48
    go_wp2
    go_ret
    have hl : rs = L := HL.out
    subst hl
    have U2 : Upd (fun k => k = q) w (w.setCell ⟨q, 1, none⟩ (.slice (some ⟨g, 0, none⟩) ms.length mc)) := Upd.setCell (p := ⟨q, 1, none⟩) (Upd.refl (fun k => k = q) w) (fun _ => rfl) _
    exact ⟨.slice ra rs.length rc, .slice (some ⟨g, 0, none⟩) ms.length mc, rfl, ⟨h.blk.set 1 _, h.row.upd U2 (fun k hk e => h.ne (by rw [hk, e])), row_upd hms U2 (fun k hk e => nmb k hk e), h.ne, h.cap, fun k hk => Nat.lt_of_lt_of_le (h.lt k hk) U2.size⟩, U2, rfl, rfl⟩
  | true =>
    have k2 := fun W => cut_hi ra rs.length rc m (by omega) W
    have hgl : g < w.heap.size := (h.marks.lt g rfl).2
    have hgq := nmb g rfl
    go_enter Try.func48, Try.ntmps48
    go_wp2
    go_region
    go_wp2
    go_ret
    have hl : rs.take m = L := HL.out
    subst hl
    have U2 : Upd (fun k => k = q) w ((w.setCell ⟨q, 0, none⟩ (.slice ra m rc)).setCell ⟨q, 1, none⟩ (.slice (some ⟨g, 0, none⟩) ms.length mc)).drew := (Upd.setCell (p := ⟨q, 1, none⟩) (Upd.setCell (p := ⟨q, 0, none⟩) (Upd.refl (fun k => k = q) w) (fun _ => rfl) _) (fun _ => rfl) _).drew
    have hro : (Value.slice ra m rc).ownBlock = (Value.slice ra rs.length rc).ownBlock := own_slice _ _ _ _
    refine ⟨.slice ra m rc, .slice (some ⟨g, 0, none⟩) ms.length mc, rfl, ⟨((h.blk.set 0 _).set 1 _).drew, (h.row.take m hm).upd U2 (fun k hk e => h.ne (by rw [← hro, hk, e])), row_upd hms U2 (fun k hk e => nmb k hk e), by rw [hro]; exact h.ne, fun a n c e => by cases e; omega, fun k hk => Nat.lt_of_lt_of_le (h.lt k (by rw [← hro]; exact hk)) U2.size⟩, U2, hro, rfl⟩
theorem run_append_marks {w : World} {base : Nat} {rv sv : Value} {rs l : List Nat} (h : w.ownsRow base 3 1 rv rs.length (imc rs)) (hbase : base ≤ w.heap.size) (hs : w.ownsRow 0 3 1 sv l.length (imc l)) (ty : TypeId) (hn : (rs.length + l.length) * 8 ≤ 140737488355328) :
    ∃ v' w', (Builtin.append_ #[41, 41] ty #[rv, sv]).run Try.prog w = .ok v' w' ∧ w'.ownsRow base 3 1 v' (rs ++ l).length (imc (rs ++ l)) ∧ w.grownBy w' rv.ownBlock ∧ (v'.ownBlock = rv.ownBlock ∨ v'.ownBlock = some w.heap.size) := by
  obtain ⟨i0, hi, hz0, hz1, hz2⟩ := info_parts info3
  have hcs := fun g => World.ownsRow.cells hs (g := g)
  rcases hs.2 with ⟨rfl, hl0⟩ | ⟨b, cap, cur, rfl, hb, hg, h2, h3, h4, h5⟩
  · have : l = [] := List.eq_nil_of_length_eq_zero hl0
    subst this
    rcases h.2 with ⟨rfl, h0⟩ | ⟨g, cap, cur, rfl, hb, hg, h2, h3, h4, h5⟩
    · refine ⟨.slice none 0 0, w, ?_, by rw [List.append_nil]; exact h, ⟨rfl, rfl, rfl, Nat.le_refl _, fun _ _ _ => rfl⟩, .inl rfl⟩
      exact run_append_nothing (P := Try.prog) w 41 41 ty 3 i0 Try.underlying41 hi none 0 0 (Nat.le_refl 0) _ (Src.ofNil w Try.underlying41 0)
    · refine ⟨_, w, ?_, by rw [List.append_nil]; exact h, ⟨rfl, rfl, rfl, Nat.le_refl _, fun _ _ _ => rfl⟩, .inl rfl⟩
      exact run_append_nothing (P := Try.prog) w 41 41 ty 3 i0 Try.underlying41 hi (some ⟨g, 0, none⟩) rs.length cap h2 _ (Src.ofNil w Try.underlying41 0)
  · obtain ⟨v', w', hr, g2, g3, _, g5⟩ := run_append_own_at (P := Try.prog) w base 41 ty 3 i0 _ 1 8 Try.underlying41 hi hz0 hz1 hz2 rfl (by decide) rv rs.length (imc rs) h ⟨b, 0, none⟩ l.length cap (imc l) (by rw [imc_len]; omega) (hcs b rfl) (imc_one l) (by unfold maxLen; omega) hn hbase
    refine ⟨v', w', hr, ?_, g3, g5⟩
    rw [imc_app, List.length_append]
    exact g2
/-- At a step of a region that draws. -/
theorem step_marks {w : World} {base : Nat} {rv sv : Value} {rs l : List Nat} {ops : Array Oper} {o : Oper} {a : Act} {K : Act → World → Prop} {Q : Exit → Act → World → Prop} {Ex : Prop} {d : Nat} (hgd : o.guard = none) (hd : o.dst = some d) (s x : Operand)
    (ho : o.op = .call { callee := .builtin .append, args := #[s, x], argTypes := #[41, 41] }) (hs : a.eval s = rv) (hx : a.eval x = sv) (h : w.ownsRow base 3 1 rv rs.length (imc rs)) (hbase : base ≤ w.heap.size) (hr : w.ownsRow 0 3 1 sv l.length (imc l)) (hn : (rs.length + l.length) * 8 ≤ 140737488355328)
    (hK : ∀ v' w', w'.ownsRow base 3 1 v' (rs ++ l).length (imc (rs ++ l)) → w.grownBy w' rv.ownBlock → (v'.ownBlock = rv.ownBlock ∨ v'.ownBlock = some w.heap.size) → K (a.put (some d) v') w') :
    if Region.wanted o (yielded ops a.tmps) = true then Oper.wp Try.prog o a w K Q else Ex := by
  have hw : Region.wanted o (yielded ops a.tmps) = true := by simp [Region.wanted, hgd]
  rw [if_pos hw]
  obtain ⟨v', w', hrun, h2, h3, h4⟩ := run_append_marks h hbase hr o.type hn
  unfold Oper.wp execOp
  simp only [ho, resolve, invoke, builtin, Sem.run_bind, Sem.run_pure, Result.andThen_ok, List.map_toArray, List.map_cons, List.map_nil, hs, hx, hrun]
  have hk := hK v' w' h2 h3 h4
  rw [← hd] at hk
  exact hk
end Go.Proofs.Ytkpijoogaicodaa
namespace Go.Proofs.Ytkpijoogaicodaa
open Go.RowKit
set_option linter.unusedVariables false
set_option linter.unusedSimpArgs false

theorem fine_plain {r : Rec} (f0 : 0 ≤ r.fam) (f1 : r.fam < 4294967296) (h : rchk r = 0) : Fine (plainR r) := by
  have hz := rchk_zero h
  unfold plainR
  split
  · rename_i hk
    exact ⟨f0, f1, (by show r.key.size ≤ _; omega), fun _ => by show (0 : Nat) ≤ _; omega⟩
  · rename_i hk
    exact ⟨f0, f1, by omega, fun _ => by have := hz.2.1 hk; omega⟩
theorem fine_add {rs : List Rec} {r : Rec} (h : ∀ x ∈ rs, Fine x) (f0 : 0 ≤ r.fam) (f1 : r.fam < 4294967296) : ∀ x ∈ addL rs r, Fine x := by
  unfold addL
  split
  · rename_i he
    intro x hx
    rcases List.mem_append.1 hx with hx | hx
    · exact h x hx
    · simp at hx
      subst hx
      refine fine_plain f0 f1 ?_
      unfold addE at he
      split at he
      · exact he
      · rename_i h1; simpa using h1
  · exact h
theorem fine_all {rs l : List Rec} (h : ∀ x ∈ rs, Fine x) (hf : ∀ r ∈ l, 0 ≤ r.fam ∧ r.fam < 4294967296) : ∀ x ∈ addAll rs l, Fine x := by
  induction l generalizing rs with
  | nil => exact h
  | cons r l ih => exact ih (fine_add h (hf r (by simp)).1 (hf r (by simp)).2) (fun x hx => hf x (by simp [hx]))
theorem addL_ext (rs : List Rec) (r : Rec) : ∃ t, addL rs r = rs ++ t := by
  unfold addL
  split
  · exact ⟨_, rfl⟩
  · exact ⟨[], by simp⟩
theorem addAll_ext (rs l : List Rec) : ∃ t, addAll rs l = rs ++ t := by
  induction l generalizing rs with
  | nil => exact ⟨[], by simp [addAll]⟩
  | cons r l ih =>
    obtain ⟨t, ht⟩ := addL_ext rs r
    obtain ⟨t', ht'⟩ := ih (addL rs r)
    refine ⟨t ++ t', ?_⟩
    show addAll (addL rs r) l = _
    rw [ht', ht, List.append_assoc]
structure BkS (w W : World) (rv mv wv : Value) (X rs : List Rec) : Prop where
  bel : Below w.heap.size w W
  b : Bt W w.heap.size rv mv rs [X.length]
  was : W.ownsRow 0 31 4 wv X.length (rcs X)
  nr : New w.heap.size rv
  nm : New w.heap.size mv
  dj : Dj rv wv
theorem ofm_new {N b : Nat} {mv : Value} (hb : N ≤ b) (h : New N mv) : ∀ k, OfM b mv k → N ≤ k := by
  rintro k (rfl | e)
  · exact hb
  · exact h k e
theorem BkS.begin {w wr w2 w3 : World} {rv mv v1 : Value} {X : List Rec} (hbel : Below w.heap.size w wr) (T : Bt wr w.heap.size rv nilv X []) (hnew : New w.heap.size rv) (hb1 : Below wr.heap.size wr w2) (ho1 : w2.ownsRow 0 31 4 v1 X.length (rcs X)) (hn1 : ∀ k, v1.ownBlock = some k → wr.heap.size ≤ k)
    (g1 : Bt w3 w.heap.size rv mv X ([] ++ [X.length])) (g2 : Upd (OfM w.heap.size nilv) w2 w3) (g3 : mv.ownBlock = nilv.ownBlock ∨ ∀ j, mv.ownBlock = some j → w2.heap.size ≤ j) : BkS w w3 rv mv v1 X X := by
  have b2 := bstep hbel hb1
  have T2 := T.below hb1
  refine ⟨Upd.bel b2 g2 (ofm_new (Nat.le_refl _) (New.nil _)), g1, row_upd ho1 g2 ?_, hnew, (New.nil _).step b2.size g3, ?_⟩
  · rintro k hk (rfl | e)
    · exact row_ne ho1 T2.blk (by decide) _ hk rfl
    · cases e
  · intro k hk hk'
    have := hn1 k hk'
    have := (T.row.lt k hk).2
    omega
theorem BkS.add {w W W' : World} {rv mv wv rv' : Value} {X rs rs' : List Rec} (h : BkS w W rv mv wv X rs) (g1 : Bt W' w.heap.size rv' mv rs' [X.length]) (g2 : Upd (Of w.heap.size rv) W W') (g3 : rv'.ownBlock = rv.ownBlock ∨ ∀ j, rv'.ownBlock = some j → W.heap.size ≤ j) : BkS w W' rv' mv wv X rs' := by
  refine ⟨Upd.bel h.bel g2 (of_new (Nat.le_refl _) h.nr), g1, row_upd h.was g2 ?_, h.nr.step h.bel.size g3, h.nm, h.dj.step g3 h.was⟩
  rintro k hk (rfl | e)
  · exact row_ne h.was h.b.blk (by decide) _ hk rfl
  · exact h.dj k e hk
theorem BkS.back {w W W' : World} {rv mv wv : Value} {X rs : List Rec} (h : BkS w W rv mv wv X rs) (g2 : Upd (OfA w.heap.size rv mv) W W') : Below w.heap.size w W' :=
  Upd.bel h.bel g2 (by
    rintro k (rfl | e | e)
    · exact Nat.le_refl _
    · exact h.nr k e
    · exact h.nm k e)
theorem BkS.keep {w W W' : World} {rv mv wv : Value} {X rs : List Rec} (h : BkS w W rv mv wv X rs) (g2 : Upd (OfA w.heap.size rv mv) W W') : W'.ownsRow 0 31 4 wv X.length (rcs X) :=
  row_upd h.was g2 (by
    rintro k hk (rfl | e | e)
    · exact row_ne h.was h.b.blk (by decide) _ hk rfl
    · exact h.dj k e hk
    · exact row_row_ne h.was h.b.marks (by decide) k hk e)
theorem beq_self_i (a : Int) : (a == a) = true := by simp

set_option maxRecDepth 100000 in
set_option maxHeartbeats 3200000 in
theorem back_walk {w : World} {va vb : Value} {la lb : List Rec} (ha : RdR w va la) (hb : RdR w vb lb) (fa : Fam la) (fb : Fam lb) (na : la.length ≤ 140737488355328) (nb : lb.length ≤ 140737488355328) :
    Calls Try.prog 6 #[va, vb] w fun e w' => e = .returned (.bool true) ∧ Below w.heap.size w w' := by
  obtain ⟨aa, ca, rfl⟩ := ha.len
  obtain ⟨ab, cb, rfl⟩ := hb.len
  have T0 := Bt.new w
  go_enter Try.func6, Try.ntmps6
  go_wp2
  go_loopw [6] (fun i wr => ∃ (k : Nat) (rv : Value), k ≤ la.length ∧ i = .int .i64 k ∧ Bt wr w.heap.size rv nilv (addAll [] (la.take k)) [] ∧ Below w.heap.size w wr ∧ New w.heap.size rv) (fun i _ => la.length - (intOf i).toNat)
  case atStart => exact ⟨0, _, Nat.zero_le _, rfl, T0, (Below.refl _ _).alloc (Nat.le_refl _) _, New.nil _⟩
  case round =>
    clear T0
    obtain ⟨k, rv, hk, rfl, T, hbel, hnew⟩ := hrel
    have hG := addAll_good Good.nil (la.take k)
    by_cases hlt : k < la.length
    · obtain ⟨b, off, cap, hv, hb1, hr⟩ := ha.at hlt
      cases hv
      obtain ⟨c0, c1, c2, c3⟩ := hr.upd (S := fun _ => False) (Upd.ofBelow hbel) hb1 (fun hh => hh)
      have HT := addAll_take [] la k hlt
      have HF := fa _ (List.getElem_mem hlt)
      generalize la[k] = r at *
      generalize addAll [] (la.take k) = rs at *
      have HA := fun W b rv (h : Bt W b rv nilv rs []) => add_any h hG r HF.1 HF.2
      have hlk : (k : Int) < (la.length : Int) := by omega
      generalize addE rs r = E at *
      obtain ⟨f, kd, key, val⟩ := r
      dsimp only at *
      have HT' : Hid (addAll [] (la.take (k + 1)) = addL rs ⟨f, kd, key, val⟩) := HT
      clear HT
      go_wp2_with (go_at_call 19; refine (HA _ _ _ T).mono ?_; rintro e w1 ⟨rv', rfl, g1, g2, g3⟩)
      go_roundw
      case rel => exact ⟨k + 1, rv', by omega, by go_num, by rw [HT'.out]; exact g1, Upd.bel hbel g2 (of_new (Nat.le_refl _) hnew), hnew.step hbel.size g3⟩
      case measure => simp [intOf]; omega
    · obtain rfl : k = la.length := by omega
      rw [List.take_length] at T hG
      have hFX := fine_all (rs := []) (by simp) fa
      generalize addAll [] la = X at *
      clear ha fa na
      have hgl := hG.len
      have hgs := hG.size
      go_wp2_with (first
        | (go_at_call 22; refine (save_any T1 (by simp)).mono ?_; rintro e w3 ⟨mv, rfl, g1, g2, g3⟩)
        | (go_at_call 21; refine (size_any T1.blk (by omega)).mono ?_; rintro e w2 ⟨rfl, rfl⟩)
        | (go_at_call 20; refine (records_any T (by omega)).mono ?_; rintro e w1 ⟨v1, rfl, ho1, hb1, hn1⟩; have T1 := T.below hb1))
      have S0 : BkS w w3 rv mv v1 X X := BkS.begin hbel T hnew hb1 ho1 hn1 g1 g2 g3
      clear T T1 g1 g2 g3 ho1 hn1 hb1 hbel hnew
      go_loopw [9] (fun i wr => ∃ (k : Nat) (rv : Value), k ≤ lb.length ∧ i = .int .i64 k ∧ BkS w wr rv mv v1 X (addAll X (lb.take k))) (fun i _ => lb.length - (intOf i).toNat)
      case atStart => exact ⟨0, _, Nat.zero_le _, rfl, S0⟩
      case round =>
        clear S0
        obtain ⟨k, rv, hk, rfl, S⟩ := hrel
        have hGK := addAll_good hG (lb.take k)
        by_cases hlt : k < lb.length
        · obtain ⟨b, off, cap, hv, hb1, hr⟩ := hb.at hlt
          cases hv
          obtain ⟨c0, c1, c2, c3⟩ := hr.upd (S := fun _ => False) (Upd.ofBelow S.bel) hb1 (fun hh => hh)
          have HT := addAll_take X lb k hlt
          have HF := fb _ (List.getElem_mem hlt)
          generalize lb[k] = r at *
          generalize addAll X (lb.take k) = rs at *
          have HA := fun W b rv mv ms (h : Bt W b rv mv rs ms) => add_any h hGK r HF.1 HF.2
          have hlk : (k : Int) < (lb.length : Int) := by omega
          generalize addE rs r = E at *
          obtain ⟨f, kd, key, val⟩ := r
          dsimp only at *
          have HT' : Hid (addAll X (lb.take (k + 1)) = addL rs ⟨f, kd, key, val⟩) := HT
          clear HT
          go_wp2_with (go_at_call 19; refine (HA _ _ _ _ _ S.b).mono ?_; rintro e w1 ⟨rv', rfl, g1, g2, g3⟩)
          go_roundw
          case rel => exact ⟨k + 1, rv', by omega, by go_num, by rw [HT'.out]; exact S.add g1 g2 g3⟩
          case measure => simp [intOf]; omega
        · obtain rfl : k = lb.length := by omega
          rw [List.take_length] at S hGK
          have hFK := fine_all hFX fb
          obtain ⟨t, ht⟩ := addAll_ext X lb
          have hXl : X.length ≤ (addAll X lb).length := by rw [ht]; simp
          have hXt : (addAll X lb).take X.length = X := by rw [ht]; simp
          generalize addAll X lb = Z at *
          have HB := back_any (ms := []) S.b hXl hGK hFK
          rw [hXt] at HB
          clear ht hXt hFK hb fb
          go_wp2_with (first
            | (go_at_call 12; refine (lives_any _).mono ?_; rintro e w9 ⟨rfl, hb9⟩)
            | (go_at_call 23; refine (back_none T7).mono ?_; rintro e w8 ⟨rfl, rfl⟩; have L8 := L7)
            | (go_at_call 21; refine (size_any T6.blk (by omega)).mono ?_; rintro e w7 ⟨rfl, rfl⟩; have T7 := T6; have L7 := L6)
            | (go_at_call 14; refine (same_yes R5 R4 (by omega)).mono ?_; rintro e w6 ⟨rfl, hb6⟩; have T6 := T5.below hb6; have L6 := bstep L5 hb6)
            | (go_at_call 20; refine (records_any T4 (by omega)).mono ?_; rintro e w5 ⟨v5, rfl, ho5, hb5, hn5⟩; have R5 := row_rd ho5; have R4 := R3.below hb5; have T5 := T4.below hb5; have L5 := bstep L4 hb5)
            | (go_at_call 23; refine HB.mono ?_; rintro e w4 ⟨rv4, mv4, rfl, g1, g2, g3, g4⟩; have T4 := g1; have L4 := S.back g2; have R3 := row_rd (S.keep g2)))
          go_ret
          exact ⟨rfl, bstep L8 hb9⟩
end Go.Proofs.Ytkpijoogaicodaa
