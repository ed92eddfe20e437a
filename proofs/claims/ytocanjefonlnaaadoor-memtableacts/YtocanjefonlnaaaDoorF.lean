import Derived.Test.YtocanjefonlnaaaDoorG
namespace Go.Proofs.YtocanjefonlnaaaDoor
open Go.RowKit
set_option linter.unusedVariables false
set_option linter.unusedSimpArgs false
set_option maxRecDepth 100000 in
theorem mk_nd (W : World) (n : Nat) (h1 : 1 ≤ n) (h2 : n ≤ 14) : (Instr.makeSlice 86 (.int .i64 n) (.int .i64 n)).run Tryd.prog W = .ok (.slice (some ⟨W.heap.size, 0, none⟩) n n) (W.alloc (.cells (List.replicate n (.pointer none)).toArray 64)) := by
  have : n = 1 ∨ n = 2 ∨ n = 3 ∨ n = 4 ∨ n = 5 ∨ n = 6 ∨ n = 7 ∨ n = 8 ∨ n = 9 ∨ n = 10 ∨ n = 11 ∨ n = 12 ∨ n = 13 ∨ n = 14 := by omega
  rcases this with h | h | h | h | h | h | h | h | h | h | h | h | h | h <;> subst h <;> (show _ = _; kernel_rfl)
theorem keep6 {w w1 : World} (h : Below w.heap.size w w1) {b1 b2 b3 b4 b5 b6 o1 o2 o3 o4 o5 o6 : Nat} {v1 v2 v3 v4 v5 v6 : Value}
    (hc : w.cell? ⟨b1, o1, none⟩ = some v1 ∧ w.cell? ⟨b2, o2, none⟩ = some v2 ∧ w.cell? ⟨b3, o3, none⟩ = some v3 ∧ w.cell? ⟨b4, o4, none⟩ = some v4 ∧ w.cell? ⟨b5, o5, none⟩ = some v5 ∧ w.cell? ⟨b6, o6, none⟩ = some v6) :
    w1.cell? ⟨b1, o1, none⟩ = some v1 ∧ w1.cell? ⟨b2, o2, none⟩ = some v2 ∧ w1.cell? ⟨b3, o3, none⟩ = some v3 ∧ w1.cell? ⟨b4, o4, none⟩ = some v4 ∧ w1.cell? ⟨b5, o5, none⟩ = some v5 ∧ w1.cell? ⟨b6, o6, none⟩ = some v6 :=
  ⟨keepc h hc.1, keepc h hc.2.1, keepc h hc.2.2.1, keepc h hc.2.2.2.1, keepc h hc.2.2.2.2.1, keepc h hc.2.2.2.2.2⟩
/-- While add goes on. -/
structure Ad (w : World) (E : Ent) (L : List Nd) (p Y : Nat) (W : World) : Prop where
  bel : Below w.heap.size w W
  box : Blk W w.heap.size 56 [.string E.u, .int .u64 E.s, .int .i64 E.k, .string E.v]
  tow : Blk W Y 66 (pth L p 0)
  hY : w.heap.size < Y
theorem Hts.below {w w' : World} {hv : Value} (h : Hts w hv) (b : Below w.heap.size w w') : Hts w' hv := by
  rcases h with h | ⟨hb, off, n, c, rfl, h1, h2, h3⟩
  · exact .inl h
  · refine .inr ⟨hb, off, n, c, rfl, h1, h2, fun j hj => ?_⟩
    obtain ⟨y, y0, y1, hy⟩ := h3 j hj
    exact ⟨y, y0, y1, keepc b hy⟩
theorem Tz.below {w w' : World} (h : Tz w) (b : Below w.heap.size w w') : Tz w' := fun j hj => by
  obtain ⟨y, y0, y1, hy⟩ := h j hj
  exact ⟨y, y0, y1, keepc b hy⟩
theorem Ad.step {w : World} {E : Ent} {L : List Nd} {p Y : Nat} {W W' : World} (h : Ad w E L p Y W) (b : Below W.heap.size W W') : Ad w E L p Y W' :=
  ⟨h.bel.trans (b.mono h.bel.size), h.box.upd (S := Non) (Upd.ofBelow b) (fun x => x), h.tow.upd (S := Non) (Upd.ofBelow b) (fun x => x), h.hY⟩
theorem lnM_zero (L : List Nd) (p : Nat) (n : Nd) : lnM L p n 0 = lnF L := by
  funext i j; unfold lnM lnF; rw [if_neg (by omega)]
theorem pth_at (L : List Nd) (p m : Nat) (h : m < 14) : (pth L p 0)[m]? = some (pv (atq L (pq L m p))) := by
  unfold pth
  rw [List.getElem?_map, List.getElem?_range h]
  simp
theorem nwC_zero (L : List Nd) (p : Nat) (n : Nd) : (nwC L p n 0).toArray = Array.replicate n.h (.pointer none) := by
  unfold nwC
  simp [List.map_const']
theorem mi_start {w : World} {T : Nat} {C : Tc} {L : List Nd} (H : Sk w T C L (lnF L) (atq L)) {E : Ent} {p Y : Nat} {w3 : World} (D : Ad w E L p Y w3) (y : Nat) (hy1 : 1 ≤ y) (hy2 : y ≤ 14) :
    Mi w T C L p Y ⟨w3.heap.size + 1, w3.heap.size, E, y, C.cnt⟩ (atq L) 0 ((w3.alloc (.cells (Array.replicate y (.pointer none)) 64)).alloc (.cells #[.string E.u, .int .u64 E.s, .int .i64 E.k, .string E.v, .int .i64 C.cnt, .pointer (pa (atq L p)), .slice (some ⟨w3.heap.size, 0, none⟩) y y] 88)) := by
  have S3 := H.below D.bel
  have hb := D.bel.size
  refine ⟨?_, ?_, ?_, (D.tow.alloc _).alloc _, ?_, ?_, hb, ?_, hy1, hy2, rfl⟩
  · rw [lnM_zero]
    exact (S3.below ((Below.refl _ _).alloc (Nat.le_refl _) _)).below ((Below.refl _ _).alloc (Nat.le_refl _) _)
  · have := Blk.new (w3.alloc (.cells (Array.replicate y (.pointer none)) 64)) 88 (ndC ⟨w3.heap.size + 1, w3.heap.size, E, y, C.cnt⟩ (pv (atq L p)))
    rw [World.size_alloc] at this
    exact this
  · have := Blk.new w3 64 (nwC L p ⟨w3.heap.size + 1, w3.heap.size, E, y, C.cnt⟩ 0)
    rw [nwC_zero] at this
    exact this.alloc _
  · exact (((Upd.refl _ w).then (Upd.ofBelow D.bel) (fun i _ h => h)).alloc _).alloc _
  · show w.heap.size ≤ w3.heap.size + 1; omega
  · rintro k (rfl | ⟨m, hm, rfl | rfl⟩)
    · exact H.tab.lt
    · obtain ⟨i, hi⟩ := List.mem_iff_getElem?.1 hm
      exact (H.nod i m hi).lt
    · obtain ⟨i, hi⟩ := List.mem_iff_getElem?.1 hm
      exact (H.lnk i m hi).lt
theorem Mi.last {w : World} {T : Nat} {C : Tc} {L : List Nd} {p Y : Nat} {n : Nd} {m : Nat} {W : World} (h : Mi w T C L p Y n (atq L) m W) (hl : L[p]? = none) : Mi w T C L p Y n (prM L p n) m W := by
  refine ⟨⟨h.sk.tab, fun i k hk => ?_, h.sk.lnk, h.sk.hgt, h.sk.injb, h.sk.injx, h.sk.brn⟩, h.nb, h.nx, h.tow, h.upd, h.hb, h.hx, h.old, h.h1, h.h2, h.bn⟩
  have : i ≠ p := by rintro rfl; rw [hl] at hk; cases hk
  unfold prM; rw [if_neg this]
  exact h.sk.nod i k hk
theorem Mi.back {w : World} {T : Nat} {C : Tc} {L : List Nd} {p Y : Nat} {n n0 : Nd} {m : Nat} {W : World} (h : Mi w T C L p Y n (atq L) m W) (hl : L[p]? = some n0) : Mi w T C L p Y n (prM L p n) m (W.setCell ⟨n0.b, 5, none⟩ (ptr n.b)) := by
  have B0 := h.sk.nod p n0 hl
  have hm := List.mem_of_getElem? hl
  refine ⟨⟨h.sk.tab.other (h.sk.tab.ne B0 (by decide)) _, fun i k hk => ?_, fun i k hk => (h.sk.lnk i k hk).other ((h.sk.lnk i k hk).ne B0 (by decide)) _, h.sk.hgt, h.sk.injb, h.sk.injx, h.sk.brn⟩, h.nb.other ?_ _, h.nx.other (h.nx.ne B0 (by decide)) _, h.tow.other (h.tow.ne B0 (by decide)) _, ?_, h.hb, h.hx, h.old, h.h1, h.h2, h.bn⟩
  · unfold prM
    by_cases e : i = p
    · subst e
      rw [hl] at hk; cases hk
      rw [if_pos rfl]
      exact B0.set 5 _
    · rw [if_neg e]
      exact (h.sk.nod i k hk).other (fun x => e (h.sk.injb i p k n0 hk hl x)) _
  · have := h.old n0.b (.inr ⟨n0, hm, .inl rfl⟩)
    have := h.hb
    show n.b ≠ n0.b
    omega
  · exact h.upd.setCell (fun _ => .inr ⟨n0, hm, .inl rfl⟩) _
set_option maxRecDepth 100000 in
set_option maxHeartbeats 4000000 in
theorem add_new {w : World} {T : Nat} {C : Tc} {L : List Nd} (h : Sk w T C L (lnF L) (atq L)) (E : Ent) (p : Nat) (hc : Cut C.how L E.u E.s E.k p) (hk : ∀ n, L[p]? = some n → ¬ (n.e.u = E.u ∧ n.e.s = E.s ∧ n.e.k = E.k)) (hv : Hts w C.hv) (hz : Tz w) (c0 : 0 ≤ C.cnt) (c1 : C.cnt < 10000) :
    Calls Tryd.prog 48 #[ptr T, .agg #[.string E.u, .int .u64 E.s, .int .i64 E.k, .string E.v]] w fun e w' => e = .returned (.bool true) ∧ ∃ n : Nd, n.e = E ∧ w.heap.size ≤ n.b ∧ w.heap.size ≤ n.x ∧ Sk w' T C.more (ins L p n) (lnF (ins L p n)) (atq (ins L p n)) ∧ Upd (SkB T L) w w' := by
  have H1 : Hid (∀ (W : World) (hb : Below w.heap.size w W), Calls Tryd.prog 50 #[ptr T, .agg #[.string E.u, .int .u64 E.s, .int .i64 E.k]] W fun e w' => e = .returned (.agg (pth L p 0).toArray) ∧ Below W.heap.size W w') := fun W hb => ahead_any (h.below hb) E.u E.s E.k p hc.le hc.lo hc.hi
  have hb0 : Below w.heap.size w (w.alloc (Obj.cells #[Value.string E.u, Value.int IntKind.u64 E.s, Value.int IntKind.i64 E.k, .string E.v] 56)) := (Below.refl _ _).alloc (Nat.le_refl _) _
  obtain ⟨F, HF⟩ : ∃ F : Nat → Option Addr, Hid (∀ i, F i = pa (atq L (pq L i p))) := ⟨fun i => pa (atq L (pq L i p)), fun _ => rfl⟩
  have HP : Hid ((pth L p 0).toArray = #[.pointer (F 0), .pointer (F 1), .pointer (F 2), .pointer (F 3), .pointer (F 4), .pointer (F 5), .pointer (F 6), .pointer (F 7), .pointer (F 8), .pointer (F 9), .pointer (F 10), .pointer (F 11), .pointer (F 12), .pointer (F 13)]) := by
    simp only [HF.out]; rfl
  rw [HP.out] at H1
  have H : Hid (Sk w T C L (lnF L) (atq L)) := h
  have HC : Hid (Cut C.how L E.u E.s E.k p) := hc
  have HK : Hid (∀ n, L[p]? = some n → ¬ (n.e.u = E.u ∧ n.e.s = E.s ∧ n.e.k = E.k)) := hk
  have HHt : Hid (∀ W, Below w.heap.size w W → Calls Tryd.prog 59 #[ptr T] W fun e w' => (∃ y : Nat, e = .returned (.int .i64 y) ∧ 1 ≤ y ∧ y ≤ 14) ∧ Below W.heap.size W w') := fun W hb => height_any (h.below hb).tab (hv.below hb) (hz.below hb) c0 c1
  clear h hc hk hv hz
  go_enter Tryd.func48, Tryd.ntmps48
  go_upto_region 2 with (go_at_call 50; refine (H1.out _ hb0).mono ?_; rintro e w1 ⟨rfl, hb1⟩)
  have hb2 : Below w.heap.size w w1 := hb0.trans (hb1.mono (by simp))
  have A0 : Hid (Ad w E L p w1.heap.size (w1.alloc (.cells #[.pointer (F 0), .pointer (F 1), .pointer (F 2), .pointer (F 3), .pointer (F 4), .pointer (F 5), .pointer (F 6), .pointer (F 7), .pointer (F 8), .pointer (F 9), .pointer (F 10), .pointer (F 11), .pointer (F 12), .pointer (F 13)] 66))) := by
    refine ⟨hb2.alloc hb2.size _, ?_, ?_, ?_⟩
    · exact ((Blk.new w 56 _).upd (S := Non) (Upd.ofBelow hb1) (fun x => x)).alloc _
    · have := Blk.new w1 66 (pth L p 0)
      rw [HP.out] at this
      exact this
    · have := hb1.size; simp at this; omega
  generalize w1.heap.size = Y at *
  generalize w1.alloc (.cells #[.pointer (F 0), .pointer (F 1), .pointer (F 2), .pointer (F 3), .pointer (F 4), .pointer (F 5), .pointer (F 6), .pointer (F 7), .pointer (F 8), .pointer (F 9), .pointer (F 10), .pointer (F 11), .pointer (F 12), .pointer (F 13)] 66) = W at *
  clear hb0 hb1 hb2 H1 HP w1
  have hh : ∀ n ∈ L, 1 ≤ n.h := fun n hn => (H.out.hgt n hn).1
  have hz := nxt_zero L p hh
  have hq := pq_zero L p HC.out.le hh
  have HS : Hid (Sk W T C L (lnF L) (atq L)) := H.out.below A0.out.bel
  have y0 := A0.out.tow.cell1 0 (.pointer (F 0)) (by rw [HF.out]; rfl)
  have hF0 : F 0 = pa (atq L p) := by rw [HF.out, hq]
  have H2 := HS.out.links p HC.out.le
  unfold lv at H2
  have hrp : Rch L p 0 := by have := pq_rch L 0 p; rw [hq] at this; exact this
  have hlh : 0 < lh L p := rch_lh hrp (by omega)
  have hlz : (0 : Int) < (lh L p : Int) := by omega
  have hcp := HS.out.cell p HC.out.le 0 hlh
  rw [show lnF L p 0 = L[p]? from hz, Nat.add_zero] at hcp
  rw [show pv (atq L p) = .pointer (pa (atq L p)) from rfl, ← hF0] at H2
  generalize lb T L p = LB at *
  generalize lo L p = LO at *
  generalize lh L p = LH at *
  clear hz hq hh hF0 hrp
  cases hlp : L[p]? with
  | none =>
    rw [hlp, show pv (none : Option Nd) = .pointer none from rfl] at hcp
    go_wp2_with (go_at_call 49; refine H2.mono ?_; rintro e w2 ⟨rfl, rfl⟩)
    go_big_quiet (fail)
    go_wp2_with fail
    have HD : Hid (Ad w E L p Y (w2.drewN nq)) := A0.out.step (belN (Below.refl _ _) nq)
    have HSD : Hid (Sk (w2.drewN nq) T C L (lnF L) (atq L)) := H.out.below HD.out.bel
    clear HS A0 H2 y0 hcp
    obtain ⟨W, hW⟩ : ∃ W, W = w2.drewN nq := ⟨_, rfl⟩
    rw [← hW] at HD HSD ⊢
    clear hW
    have d0 := HD.out.box.cell1 0 _ rfl
    have d1 := HD.out.box.cell1 1 _ rfl
    have d2 := HD.out.box.cell1 2 _ rfl
    have d3 := HD.out.box.cell1 3 _ rfl
    have d4 := HD.out.tow.cell1 0 (.pointer (F 0)) (by rw [HF.out]; rfl)
    have d5 := HSD.out.tab.cell1 16 _ rfl
    go_region_held_law (fun w' => w'.cell? ⟨w.heap.size, 0, none⟩ = some (.string E.u) ∧ w'.cell? ⟨w.heap.size, 1, none⟩ = some (.int .u64 E.s) ∧ w'.cell? ⟨w.heap.size, 2, none⟩ = some (.int .i64 E.k) ∧ w'.cell? ⟨w.heap.size, 3, none⟩ = some (.string E.v) ∧ w'.cell? ⟨Y, 0, none⟩ = some (.pointer (F 0)) ∧ w'.cell? ⟨T, 16, none⟩ = some (.int .i64 C.cnt))
      (first | (go_keep; done) | (refine keep6 hb3 ?_ <;> assumption))
      ((go_at_call 59; refine (HHt.out _ (HD.out.bel.drew)).mono ?_; rintro e w3 ⟨⟨y, rfl, hy1, hy2⟩, hb3⟩; have hmk := fun W => mk_nd W y hy1 hy2))
    have A3 : Hid (Ad w E L p Y w3) := (HD.out.step (belN (Below.refl _ _) 1)).step hb3
    have hF0 : F 0 = pa (atq L p) := by rw [HF.out, pq_zero L p HC.out.le (fun n hn => (H.out.hgt n hn).1)]
    have M0 : Hid _ := mi_start H.out A3.out y hy1 hy2
    rw [← hF0] at M0
    obtain ⟨n, hn⟩ : ∃ n : Nd, Hid (n = ⟨w3.heap.size + 1, w3.heap.size, E, y, C.cnt⟩) := ⟨_, rfl⟩
    rw [← hn.out] at M0
    have hnh : Hid (n.h = y) := by show n.h = y; rw [hn.out]
    have HNe : Hid (n.e = E) := by show n.e = E; rw [hn.out]
    have hnb : w3.heap.size + 1 = n.b := by rw [hn.out]
    rw [hnb]
    generalize (w3.alloc (.cells (Array.replicate y (.pointer none)) 64)).alloc (.cells #[.string E.u, .int .u64 E.s, .int .i64 E.k, .string E.v, .int .i64 C.cnt, .pointer (F 0), .slice (some ⟨w3.heap.size, 0, none⟩) y y] 88) = W5 at *
    clear hb3 d0 d1 d2 d3 d4 d5 hmk hnb hF0 HHt
    have M1 : Hid (Mi w T C L p Y n (prM L p n) 0 W5) := M0.out.last hlp
    have g6 := M1.out.nb.cell1 6 _ rfl
    rw [hnh.out] at g6
    clear M0 hlp
    go_wp2_with fail
    go_loopw [55] (fun i wr => ∃ m : Nat, m ≤ y ∧ i = .int .i64 m ∧ Hid (Mi w T C L p Y n (prM L p n) m wr)) (fun i _ => ((y : Int) - intOf i).toNat)
    case atStart => exact ⟨0, Nat.zero_le _, rfl, M1⟩
    case round =>
      obtain ⟨m, hm, rfl, HM⟩ := hrel
      rcases Nat.lt_or_ge m y with hmy | hmy
      · have q0 := HM.out.tow.cell1 m _ (pth_at L p m (by omega))
        have hqp := pq_le L m p
        have hpl := HC.out.le
        have HL := HM.out.sk.links (pq L m p) (by omega)
        unfold lv at HL
        have hlm := rch_lh (pq_rch L m p) (show m < 14 by omega)
        have hcm := HM.out.sk.cell (pq L m p) (by omega) m hlm
        rw [lnM_old] at hcm
        have hfm := HM.out.sk.froz (T := T) (pq L m p) (by omega) (lo L (pq L m p) + m)
        have hn6 := HM.out.nb.cell1 6 _ rfl
        have hnm : wr.cell? ⟨n.x, m, none⟩ = some (.pointer none) := HM.out.nx.cell1 m _ (by unfold nwC; rw [List.getElem?_map, List.getElem?_range (by rw [hnh.out]; exact hmy)]; simp)
        have hnf := HM.out.nx.frozen m
        have hBx : lb T L (pq L m p) ≠ n.x := by have := HM.out.old _ (lb_in T L (pq L m p)); have := HM.out.hx; omega
        have hBx2 : n.x ≠ lb T L (pq L m p) := fun e => hBx e.symm
        have HPut : Hid (Mi w T C L p Y n (prM L p n) (m + 1) ((wr.drew.setCell ⟨n.x, m, none⟩ (pv (nxt (L.drop p) m))).setCell ⟨lb T L (pq L m p), lo L (pq L m p) + m, none⟩ (ptr n.b))) := HM.out.drew.put (by rw [hnh.out]; exact hmy) hpl
        have hcm2 : (wr.drew.setCell ⟨n.x, m, none⟩ (pv (nxt (L.drop p) m))).cell? ⟨lb T L (pq L m p), lo L (pq L m p) + m, none⟩ = some (pv (nxt (L.drop p) m)) := (World.cell?_setCell_other _ _ _ _ (by simp [hBx])).trans hcm
        generalize lb T L (pq L m p) = LB2 at *
        generalize lo L (pq L m p) = LO2 at *
        generalize lh L (pq L m p) = LH2 at *
        generalize pa (atq L (pq L m p)) = AQ at *
        generalize pa (nxt (L.drop p) m) = NQ at *
        rw [hnh.out] at hn6
        have hlz2 : (m : Int) < (LH2 : Int) := by omega
        have hmz : (m : Int) < (y : Int) := by omega
        clear hqp HM
        go_wp2_with (go_at_call 49; refine HL.mono ?_; rintro e w4 ⟨rfl, rfl⟩)
        go_region
        go_wp2_with fail
        go_roundw
        case rel => exact ⟨m + 1, by omega, by go_num, HPut⟩
        case measure => simp [intOf]; omega
      · obtain rfl : m = y := by omega
        have hd := HM.out
        rw [← hnh.out] at hd
        have HDn : Hid _ := hd.done HC.out.le
        have hT16 := HM.out.sk.tab.cell1 16 _ rfl
        have hTf := HM.out.sk.tab.frozen 16
        have HUp : Hid (Upd (SkB T L) w (wr.setCell ⟨T, 16, none⟩ (.int .i64 (C.cnt + 1)))) := HM.out.upd.setCell (fun _ => .inl rfl) _
        clear hd
        go_wp2_with fail
        go_ret
        exact ⟨rfl, n, HNe.out, HM.out.hb, HM.out.hx, HDn.out, HUp.out⟩
  | some n0 =>
    rw [hlp, show pv (some n0 : Option Nd) = .pointer (some ⟨n0.b, 0, none⟩) from rfl] at hcp
    have hk1 := HK.out n0 hlp
    have BN := HS.out.nod p n0 hlp
    have n0' := BN.cell1 0 _ rfl
    have n1' := BN.cell1 1 _ rfl
    have n2' := BN.cell1 2 _ rfl
    have e0 := A0.out.box.cell1 0 _ rfl
    have e1 := A0.out.box.cell1 1 _ rfl
    have e2 := A0.out.box.cell1 2 _ rfl
    have heq : ∀ W : World, (binOp .eql 38 (.agg #[.string n0.e.u, .int .u64 n0.e.s, .int .i64 n0.e.k]) (.agg #[.string E.u, .int .u64 E.s, .int .i64 E.k])).run Tryd.prog W = .ok (.bool false) W := fun W => by
      rw [eq_key, decide_eq_false hk1]
    clear hk1
    go_wp2_with (go_at_call 49; refine H2.mono ?_; rintro e w2 ⟨rfl, rfl⟩)
    go_big_quiet (fail)
    go_wp2_with fail
    have HD : Hid (Ad w E L p Y (w2.drewN nq)) := A0.out.step (belN (Below.refl _ _) nq)
    have HSD : Hid (Sk (w2.drewN nq) T C L (lnF L) (atq L)) := H.out.below HD.out.bel
    clear HS A0 H2 y0 hcp heq BN n0' n1' n2' e0 e1 e2
    obtain ⟨W, hW⟩ : ∃ W, W = w2.drewN nq := ⟨_, rfl⟩
    rw [← hW] at HD HSD ⊢
    clear hW
    have d0 := HD.out.box.cell1 0 _ rfl
    have d1 := HD.out.box.cell1 1 _ rfl
    have d2 := HD.out.box.cell1 2 _ rfl
    have d3 := HD.out.box.cell1 3 _ rfl
    have d4 := HD.out.tow.cell1 0 (.pointer (F 0)) (by rw [HF.out]; rfl)
    have d5 := HSD.out.tab.cell1 16 _ rfl
    go_region_held_law (fun w' => w'.cell? ⟨w.heap.size, 0, none⟩ = some (.string E.u) ∧ w'.cell? ⟨w.heap.size, 1, none⟩ = some (.int .u64 E.s) ∧ w'.cell? ⟨w.heap.size, 2, none⟩ = some (.int .i64 E.k) ∧ w'.cell? ⟨w.heap.size, 3, none⟩ = some (.string E.v) ∧ w'.cell? ⟨Y, 0, none⟩ = some (.pointer (F 0)) ∧ w'.cell? ⟨T, 16, none⟩ = some (.int .i64 C.cnt))
      (first | (go_keep; done) | (refine keep6 hb3 ?_ <;> assumption))
      ((go_at_call 59; refine (HHt.out _ (HD.out.bel.drew)).mono ?_; rintro e w3 ⟨⟨y, rfl, hy1, hy2⟩, hb3⟩; have hmk := fun W => mk_nd W y hy1 hy2))
    have A3 : Hid (Ad w E L p Y w3) := (HD.out.step (belN (Below.refl _ _) 1)).step hb3
    have hF0 : F 0 = pa (atq L p) := by rw [HF.out, pq_zero L p HC.out.le (fun n hn => (H.out.hgt n hn).1)]
    have M0 : Hid _ := mi_start H.out A3.out y hy1 hy2
    rw [← hF0] at M0
    obtain ⟨n, hn⟩ : ∃ n : Nd, Hid (n = ⟨w3.heap.size + 1, w3.heap.size, E, y, C.cnt⟩) := ⟨_, rfl⟩
    rw [← hn.out] at M0
    have hnh : Hid (n.h = y) := by show n.h = y; rw [hn.out]
    have HNe : Hid (n.e = E) := by show n.e = E; rw [hn.out]
    have hnb : w3.heap.size + 1 = n.b := by rw [hn.out]
    rw [hnb]
    generalize (w3.alloc (.cells (Array.replicate y (.pointer none)) 64)).alloc (.cells #[.string E.u, .int .u64 E.s, .int .i64 E.k, .string E.v, .int .i64 C.cnt, .pointer (F 0), .slice (some ⟨w3.heap.size, 0, none⟩) y y] 88) = W5 at *
    clear hb3 d0 d1 d2 d3 d4 d5 hmk hnb hF0 HHt
    have M1 : Hid (Mi w T C L p Y n (prM L p n) 0 (W5.setCell ⟨n0.b, 5, none⟩ (ptr n.b))) := M0.out.back hlp
    have g6 := M1.out.nb.cell1 6 _ rfl
    have g5 := (M0.out.sk.nod p n0 hlp).cell1 5 _ rfl
    have gf := (M0.out.sk.nod p n0 hlp).frozen 5
    rw [hnh.out] at g6
    clear M0 hlp
    go_wp2_with fail
    go_loopw [55] (fun i wr => ∃ m : Nat, m ≤ y ∧ i = .int .i64 m ∧ Hid (Mi w T C L p Y n (prM L p n) m wr)) (fun i _ => ((y : Int) - intOf i).toNat)
    case atStart => exact ⟨0, Nat.zero_le _, rfl, M1⟩
    case round =>
      obtain ⟨m, hm, rfl, HM⟩ := hrel
      rcases Nat.lt_or_ge m y with hmy | hmy
      · have q0 := HM.out.tow.cell1 m _ (pth_at L p m (by omega))
        have hqp := pq_le L m p
        have hpl := HC.out.le
        have HL := HM.out.sk.links (pq L m p) (by omega)
        unfold lv at HL
        have hlm := rch_lh (pq_rch L m p) (show m < 14 by omega)
        have hcm := HM.out.sk.cell (pq L m p) (by omega) m hlm
        rw [lnM_old] at hcm
        have hfm := HM.out.sk.froz (T := T) (pq L m p) (by omega) (lo L (pq L m p) + m)
        have hn6 := HM.out.nb.cell1 6 _ rfl
        have hnm : wr.cell? ⟨n.x, m, none⟩ = some (.pointer none) := HM.out.nx.cell1 m _ (by unfold nwC; rw [List.getElem?_map, List.getElem?_range (by rw [hnh.out]; exact hmy)]; simp)
        have hnf := HM.out.nx.frozen m
        have hBx : lb T L (pq L m p) ≠ n.x := by have := HM.out.old _ (lb_in T L (pq L m p)); have := HM.out.hx; omega
        have hBx2 : n.x ≠ lb T L (pq L m p) := fun e => hBx e.symm
        have HPut : Hid (Mi w T C L p Y n (prM L p n) (m + 1) ((wr.drew.setCell ⟨n.x, m, none⟩ (pv (nxt (L.drop p) m))).setCell ⟨lb T L (pq L m p), lo L (pq L m p) + m, none⟩ (ptr n.b))) := HM.out.drew.put (by rw [hnh.out]; exact hmy) hpl
        have hcm2 : (wr.drew.setCell ⟨n.x, m, none⟩ (pv (nxt (L.drop p) m))).cell? ⟨lb T L (pq L m p), lo L (pq L m p) + m, none⟩ = some (pv (nxt (L.drop p) m)) := (World.cell?_setCell_other _ _ _ _ (by simp [hBx])).trans hcm
        generalize lb T L (pq L m p) = LB2 at *
        generalize lo L (pq L m p) = LO2 at *
        generalize lh L (pq L m p) = LH2 at *
        generalize pa (atq L (pq L m p)) = AQ at *
        generalize pa (nxt (L.drop p) m) = NQ at *
        rw [hnh.out] at hn6
        have hlz2 : (m : Int) < (LH2 : Int) := by omega
        have hmz : (m : Int) < (y : Int) := by omega
        clear hqp HM
        go_wp2_with (go_at_call 49; refine HL.mono ?_; rintro e w4 ⟨rfl, rfl⟩)
        go_region
        go_wp2_with fail
        go_roundw
        case rel => exact ⟨m + 1, by omega, by go_num, HPut⟩
        case measure => simp [intOf]; omega
      · obtain rfl : m = y := by omega
        have hd := HM.out
        rw [← hnh.out] at hd
        have HDn : Hid _ := hd.done HC.out.le
        have hT16 := HM.out.sk.tab.cell1 16 _ rfl
        have hTf := HM.out.sk.tab.frozen 16
        have HUp : Hid (Upd (SkB T L) w (wr.setCell ⟨T, 16, none⟩ (.int .i64 (C.cnt + 1)))) := HM.out.upd.setCell (fun _ => .inl rfl) _
        clear hd
        go_wp2_with fail
        go_ret
        exact ⟨rfl, n, HNe.out, HM.out.hb, HM.out.hx, HDn.out, HUp.out⟩
end Go.Proofs.YtocanjefonlnaaaDoor
