import Derived.Test.YtocanjefonlnaaaDoorB
import Derived.Deep.DeepCutAuto
import Derived.Deep.RegionWith
import Derived.Deep.LoopGhost
import Derived.Deep.RegionHeldLaw
import Derived.Laws.Rows
namespace Go.Proofs.YtocanjefonlnaaaDoor
open Go.RowKit
set_option linter.unusedVariables false
set_option linter.unusedSimpArgs false
/-- What ahead tells: of each level the last place ahead. -/
def pth (L : List Nd) (p m : Nat) : List Value := (List.range 14).map fun i => if m ≤ i then pv (atq L (pq L i p)) else .pointer none
theorem pth_set (L : List Nd) (p m : Nat) (hm : m < 14) : (pth L p (m + 1)).set m (pv (atq L (pq L m p))) = pth L p m := by
  apply List.ext_getElem?
  intro i
  rw [List.getElem?_set]
  unfold pth
  simp only [List.length_map, List.length_range, List.getElem?_map]
  by_cases h : m = i
  · subst h; simp [hm, List.getElem?_range hm]
  · rw [if_neg h]
    by_cases hi : i < 14
    · rw [List.getElem?_range hi]
      simp only [Option.map_some]
      by_cases h2 : m + 1 ≤ i
      · rw [if_pos h2, if_pos (by omega)]
      · rw [if_neg h2, if_neg (by omega)]
    · rw [List.getElem?_eq_none (by simp; omega)]; rfl
/-- The order of an entry and a key. -/
def okey (how : Int) (e : Ent) (U : ByteArray) (S K : Int) : Int := ordK how e.u e.s e.k U S K
theorem order_any (how : Int) (u : ByteArray) (s k : Int) (u' : ByteArray) (s' k' : Int) (w : World) :
    Calls Tryd.prog 60 #[.int .i64 how, .agg #[.string u, .int .u64 s, .int .i64 k], .agg #[.string u', .int .u64 s', .int .i64 k']] w fun e w' => e = .returned (.int .i64 (ordK how u s k u' s' k')) ∧ Below w.heap.size w w' := by
  refine (cord_any how u s k u' s' k' w).mono ?_
  rintro e w' ⟨rfl, rfl⟩
  exact ⟨rfl, ((Below.refl _ _).alloc (Nat.le_refl _) _).alloc (by simp) _⟩
theorem keepc {w w1 : World} (h : Below w.heap.size w w1) {b o : Nat} {v : Value} (hc : w.cell? ⟨b, o, none⟩ = some v) : w1.cell? ⟨b, o, none⟩ = some v := by
  have hb : b < w.heap.size := block_lt_of_cell hc
  exact (h.cell (p := ⟨b, o, none⟩) hb).trans hc
theorem keep7 {w w1 : World} (h : Below w.heap.size w w1) {b1 b2 b3 b4 b5 b6 b7 o1 o2 o3 o4 o5 o6 o7 : Nat} {v1 v2 v3 v4 v5 v6 v7 : Value}
    (hc : w.cell? ⟨b1, o1, none⟩ = some v1 ∧ w.cell? ⟨b2, o2, none⟩ = some v2 ∧ w.cell? ⟨b3, o3, none⟩ = some v3 ∧ w.cell? ⟨b4, o4, none⟩ = some v4 ∧ w.cell? ⟨b5, o5, none⟩ = some v5 ∧ w.cell? ⟨b6, o6, none⟩ = some v6 ∧ w.cell? ⟨b7, o7, none⟩ = some v7) :
    w1.cell? ⟨b1, o1, none⟩ = some v1 ∧ w1.cell? ⟨b2, o2, none⟩ = some v2 ∧ w1.cell? ⟨b3, o3, none⟩ = some v3 ∧ w1.cell? ⟨b4, o4, none⟩ = some v4 ∧ w1.cell? ⟨b5, o5, none⟩ = some v5 ∧ w1.cell? ⟨b6, o6, none⟩ = some v6 ∧ w1.cell? ⟨b7, o7, none⟩ = some v7 :=
  ⟨keepc h hc.1, keepc h hc.2.1, keepc h hc.2.2.1, keepc h hc.2.2.2.1, keepc h hc.2.2.2.2.1, keepc h hc.2.2.2.2.2.1, keepc h hc.2.2.2.2.2.2⟩
def lnF (L : List Nd) : Nat → Nat → Option Nd := fun q j => nxt (L.drop q) j
theorem pv_ne {o : Option Nd} {n : Nd} (h : o = some n) : pv o = ptr n.b := by rw [h]; rfl
theorem pth_some (L : List Nd) (p m i : Nat) (hi : i < 14) : ∃ v, (pth L p m)[i]? = some v := by
  unfold pth
  rw [List.getElem?_map, List.getElem?_range hi]
  exact ⟨_, rfl⟩
/-- While ahead looks. -/
structure Ah (w : World) (U : ByteArray) (S K : Int) (L : List Nd) (p m : Nat) (W : World) : Prop where
  bel : Below w.heap.size w W
  key : Blk W w.heap.size 38 [.string U, .int .u64 S, .int .i64 K]
  res : Blk W (w.heap.size + 1) 66 (List.replicate 14 (.pointer none))
  pat : Blk W (w.heap.size + 1 + 1) 66 (pth L p m)
theorem Ah.step {w : World} {U : ByteArray} {S K : Int} {L : List Nd} {p m : Nat} {W W' : World} (h : Ah w U S K L p m W) (b : Below W.heap.size W W') : Ah w U S K L p m W' :=
  ⟨h.bel.trans (b.mono h.bel.size), h.key.upd (S := Non) (Upd.ofBelow b) (fun x => x), h.res.upd (S := Non) (Upd.ofBelow b) (fun x => x), h.pat.upd (S := Non) (Upd.ofBelow b) (fun x => x)⟩
theorem Ah.put {w : World} {U : ByteArray} {S K : Int} {L : List Nd} {p m : Nat} {W : World} (h : Ah w U S K L p (m + 1) W) (hm : m < 14) : Ah w U S K L p m (W.setCell ⟨w.heap.size + 1 + 1, m, none⟩ (pv (atq L (pq L m p)))) :=
  ⟨h.bel.setCell (by show w.heap.size ≤ w.heap.size + 1 + 1; omega) _, h.key.other (by show w.heap.size ≠ w.heap.size + 1 + 1; omega) _, h.res.other (by show w.heap.size + 1 ≠ w.heap.size + 1 + 1; omega) _, by rw [← pth_set L p m hm]; exact h.pat.set m _⟩
theorem Ah.drewN {w : World} {U : ByteArray} {S K : Int} {L : List Nd} {p m : Nat} {W : World} (h : Ah w U S K L p m W) (n : Nat) : Ah w U S K L p m (W.drewN n) :=
  ⟨belN h.bel n, h.key, h.res, h.pat⟩
theorem Ah.pcell {w : World} {U : ByteArray} {S K : Int} {L : List Nd} {p m m' : Nat} {W : World} (h : Ah w U S K L p m' W) (hm : m < 14) : ∃ v, W.cell? ⟨w.heap.size + 1 + 1, m, none⟩ = some v := by
  obtain ⟨v, hv⟩ := pth_some L p m' m hm
  exact ⟨v, h.pat.cell1 m v hv⟩
set_option maxRecDepth 100000 in
set_option maxHeartbeats 4000000 in
theorem ahead_any {w : World} {T : Nat} {C : Tc} {L : List Nd} {pr : Nat → Option Nd} (h : Sk w T C L (lnF L) pr) (U : ByteArray) (S K : Int) (p : Nat) (hp : p ≤ L.length)
    (hlo : ∀ i n, i < p → L[i]? = some n → okey C.how n.e U S K < 0) (hhi : ∀ i n, p ≤ i → L[i]? = some n → ¬ okey C.how n.e U S K < 0) :
    Calls Tryd.prog 50 #[ptr T, .agg #[.string U, .int .u64 S, .int .i64 K]] w fun e w' => e = .returned (.agg (pth L p 0).toArray) ∧ Below w.heap.size w w' := by
  have H : Hid (Sk w T C L (lnF L) pr) := h
  have hT := h.tab.lt
  have HLO : Hid (∀ i n, i < p → L[i]? = some n → okey C.how n.e U S K < 0) := hlo
  have HHI : Hid (∀ i n, p ≤ i → L[i]? = some n → 0 ≤ okey C.how n.e U S K) := fun i n h1 h2 => Int.not_lt.1 (hhi i n h1 h2)
  clear h hlo hhi
  go_enter Tryd.func50, Tryd.ntmps50
  go_wp2

  go_loopw [6, 7] (fun a l wr => ∃ (m q : Nat), m ≤ 14 ∧ a = .pointer (pa (atq L q)) ∧ l = .int .i64 ((m : Int) - 1) ∧ q ≤ p ∧ Hid (∀ j, j < m → Rch L q j) ∧ Hid (Ah w U S K L p m wr)) (fun _ l _ => (intOf l + 1).toNat)
  case atStart =>
    refine ⟨14, 0, Nat.le_refl _, rfl, rfl, Nat.zero_le _, fun _ _ => .inl rfl, ⟨?_, ?_, ?_, ?_⟩⟩
    · exact (((Below.refl _ _).alloc (Nat.le_refl _) _).alloc (by simp) _).alloc (by simp; omega) _
    · exact ((Blk.new w 38 _).alloc _).alloc _
    · have := Blk.new (w.alloc (Obj.cells #[Value.string U, Value.int IntKind.u64 S, Value.int IntKind.i64 K] 38)) 66 (List.replicate 14 (.pointer none))
      simp only [World.size_alloc] at this
      exact this.alloc _
    · have := Blk.new ((w.alloc (Obj.cells #[Value.string U, Value.int IntKind.u64 S, Value.int IntKind.i64 K] 38)).alloc (Obj.cells (List.replicate 14 (Value.pointer none)).toArray 66)) 66 (pth L p 14)
      simp only [World.size_alloc] at this
      exact this
  case round =>
    obtain ⟨m, q, hm, rfl, rfl, hq, HR, HA⟩ := hrel
    by_cases hm0 : m = 0
    · subst hm0
      have B5 := HA.out.pat
      have B4 := HA.out.res
      have HP : Hid (∀ F : Nat → Option Addr, (∀ i, F i = pa (atq L (pq L i p))) → (pth L p 0).toArray = #[.pointer (F 0), .pointer (F 1), .pointer (F 2), .pointer (F 3), .pointer (F 4), .pointer (F 5), .pointer (F 6), .pointer (F 7), .pointer (F 8), .pointer (F 9), .pointer (F 10), .pointer (F 11), .pointer (F 12), .pointer (F 13)]) := fun F hF => by
        simp only [hF]; rfl
      obtain ⟨F, HF⟩ : ∃ F : Nat → Option Addr, Hid (∀ i, F i = pa (atq L (pq L i p))) := ⟨fun i => pa (atq L (pq L i p)), fun _ => rfl⟩
      have c0 := B5.cell1 0 (.pointer (F 0)) (by rw [HF.out]; rfl)
      have r0 := B4.cell1 0 (.pointer none) rfl
      have f0 := B4.frozen 0
      have c1 := B5.cell1 1 (.pointer (F 1)) (by rw [HF.out]; rfl)
      have r1 := B4.cell1 1 (.pointer none) rfl
      have f1 := B4.frozen 1
      have c2 := B5.cell1 2 (.pointer (F 2)) (by rw [HF.out]; rfl)
      have r2 := B4.cell1 2 (.pointer none) rfl
      have f2 := B4.frozen 2
      have c3 := B5.cell1 3 (.pointer (F 3)) (by rw [HF.out]; rfl)
      have r3 := B4.cell1 3 (.pointer none) rfl
      have f3 := B4.frozen 3
      have c4 := B5.cell1 4 (.pointer (F 4)) (by rw [HF.out]; rfl)
      have r4 := B4.cell1 4 (.pointer none) rfl
      have f4 := B4.frozen 4
      have c5 := B5.cell1 5 (.pointer (F 5)) (by rw [HF.out]; rfl)
      have r5 := B4.cell1 5 (.pointer none) rfl
      have f5 := B4.frozen 5
      have c6 := B5.cell1 6 (.pointer (F 6)) (by rw [HF.out]; rfl)
      have r6 := B4.cell1 6 (.pointer none) rfl
      have f6 := B4.frozen 6
      have c7 := B5.cell1 7 (.pointer (F 7)) (by rw [HF.out]; rfl)
      have r7 := B4.cell1 7 (.pointer none) rfl
      have f7 := B4.frozen 7
      have c8 := B5.cell1 8 (.pointer (F 8)) (by rw [HF.out]; rfl)
      have r8 := B4.cell1 8 (.pointer none) rfl
      have f8 := B4.frozen 8
      have c9 := B5.cell1 9 (.pointer (F 9)) (by rw [HF.out]; rfl)
      have r9 := B4.cell1 9 (.pointer none) rfl
      have f9 := B4.frozen 9
      have c10 := B5.cell1 10 (.pointer (F 10)) (by rw [HF.out]; rfl)
      have r10 := B4.cell1 10 (.pointer none) rfl
      have f10 := B4.frozen 10
      have c11 := B5.cell1 11 (.pointer (F 11)) (by rw [HF.out]; rfl)
      have r11 := B4.cell1 11 (.pointer none) rfl
      have f11 := B4.frozen 11
      have c12 := B5.cell1 12 (.pointer (F 12)) (by rw [HF.out]; rfl)
      have r12 := B4.cell1 12 (.pointer none) rfl
      have f12 := B4.frozen 12
      have c13 := B5.cell1 13 (.pointer (F 13)) (by rw [HF.out]; rfl)
      have r13 := B4.cell1 13 (.pointer none) rfl
      have f13 := B4.frozen 13
      have BX : Hid _ := ((((((((((((((B4.set 0 (.pointer (F 0))).set 1 (.pointer (F 1))).set 2 (.pointer (F 2))).set 3 (.pointer (F 3))).set 4 (.pointer (F 4))).set 5 (.pointer (F 5))).set 6 (.pointer (F 6))).set 7 (.pointer (F 7))).set 8 (.pointer (F 8))).set 9 (.pointer (F 9))).set 10 (.pointer (F 10))).set 11 (.pointer (F 11))).set 12 (.pointer (F 12))).set 13 (.pointer (F 13)))
      clear B5 B4
      go_wp2
      (try simp only [Exit.inBlock, Exit.then])
      refine bodyPost_ret (results_cell_row rfl _ _ (w.heap.size + 1) 66 #[.pointer (F 0), .pointer (F 1), .pointer (F 2), .pointer (F 3), .pointer (F 4), .pointer (F 5), .pointer (F 6), .pointer (F 7), .pointer (F 8), .pointer (F 9), .pointer (F 10), .pointer (F 11), .pointer (F 12), .pointer (F 13)] (0, 0) _ rfl BX.out Tryd.underlying66 rfl (by kernel_rfl)) rfl ?_
      refine ⟨?_, ?_⟩
      · rw [HP.out F HF.out]
      · repeat (refine Below.setCell ?_ (by show w.heap.size ≤ w.heap.size + 1; omega) _)
        exact HA.out.bel
    · obtain ⟨m, rfl⟩ : ∃ m', m = m' + 1 := ⟨m - 1, by omega⟩
      have em : (((m + 1 : Nat) : Int) - 1) = m := by omega
      rw [em]
      have hmz : (0 : Int) ≤ m := by omega
      have HL := (H.out.below (HA.out.bel)).links q (by omega)
      unfold lv at HL
      have hj := rch_lh (HR.out m (by omega)) (by omega)
      have hc := (H.out.below (HA.out.bel)).cell q (by omega) m hj
      generalize lb T L q = LB at *
      generalize lo L q = LO at *
      generalize lh L q = LH at *
      go_wp2_with (go_at_call 49; refine HL.mono ?_; rintro e w' ⟨rfl, rfl⟩)
      clear HL hc
      obtain ⟨W0, rfl⟩ : ∃ W0, W0 = w' := ⟨_, rfl⟩
      go_loopg [6, 8] (L.length - q) (fun k a n wr => ∃ (q' : Nat), k = L.length - q' ∧ a = .pointer (pa (atq L q')) ∧ n = .pointer (pa (nxt (L.drop q') m)) ∧ q' ≤ p ∧ Hid (∀ j, j < m + 1 → Rch L q' j) ∧ Hid (Ah w U S K L p (m + 1) wr))
      case atStart => exact ⟨q, rfl, rfl, rfl, hq, HR, HA⟩
      case round =>
        obtain ⟨q', rfl, rfl, rfl, hq', HR', HA'⟩ := hrel
        have HS : Hid (Sk wr T C L (lnF L) pr) := H.out.below HA'.out.bel
        cases e : nxt (L.drop q') m with
        | none =>
          have HQ : Hid (q' = pq L m p) := pq_uniq L m p q' hq' (HR'.out m (by omega)) (fun i h1 h2 n hn => nxt_none L m q' e i h1 n hn)
          have B5 := HA'.out.pat
          have b5 := B5.frozen m
          obtain ⟨v5, b6⟩ := HA'.out.pcell (m := m) (by omega)
          clear B5 e
          obtain ⟨A, HAt⟩ : ∃ A, Hid (pa (atq L q') = A) := ⟨_, rfl⟩
          rw [HAt.out, show pa (none : Option Nd) = none from rfl]
          go_wp2_with fail
          go_big_quiet (fail)
          go_wp2_with fail
          go_roundw
          case rel =>
            refine ⟨m, q', by omega, by rw [HAt.out], by go_num, hq', fun j hj => HR'.out j (by omega), ?_⟩
            have := HA'.out.drewN nq
            rw [← HAt.out, HQ.out]
            exact this.put (by omega)
          case measure => simp [intOf]
        | some n =>
          obtain ⟨i, h1, h2, h3, h4⟩ := nxt_some L m n _ q' rfl e
          have BN := HS.out.nod i n h2
          have n0 := BN.cell1 0 _ rfl
          have n1 := BN.cell1 1 _ rfl
          have n2 := BN.cell1 2 _ rfl
          have n6 := BN.cell1 6 _ rfl
          have k0 := HA'.out.key.cell1 0 _ rfl
          have k1 := HA'.out.key.cell1 1 _ rfl
          have k2 := HA'.out.key.cell1 2 _ rfl
          have t0 := HS.out.tab.cell1 0 _ rfl
          obtain ⟨A, HAt⟩ : ∃ A, Hid (pa (atq L q') = A) := ⟨_, rfl⟩
          rw [HAt.out, show pa (some n : Option Nd) = some ⟨n.b, 0, none⟩ from rfl]
          have HO := order_any C.how n.e.u n.e.s n.e.k U S K
          rcases Nat.lt_or_ge i p with hip | hip
          · have ho := HLO.out i n hip h2
            unfold okey at ho
            generalize ordK C.how n.e.u n.e.s n.e.k U S K = O at *
            go_wp2_with fail
            go_region_held_law (fun w' => w'.cell? ⟨T, 0, none⟩ = some (.int .i64 C.how) ∧ w'.cell? ⟨n.b, 0, none⟩ = some (.string n.e.u) ∧ w'.cell? ⟨n.b, 1, none⟩ = some (.int .u64 n.e.s) ∧ w'.cell? ⟨n.b, 2, none⟩ = some (.int .i64 n.e.k) ∧ w'.cell? ⟨w.heap.size, 0, none⟩ = some (.string U) ∧ w'.cell? ⟨w.heap.size, 1, none⟩ = some (.int .u64 S) ∧ w'.cell? ⟨w.heap.size, 2, none⟩ = some (.int .i64 K))
              (first | (go_keep; done) | (refine keep7 hb1 ?_ <;> assumption))
              ((go_at_call 60; refine (HO _).mono ?_; rintro e w1 ⟨rfl, hb1⟩))
            have A2 : Hid (Ah w U S K L p (m + 1) w1) := (HA'.out.drewN 1).step hb1
            have HS2 : Hid (Sk w1 T C L (lnF L) pr) := H.out.below A2.out.bel
            have n6' := (HS2.out.nod i n h2).cell1 6 _ rfl
            have ea : atq L (i + 1) = some n := h2
            have hc2 := HS2.out.cell (i + 1) (by omega) m (by unfold lh; rw [ea]; exact h3)
            have hi1 : lb T L (i + 1) = n.x := by unfold lb; rw [ea]
            have hi2 : lo L (i + 1) = 0 := by unfold lo; rw [ea]
            rw [hi1, hi2, Nat.zero_add] at hc2
            have h3z : (m : Int) < (n.h : Int) := by omega
            have HN : Hid (lnF L (i + 1) m = nxt (L.drop (i + 1)) m) := rfl
            generalize lnF L (i + 1) m = N2 at hc2 HN
            have HI : Hid (pa (atq L (i + 1)) = some ⟨n.b, 0, none⟩) := by show pa (L[i]?) = _; rw [h2]; rfl
            have HD : Hid (L.length - (i + 1) < L.length - q') := by
              have : i < L.length := by omega
              show _ < _
              omega
            have HRR : Hid (∀ j, j < m + 1 → Rch L (i + 1) j) := fun j hj => .inr ⟨n, by omega, h2, by omega⟩
            clear hi1 hi2 h4 e ea hb1 n0 n1 n2 n6 k0 k1 k2 t0 BN HO
            go_wp2_with fail
            go_region
            go_wp2_with fail
            go_roundg (L.length - (i + 1))
            case rel => exact ⟨i + 1, rfl, by rw [HI.out], by rw [← HN.out], by omega, HRR, A2.out.drewN _⟩
            case measure => exact HD.out
          · have ho := HHI.out i n hip h2
            unfold okey at ho
            generalize ordK C.how n.e.u n.e.s n.e.k U S K = O at *
            have HQ : Hid (q' = pq L m p) := pq_uniq L m p q' hq' (HR'.out m (by omega)) (fun k h5 h6 n' hn => h4 k h5 (by omega) n' hn)
            clear h4 e
            go_wp2_with fail
            go_region_held_law (fun w' => w'.cell? ⟨T, 0, none⟩ = some (.int .i64 C.how) ∧ w'.cell? ⟨n.b, 0, none⟩ = some (.string n.e.u) ∧ w'.cell? ⟨n.b, 1, none⟩ = some (.int .u64 n.e.s) ∧ w'.cell? ⟨n.b, 2, none⟩ = some (.int .i64 n.e.k) ∧ w'.cell? ⟨w.heap.size, 0, none⟩ = some (.string U) ∧ w'.cell? ⟨w.heap.size, 1, none⟩ = some (.int .u64 S) ∧ w'.cell? ⟨w.heap.size, 2, none⟩ = some (.int .i64 K))
              (first | (go_keep; done) | (refine keep7 hb1 ?_ <;> assumption))
              ((go_at_call 60; refine (HO _).mono ?_; rintro e w1 ⟨rfl, hb1⟩))
            have A2 : Hid (Ah w U S K L p (m + 1) w1) := (HA'.out.drewN 1).step hb1
            have b5 := A2.out.pat.frozen m
            obtain ⟨v5, b6⟩ := A2.out.pcell (m := m) (by omega)
            clear hb1 n0 n1 n2 n6 k0 k1 k2 t0 BN HO
            go_wp2_with fail
            go_roundw
            case rel =>
              refine ⟨m, q', by omega, by rw [HAt.out], by go_num, hq', fun j hj => HR'.out j (by omega), ?_⟩
              rw [← HAt.out, HQ.out]
              exact A2.out.put (by omega)
            case measure => simp [intOf]
end Go.Proofs.YtocanjefonlnaaaDoor
