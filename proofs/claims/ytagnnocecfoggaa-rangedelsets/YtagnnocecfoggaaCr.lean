/-
  The reference's Cut.
-/
import Derived.Test.YtagnnocecfoggaaCn
import Derived.Test.YtagnnocecfoggaaJc
import Derived.Test.YtagnnocecfoggaaRw
import Derived.Deep.RegionLaw
import Derived.Deep.DeepCutAuto
namespace Go.Proofs.Ytagnnocecfoggaa
open Go.RowKit
set_option linter.unusedVariables false
set_option linter.unusedSimpArgs false
abbrev withS (f : Fg) (q : List Int) : List Tm := q.map (fun s => (⟨f.b, f.e, s⟩ : Tm))
theorem jnT_app (L M : List Fg) : jnT (L ++ M) = jnT L ++ jnT M := by simp [jnT]
theorem cutT_step {how : Int} {b e : ByteArray} {L : List Fg} {k : Nat} {f : Fg} (h : L[k]? = some f) : cutT how b e (L.take (k + 1)) = cutT how b e (L.take k) ++ (if onF how (cutF how b e f) = true then withS (cutF how b e f) f.q else []) := by
  unfold cutT
  rw [List.take_add_one, h, Option.toList_some, List.map_append, List.filter_append, jnT_app]
  congr 1
  rw [List.map_cons, List.map_nil]
  cases hc : onF how (cutF how b e f)
  · simp [List.filter_cons, hc, jnT]
  · rw [List.filter_cons, hc]
    simp [jnT, withS]
    rfl
/-- A row of tombstones, and a box with one more. -/
structure Rc (w wr : World) (ov : Value) (T : List Tm) (xb : Nat) (x : Tm) : Prop where
  row : RowT wr w.heap.size ov T
  bx : Blk wr xb 56 x.c
  ne : ov.ownBlock ≠ some xb
  ge : w.heap.size ≤ xb
  bl : Below w.heap.size w wr
theorem Rc.set {w wr : World} {ov : Value} {T : List Tm} {xb : Nat} {x y : Tm} (h : Rc w wr ov T xb x) {i : Nat} {v : Value} (hy : x.c.set i v = y.c) : Rc w (wr.setCell ⟨xb, i, none⟩ v) ov T xb y := by
  have U : Upd (fun k => k = xb) wr (wr.setCell ⟨xb, i, none⟩ v) := Upd.setCell (p := ⟨xb, i, none⟩) (Upd.refl (fun k => k = xb) _) (fun _ => rfl) _
  exact ⟨row_upd h.row U (fun k hk e => h.ne (by rw [← e]; exact hk)), hy ▸ h.bx.set i v, h.ne, h.ge, h.bl.trans (U.below (fun j hj => Nat.lt_of_lt_of_le hj h.bl.size) (fun j hj => by rw [hj]; exact h.ge))⟩
theorem Rc.below {w wr wr' : World} {ov : Value} {T : List Tm} {xb : Nat} {x : Tm} (h : Rc w wr ov T xb x) (hb : Below wr.heap.size wr wr') : Rc w wr' ov T xb x :=
  ⟨row_upd h.row (S := Non) (Upd.ofBelow hb) (fun _ _ h => h), h.bx.upd (S := Non) (Upd.ofBelow hb) (fun h => h), h.ne, h.ge, h.bl.trans (hb.mono h.bl.size)⟩
theorem Rc.push {w wr : World} {ov : Value} {T : List Tm} {xb : Nat} {x : Tm} (h : Rc w wr ov T xb x) (hl : T.length ≤ 10000000) :
    ∃ a n c w', (Builtin.append_ #[22, 22] 22 #[ov, .slice (some ⟨wr.heap.size, 0, none⟩) 1 1]).run Try.prog (wr.alloc (.cells #[.string x.b, .string x.e, .int .u64 x.s] 56)) = .ok (.slice a n c) w' ∧ Rc w w' (.slice a n c) (T ++ [x]) xb x := by
  have hbx : Below wr.heap.size wr (wr.alloc (.cells #[.string x.b, .string x.e, .int .u64 x.s] 56)) := (Below.refl _ _).alloc (Nat.le_refl _) _
  have h1 := h.below hbx
  obtain ⟨v9, w9, hr9, g1, g2, g3, _⟩ := push_tm (base := w.heap.size) (x := x) h1.row h1.bl.size (Blk.new wr 56 x.c) 22 hl
  obtain ⟨a, c, hv⟩ := row_slice g1
  subst hv
  have hlt := h.bx.lt
  refine ⟨a, _, c, w9, hr9, g1, h1.bx.upd g2 h.ne, ?_, h.ge, h1.bl.trans (g2.below (fun k hk => Nat.lt_of_lt_of_le hk h1.bl.size) (fun j hj => (row_blk h1.row j hj).1))⟩
  rcases g3 with g3 | g3
  · rw [g3]; exact h.ne
  · rw [g3]; intro e; injection e with e; have := hbx.size; omega
theorem cut_kinds {how : Int} {b e : ByteArray} {f : Fg} {kb ke : Bool} (h1 : kl how f.b b = kb) (h2 : kl how e f.e = ke) : (cutF how b e f).b = (if kb = true then b else f.b) ∧ (cutF how b e f).e = (if ke = true then e else f.e) := by
  unfold cutF; rw [h1, h2]; exact ⟨rfl, rfl⟩
theorem lt_of_kl {how : Int} {a b : ByteArray} : decide (cmpH how a b < 0) = kl how a b := rfl
set_option maxRecDepth 100000 in
set_option maxHeartbeats 1500000 in
theorem rCut_any {w : World} {a : Option Addr} {c : Nat} {L : List Fg} (h : RdF w a L) (how : Int) (b e : ByteArray) (hl : L.length ≤ 10000) (hq : ∀ f ∈ L, f.q.length ≤ 10000) (hc : ∀ k, (cutT how b e (L.take k)).length ≤ 5000000) :
    Calls Try.prog 25 #[.int .i64 how, .slice a L.length c, .string b, .string e] w fun r w' => ∃ a' c', r = .returned (.slice a' (cutT how b e L).length c') ∧ RdT w' a' (cutT how b e L) ∧ Below w.heap.size w w' := by
  have H : Hid (RdF w a L) := h
  have HQ : Hid ((∀ f ∈ L, f.q.length ≤ 10000) ∧ ∀ k, (cutT how b e (L.take k)).length ≤ 5000000) := ⟨hq, hc⟩
  obtain ⟨N, hN⟩ : ∃ N, Hid (L.length = N) := ⟨_, rfl⟩
  obtain ⟨LR, hLR⟩ : ∃ LR, Hid (cutT how b e L = LR) := ⟨_, rfl⟩
  rw [hN.out] at hl ⊢
  rw [hLR.out]
  have HS0 : Hid (RowT (w.alloc (.cells #[] 56)) w.heap.size (.slice (some ⟨w.heap.size, 0, none⟩) 0 0) [] ∧ Below w.heap.size w (w.alloc (.cells #[] 56))) := by
    have := World.ownsRow_made (base := w.heap.size) (e := 56) (size := 3) w #[] 0 (Nat.le_refl _) (by unfold maxLen; omega) rfl
    exact ⟨this, (Below.refl _ _).alloc (Nat.le_refl _) _⟩
  clear h hq hc
  go_enter Try.func25, Try.ntmps25
  go_wp2_with fail
  go_loopw [9, 10] (fun s9 s10 wr => ∃ (k : Nat) (va : Option Addr) (vn vc : Nat), k ≤ N ∧ s10 = .int .i64 k ∧ s9 = .slice va vn vc ∧ Hid (RowT wr w.heap.size (.slice va vn vc) (cutT how b e (L.take k)) ∧ Below w.heap.size w wr)) (fun _ s10 _ => ((N : Int) - intOf s10).toNat)
  case atStart => exact ⟨0, _, _, _, Nat.zero_le _, rfl, rfl, HS0.out⟩
  case round =>
    clear HS0
    obtain ⟨k, va, vn, vc, hk, rfl, rfl, HB⟩ := hrel
    rcases Nat.lt_or_ge k N with hkN | hkN
    · have hkz : (k : Int) < N := by omega
      obtain ⟨f, hf⟩ : ∃ f, L[k]? = some f := ⟨_, List.getElem?_eq_getElem (by rw [hN.out]; exact hkN)⟩
      obtain ⟨g, o, pa, pk, rfl, t0w, t1w, t2w, t3⟩ := H.out.at_ hf
      have HT3 : Hid (Rd uc 1 w pa f.q) := t3
      have t0 := cell_below HB.out.2 t0w
      have t1 := cell_below HB.out.2 t1w
      have hgl : g < wr.heap.size := by have := cell_lt t0; exact this
      have hql := HQ.out.1 f (List.mem_of_getElem? hf)
      have HSt : Hid (cutT how b e (L.take (k + 1)) = cutT how b e (L.take k) ++ (if onF how (cutF how b e f) = true then withS (cutF how b e f) f.q else [])) := cutT_step hf
      have HJ0 : Hid (∀ W, W = wr.drew.alloc (.cells #[.string f.b, .string f.e, .int .u64 0] 56) → Rc w W (.slice va vn vc) (cutT how b e (L.take k)) wr.heap.size ⟨f.b, f.e, 0⟩) := by
        rintro W rfl
        have hb1 : Below wr.heap.size wr (wr.drew.alloc (.cells #[.string f.b, .string f.e, .int .u64 0] 56)) := (Below.refl _ _).drew.alloc (Nat.le_refl _) _
        refine ⟨rowt_below HB.out.1 hb1, Blk.new wr.drew 56 [.string f.b, .string f.e, .int .u64 0], fun e => ?_, HB.out.2.size, HB.out.2.trans (hb1.mono HB.out.2.size)⟩
        have := (row_blk HB.out.1 _ e).2; omega
      obtain ⟨QN, hQN⟩ : ∃ QN, Hid (f.q.length = QN) := ⟨_, rfl⟩
      rw [hQN.out] at t2w hql
      clear hf t3 HB
      obtain ⟨W0, rfl⟩ : ∃ W0, W0 = wr := ⟨_, rfl⟩
      go_wp2_with fail
      go_cut [11] (fun s11 W => s11 = .pointer (some ⟨W0.heap.size, 0, none⟩) ∧ Hid (Rc w W (.slice va vn vc) (cutT how b e (L.take k)) W0.heap.size ⟨f.b, f.e, 0⟩))
      case first =>
        go_region
        all_goals
          go_wp2_with fail
          go_meet
          exact ⟨rfl, HJ0.out _ rfl⟩
      case rest =>
        obtain ⟨rfl, HC0⟩ := hcut
        clear HJ0 t0 t1
        obtain ⟨xb, hxb⟩ : ∃ xb, Hid (W0.heap.size = xb) := ⟨_, rfl⟩
        rw [hxb.out] at HC0 ⊢
        clear hgl
        have b0 := HC0.out.bx.cell1 0 _ rfl
        have b1 := HC0.out.bx.cell1 1 _ rfl
        have z0 := HC0.out.bx.frozen 0
        have z1 := HC0.out.bx.frozen 1
        have y1 : (wc.setCell ⟨xb, 0, none⟩ (.string b)).cell? ⟨xb, 1, none⟩ = some (.string f.e) := (HC0.out.bx.set 0 (.string b)).cell1 1 _ rfl
        have y2 : (wc.setCell ⟨xb, 0, none⟩ (.string b)).frozen? ⟨xb, 1, none⟩ = false := (HC0.out.bx.set 0 (.string b)).frozen 1
        obtain ⟨CB, hCB⟩ : ∃ CB, Hid ((cutF how b e f).b = CB) := ⟨_, rfl⟩
        obtain ⟨CE, hCE⟩ : ∃ CE, Hid ((cutF how b e f).e = CE) := ⟨_, rfl⟩
        obtain ⟨T, hT⟩ : ∃ T, Hid (cutT how b e (L.take k) = T) := ⟨_, rfl⟩
        have HTl : Hid (T.length ≤ 5000000) := by rw [← hT.out]; exact HQ.out.2 k
        rw [hT.out] at HC0 HSt
        obtain ⟨V, hV⟩ : ∃ V, Hid (kl how CB CE = V) := ⟨_, rfl⟩
        have HSt2 : Hid (cutT how b e (L.take (k + 1)) = T ++ (if V = true then f.q.map (fun s => (⟨CB, CE, s⟩ : Tm)) else [])) := by
          show _ = _
          rw [HSt.out, ← hV.out, ← hCB.out, ← hCE.out]; rfl
        clear HSt
        have hcv : decide (cmpH how CB CE < 0) = V := hV.out
        cases hkb : kl how f.b b <;> cases hke : kl how e f.e
        all_goals
          have hc1 := lt_of_kl (how := how) (a := f.b) (b := b)
          have hc2 := gt_of (how := how) (a := f.e) (b := e)
          rw [hkb] at hc1
          rw [hke] at hc2
          obtain ⟨hB0, hE0⟩ := cut_kinds hkb hke
          rw [hCB.out] at hB0
          rw [hCE.out] at hE0
          simp only [Bool.false_eq_true, if_false, if_true] at hB0 hE0
          have HBE : Hid (CB = _ ∧ CE = _) := ⟨hB0, hE0⟩
          clear hB0 hE0 hkb hke
          go_wp2_with (go_at_call 26; refine (rcmp_any _ _ _ _).mono ?_; rintro r w2 ⟨rfl, hw2⟩; have hw3 := hw2.symm; subst hw3)
          clear hc1 hc2
          go_loopw [9, 12] (fun s9 s12 wr => ∃ (m : Nat) (va : Option Addr) (vn vc : Nat), m ≤ QN ∧ s12 = .int .i64 m ∧ s9 = .slice va vn vc ∧ Hid (∃ s, Rc w wr (.slice va vn vc) (T ++ (f.q.take m).map (fun s => (⟨CB, CE, s⟩ : Tm))) xb ⟨CB, CE, s⟩ ∧ (V = false → m = 0))) (fun _ s12 _ => ((QN : Int) - intOf s12).toNat)
          case atStart =>
            refine ⟨0, _, _, _, Nat.zero_le _, rfl, rfl, 0, ?_, fun _ => rfl⟩
            obtain ⟨hB0, hE0⟩ := HBE.out
            rw [hB0, hE0]
            simp only [List.take_zero, List.map_nil, List.append_nil]
            first | exact HC0.out | exact HC0.out.set rfl | exact (HC0.out.set (y := ⟨b, f.e, 0⟩) rfl).set rfl
          case round =>
            clear HC0 b0 b1 z0 z1 y1 y2
            obtain ⟨m, va, vn, vc, hm, rfl, rfl, HM⟩ := hrel
            obtain ⟨s0, hM, hm0⟩ := HM.out
            have t2 := cell_below hM.bl t2w
            have b0 := hM.bx.cell1 0 _ rfl
            have b1 := hM.bx.cell1 1 _ rfl
            have b2 := hM.bx.cell1 2 _ rfl
            have z2 := hM.bx.frozen 2
            rcases Nat.lt_or_ge m QN with hmN | hmN
            · have hmz : (m : Int) < QN := by omega
              cases V
              · have hm1 := hm0 rfl
                have HE : Hid (RowT wr w.heap.size (.slice va vn vc) (cutT how b e (L.take (k + 1))) ∧ Below w.heap.size w wr) := by
                  refine ⟨?_, hM.bl⟩
                  rw [HSt2.out]
                  have := hM.row
                  rw [hm1] at this
                  simpa using this
                clear hM hm0 hm1
                go_wp2_with (go_at_call 26; refine (rcmp_any _ _ _ _).mono ?_; rintro r w2 ⟨rfl, hw2⟩; have hw3 := hw2.symm; subst hw3)
                go_roundw
                case rel => exact ⟨k + 1, va, vn, vc, by omega, by go_num, rfl, HE.out⟩
                case measure => simp [intOf]; omega
              · obtain ⟨x, hx⟩ : ∃ x, f.q[m]? = some x := ⟨_, List.getElem?_eq_getElem (by rw [hQN.out]; exact hmN)⟩
                obtain ⟨pg, po, rfl, hat⟩ := (HT3.out.below hM.bl).at_ hx
                have x0 := hat.u1
                rw [Nat.mul_one] at x0
                have hN1 := hM.set (i := 2) (v := .int .u64 x) (y := ⟨CB, CE, x⟩) rfl
                have n0 := hN1.bx.cell1 0 _ rfl
                have n1 := hN1.bx.cell1 1 _ rfl
                have n2 := hN1.bx.cell1 2 _ rfl
                have hsz : (wr.setCell ⟨xb, 2, none⟩ (.int .u64 x)).heap.size = wr.heap.size := by simp [World.setCell]
                obtain ⟨a9, m9, c9, w9, hr9, h9⟩ := hN1.push (by rw [List.length_append, List.length_map, List.length_take]; have := HTl.out; omega)
                have HP : Hid (∃ s, Rc w w9 (.slice a9 m9 c9) (T ++ (f.q.take (m + 1)).map (fun s => (⟨CB, CE, s⟩ : Tm))) xb ⟨CB, CE, s⟩ ∧ (true = false → m + 1 = 0)) := by
                  refine ⟨x, ?_, fun h => by cases h⟩
                  rw [List.take_add_one, hx, Option.toList_some, List.map_append, List.map_cons, List.map_nil, ← List.append_assoc]
                  exact h9
                rw [hsz] at hr9
                clear hM hN1 h9 hx hat hm0 hsz
                go_wp2_with (first
                  | (go_at_call 26; refine (rcmp_any _ _ _ _).mono ?_; rintro r w2 ⟨rfl, hw2⟩; have hw3 := hw2.symm; subst hw3)
                  | (at_builtin; refine Lib.wpList_append_run _ rfl _ _ _ _ rfl _ _ rfl rfl _ _ hr9 ?_))
                go_roundw
                case rel => exact ⟨m + 1, a9, m9, c9, by omega, by go_num, rfl, HP.out⟩
                case measure => simp [intOf]; omega
            · obtain rfl : m = QN := by omega
              have hz : ¬ ((m : Int) < m) := by omega
              have HE : Hid (RowT wr w.heap.size (.slice va vn vc) (cutT how b e (L.take (k + 1))) ∧ Below w.heap.size w wr) := by
                refine ⟨?_, hM.bl⟩
                rw [HSt2.out]
                have := hM.row
                rw [show f.q.take m = f.q from List.take_of_length_le (by rw [hQN.out]; omega)] at this
                cases hv : V
                · have hq0 : f.q = [] := List.length_eq_zero_iff.1 (hQN.out.trans (hm0 hv))
                  rw [hq0] at this
                  simpa using this
                · simpa using this
              clear hM hm0
              go_wp2_with fail
              go_roundw
              case rel => exact ⟨k + 1, va, vn, vc, by omega, by go_num, rfl, HE.out⟩
              case measure => simp [intOf]; omega
    · obtain rfl : k = N := by omega
      have hz : ¬ ((k : Int) < k) := by omega
      have HE := HB.out
      rw [List.take_of_length_le (by rw [hN.out]; omega), hLR.out] at HE
      obtain ⟨a4, c4, hv4, _, hrd, _⟩ := row_rd tm_k HE.1
      obtain ⟨RN, hRN⟩ : ∃ RN, Hid (LR.length = RN) := ⟨_, rfl⟩
      rw [hRN.out] at hv4
      injection hv4 with e1 e2 e3
      subst e1 e2 e3
      have HB4 : Hid (RdT wr va LR ∧ Below w.heap.size w wr) := ⟨hrd, HE.2⟩
      clear HE hrd
      go_wp2_with fail
      go_ret
      rw [hRN.out]
      exact ⟨va, ⟨vc, rfl⟩, HB4.out⟩
end Go.Proofs.Ytagnnocecfoggaa
