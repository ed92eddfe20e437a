import Derived.Test.YtkdjahgndkdnhaaX
import Derived.Deep.Onto
import Derived.Deep.DeepCutAuto
namespace Go.Proofs.Ytkdjahgndkdnhaa
open Go.RowKit Go.Maps Go.Shelf
set_option linter.unusedVariables false
set_option linter.unusedSimpArgs false
/-- Slices of bytes that came in. -/
def ArgS (w : World) (a : Option Addr) (len : Nat) (bs : List (List Int)) : Prop :=
  bs.length = len ∧ len ≤ 140737488351232 ∧ ∀ (i : Nat) (l : List Int), bs[i]? = some l → ∃ B off A C, a = some ⟨B, off, none⟩ ∧ B < w.heap.size ∧ w.cell? ⟨B, off + i, none⟩ = some (.slice A l.length C) ∧ ArgW w A l.length C l
def bAt (bs : List (List Int)) (i : Nat) : List Int := bs.getD i []
def pg (bs : List (List Int)) (i : Nat) : List (Int × Int) := prog [] (ksTo (bAt bs i) 8)
/-- What SchedOrder has built of the first k tasks. -/
structure Bd (w wr : World) (lv : Value) (dvs : List Value) (bs : List (List Int)) (k : Nat) : Prop where
  own : wr.ownsRow w.heap.size 36 1 lv k dvs
  dl : dvs.length = k
  rows : ∀ i v, dvs[i]? = some v → OwD wr w.heap.size v (pg bs i)
  bel : Below w.heap.size w wr
def totS (bs : List (List Int)) (k : Nat) : Nat := sumTo (fun i => (pg bs i).length + 1) k
theorem totS_le (bs : List (List Int)) : ∀ k, totS bs k ≤ 25 * k
  | 0 => by simp [totS, sumTo]
  | k + 1 => by
    have h1 := totS_le bs k
    have h2 := prog_len (bAt bs k)
    unfold totS at h1 ⊢
    simp only [sumTo]
    unfold pg at h1 ⊢
    omega
theorem Bd.step {w wr W W2 : World} {lv : Value} {dvs : List Value} {bs : List (List Int)} {k : Nat} {da : Option Addr} {dc dn : Nat} {av : Option Addr} {cv : Nat} (h : Bd w wr lv dvs bs k) (hd : OwD W wr.heap.size (.slice da dn dc) (pg bs k)) (hB : Below wr.heap.size wr W)
    (hr : W2.ownsRow w.heap.size 36 1 (.slice av (k + 1) cv) (k + 1) (dvs ++ [.slice da dn dc])) (hg : (W.alloc (.cells #[.slice da dn dc] 36)).grownBy W2 lv.ownBlock) : Bd w W2 (.slice av (k + 1) cv) (dvs ++ [.slice da dn dc]) bs (k + 1) := by
  have U : Upd (fun j => lv.ownBlock = some j) W W2 := ((Upd.refl _ W).alloc _).grown hg (fun j hj _ => hj)
  have lW : W.ownsRow w.heap.size 36 1 lv k dvs := row_upd h.own (S := Non) (Upd.ofBelow hB) (fun _ _ h => h)
  refine ⟨hr, by simp [h.dl], ?_, ?_⟩
  · intro i v hv
    by_cases hi : i < dvs.length
    · rw [List.getElem?_append_left hi] at hv
      have r0 := h.rows i v hv
      have r1 : OwD W w.heap.size v (pg bs i) := row_upd r0 (S := Non) (Upd.ofBelow hB) (fun _ _ h => h)
      exact row_upd r1 U (fun j hj e => row_row_ne r1 lW (by decide) j hj e)
    · have hi2 : i = k := by
        have := (List.getElem?_eq_some_iff.1 hv).1
        simp at this
        have := h.dl
        omega
      subst hi2
      rw [List.getElem?_append_right (by rw [h.dl]; omega)] at hv
      simp [h.dl] at hv
      subst hv
      have hd' : OwD W w.heap.size (.slice da dn dc) (pg bs i) := World.ownsRow.mono hd h.bel.size
      exact row_upd hd' U (fun j hj e => row_row_ne hd' lW (by decide) j hj e)
  · refine (h.bel.trans (hB.mono h.bel.size)).trans ⟨U.os, U.tape, U.output, U.size, fun j hj => U.block j ?_ (fun e => by have := (h.own.lt j e).1; omega)⟩
    have := h.bel.size
    have := hB.size
    omega
theorem Bd.rdd {w wc : World} {la : Option Addr} {lc : Nat} {dvs : List Value} {bs : List (List Int)} {k : Nat} (S : Bd w wc (.slice la k lc) dvs bs k) : RdDD wc (.slice la k lc) ((List.range k).map (pg bs)) wc.heap.size := by
  refine ⟨la, lc, by simp, ?_⟩
  intro i l hl
  have hi : i < k := by
    have := (List.getElem?_eq_some_iff.1 hl).1
    simpa using this
  have hv := List.getElem?_eq_getElem (l := dvs) (i := i) (by rw [S.dl]; exact hi)
  generalize dvs[i]'(by rw [S.dl]; exact hi) = v at hv
  have el : l = pg bs i := by
    rw [List.getElem?_map, List.getElem?_range hi] at hl
    simpa using hl.symm
  have hr := S.own
  rcases hr.2 with ⟨e, h0⟩ | ⟨g, cap, cur, e, _⟩
  · omega
  · cases e
    have hc := hr.cells (g := g) rfl i v hv
    rw [add_at] at hc
    exact ⟨g, 0, v, rfl, (hr.lt g rfl).2, by simpa using hc, by rw [el]; exact (S.rows i v hv).rd⟩
def lsOf (bs : List (List Int)) (k : Nat) (i : Nat) : List (Int × Int) := lsAt ((List.range k).map (pg bs)) i
theorem lsOf_eq {bs : List (List Int)} {k i : Nat} (h : i < k) : lsOf bs k i = pg bs i := by
  unfold lsOf lsAt
  rw [List.getD_eq_getElem?_getD, List.getElem?_map, List.getElem?_range h]; rfl
theorem ord_begin {w W : World} {b : Nat} {rv : Value} {m : Nat} {ps : List Nat} {ts : List Tk} {xb : Nat} {dv : Value} {q : Nat → Nat} {lv : Nat → Value} {bs : List (List Int)} {k : Nat} (G : Bg w W b rv m ps ts xb dv q lv ((List.range k).map (pg bs)) k) :
    Ord w W b rv m ps ts (fun _ => none) 0 xb dv (.slice none 0 0) [] W.heap.size q lv (lsOf bs k) (fun _ => 0) k (fun _ => []) (totS bs k) := by
  have htk : ∀ i t, ts[i]? = some t → i < k ∧ t = tk0 q i := by
    intro i t ht
    rw [G.tsk, List.getElem?_map] at ht
    by_cases hi : i < k
    · rw [List.getElem?_range hi] at ht
      exact ⟨hi, by simpa using ht.symm⟩
    · rw [List.getElem?_eq_none (by simpa using hi)] at ht
      simp at ht
  refine ⟨⟨G.sc, ⟨G.pr, World.ownsRow_nil _ _ _ _⟩, G.bx, G.rd, G.qq, G.qo, G.bel.size, Nat.le_refl _, G.ox, G.olds, G.lps, G.bel⟩, ?_, ?_, ⟨fun i _ h hh => by simp at hh, fun x v hh => by simp at hh⟩, by simp, by simp, fun i _ => Nat.zero_le _, ?_⟩
  · intro i t ht
    obtain ⟨hi, rfl⟩ := htk i t ht
    rw [List.drop_zero, lsOf_eq hi]
    exact ⟨rfl, .inl ⟨rfl, rfl, rfl, ksTo (bAt bs i) 8, rfl, ks_falls _, ks_lt _⟩⟩
  · intro t ht
    obtain ⟨i, hi⟩ := List.mem_iff_getElem?.1 ht
    obtain ⟨_, rfl⟩ := htk i t hi
    exact ⟨by unfold tk0 I64; dsimp only; omega, by unfold tk0 I64; dsimp only; omega, by unfold tk0; dsimp only; omega, by unfold tk0; dsimp only; omega⟩
  · rw [Nat.zero_add]
    apply Nat.le_of_eq
    unfold totS
    apply sumTo_congr
    intro i hi
    have ht : ts[i]? = some (tk0 q i) := by rw [G.tsk, List.getElem?_map, List.getElem?_range hi]; rfl
    rw [getD_some ht, List.drop_zero, lsOf_eq hi]
    unfold remT tk0
    simp
theorem Ord.below {w W W' : World} {b : Nat} {rv : Value} {m : Nat} {ps : List Nat} {ts : List Tk} {H : Int → Option Int} {st xb : Nat} {dv tv : Value} {T : List Int} {M : Nat} {q : Nat → Nat} {lv : Nat → Value} {ls : Nat → List (Int × Int)} {at_ : Nat → Nat} {n : Nat} {hold : Nat → List Nat} {total : Nat} (h : Ord w W b rv m ps ts H st xb dv tv T M q lv ls at_ n hold total) (hB : Below W.heap.size W W') : Ord w W' b rv m ps ts H st xb dv tv T M q lv ls at_ n hold total :=
  ⟨h.ps.below hB, h.tk, h.ok, h.hi, h.zero, h.tl, h.la, h.sum⟩
set_option maxRecDepth 100000 in
set_option maxHeartbeats 1600000 in
theorem order_walk (a : Option Addr) (len cap : Nat) (bs : List (List Int)) (pa : Option Addr) (plen pcap : Nat) (pl : List Int) (w : World) (h : ArgS w a len bs) (hp : Arg w pa plen pcap pl) :
    Calls Try.prog 6 #[.slice a len cap, .slice pa plen pcap] w fun e w' => e = .returned (.bool true) ∧ Below w.heap.size w w' := by
  obtain ⟨n, hn, hnl, hn64, hn3⟩ : ∃ n : Nat, n = min len 64 ∧ n ≤ len ∧ n ≤ 64 ∧ (n < len → n = 64) := ⟨_, rfl, by omega, by omega, by omega⟩
  have hlen := h.1
  have hl3 := h.2.1
  have hp3 := hp.2.2.1
  have hn' : Hid _ := hn
  clear hn
  go_enter Try.func6, Try.ntmps6
  go_wp2_with (go_at_call 14; refine (lives_any _).mono ?_; rintro e w1 ⟨rfl, hB1⟩)
  have S0 : Bd w w1 (.slice none 0 0) [] bs 0 := ⟨World.ownsRow_nil _ _ _ _, rfl, fun i v hv => by simp at hv, hB1⟩
  clear hB1
  go_loopw [5, 6, 7] (fun lv tt i wr => ∃ (k : Nat) (dvs : List Value), k ≤ n ∧ i = .int .i64 k ∧ tt = .int .i64 (totS bs k) ∧ Bd w wr lv dvs bs k) (fun _ _ i _ => n - (intOf i).toNat)
  case atStart => exact ⟨0, [], Nat.zero_le _, rfl, rfl, S0⟩
  case round =>
    clear S0
    obtain ⟨k, dvs, hk, rfl, rfl, S⟩ := hrel
    obtain ⟨W0, rfl⟩ : ∃ W0, W0 = wr := ⟨_, rfl⟩
    have htk := totS_le bs k
    by_cases hlt : k < n
    · have h1 : (k : Int) < (len : Int) := by omega
      have h2 : (k : Int) < 64 := by omega
      have h0 : (0 : Int) ≤ (k : Int) := by omega
      have hx := List.getElem?_eq_getElem (l := bs) (i := k) (by omega)
      have hbk : bAt bs k = bs[k]'(by omega) := by unfold bAt; rw [List.getD_eq_getElem?_getD, hx]; rfl
      generalize bs[k]'(by omega) = l at hx hbk
      obtain ⟨B, off, A, C, rfl, hBl, hcell, hA⟩ := h.2.2 k l hx
      have hpg : pg bs k = lk (ksTo l 8) ++ unl (ksFrom l 0) := by unfold pg; rw [hbk, prog_ks]
      have htot : totS bs (k + 1) = totS bs k + ((pg bs k).length + 1) := rfl
      have hpl : (pg bs k).length ≤ 24 := prog_len _
      obtain ⟨la, lc, rfl⟩ := row_form S.own
      have hpg' : Hid _ := hpg
      have htot' : Hid _ := htot
      clear hpg htot hbk hx
      go_wp2
      go_loopw [8, 9] (fun d i W => ∃ (j : Nat), j ≤ 8 ∧ i = .int .i64 j ∧ OwD W W0.heap.size d (lk (ksTo l j)) ∧ Below W0.heap.size W0 W) (fun _ i _ => 8 - (intOf i).toNat)
      case atStart => exact ⟨0, by omega, rfl, World.ownsRow_nil _ _ _ _, Below.refl _ _⟩
      case round =>
        obtain ⟨j, hj, rfl, hd, hB⟩ := hrel
        have hBw : Below w.heap.size w wr := S.bel.trans (hB.mono S.bel.size)
        by_cases hj8 : j < 8
        · have hj8' : (j : Int) < 8 := by omega
          have hj0 : (0 : Int) ≤ (j : Int) := by omega
          have hc' := (hBw.cell (p := ⟨B, off + k, none⟩) hBl).trans hcell
          have HH := has_any (hA.below hBw) hj8
          have HK := ksTo_succ l j
          have hlj := ks_len l j
          have hll : (lk (ksTo l j)).length ≤ 8 := by simp [lk]; omega
          cases hb : hasB l j
          · rw [hb] at HH HK
            simp only [Bool.false_eq_true, if_false, List.append_nil] at HK
            have HK' : Hid _ := HK
            clear HK hb
            go_wp2_with (go_at_call 23; refine HH.mono ?_; rintro e w2 ⟨rfl, rfl⟩)
            go_roundw
            case rel => exact ⟨j + 1, by omega, by go_num, by rw [HK'.out]; exact hd, hB⟩
            case measure => simp [intOf]; omega
          · rw [hb] at HH HK
            simp only [if_true] at HK
            have HK' : Hid _ := HK
            clear HK hb
            obtain ⟨da, dc, rfl⟩ := row_form hd
            have hN := Blk.new wr 64 (dcs [(-2, (j : Int))])
            go_wp2_with (first
              | (at_builtin
                 refine pushD rfl _ _ rfl rfl [(-2, (j : Int))] 1 rfl rfl (hd.alloc _) hN (by omega) (by rw [World.size_alloc]; have := hB.size; omega) ?_
                 intro av cv w3 ho3 hg3 hl3
                 have hB3 : Below _ _ w3 := (hB.alloc hB.size _).grown hg3 (by rw [World.size_alloc]; have := hB.size; omega) (fun i hi => (hd.lt i hi).1))
              | (go_at_call 23; refine HH.mono ?_; rintro e w2 ⟨rfl, rfl⟩))
            refine ⟨⟨j + 1, by omega, by go_num, ?_, hB3⟩, by simp [intOf]; omega⟩
            have e : lk (ksTo l (j + 1)) = lk (ksTo l j) ++ [(-2, (j : Int))] := by rw [HK'.out]; simp [lk]
            rw [e]
            exact ho3
        · have hj' : j = 8 := by omega
          have hj9 : ¬ (j : Int) < 8 := by omega
          rw [hj'] at hd
          clear hj' hj8
          obtain ⟨J, rfl⟩ : ∃ J, J = j := ⟨_, rfl⟩
          have hlj := ks_len l 8
          have hl8 : (lk (ksTo l 8)).length ≤ 8 := by simp [lk]; omega
          obtain ⟨L8, hL8⟩ : ∃ L8, L8 = lk (ksTo l 8) := ⟨_, rfl⟩
          rw [← hL8] at hd hl8
          have hpg2 : Hid (pg bs k = L8 ++ unl (ksFrom l 0)) := by rw [hL8]; exact hpg'.out
          clear hL8 hlj hpg'
          go_wp2
          go_loopw [8, 10] (fun d i W => ∃ (j : Nat), j ≤ 8 ∧ i = .int .i64 ((j : Int) - 1) ∧ OwD W W0.heap.size d (L8 ++ unl (ksFrom l j)) ∧ Below W0.heap.size W0 W) (fun _ i _ => (intOf i + 1).toNat)
          case atStart => exact ⟨8, by omega, rfl, by simpa [ksFrom_8, unl] using hd, hB⟩
          case round =>
            clear hd hB hBw
            obtain ⟨j, hj, rfl, hd, hB⟩ := hrel
            have hBw : Below w.heap.size w wr := S.bel.trans (hB.mono S.bel.size)
            have hfl := kf_len l j
            have hul := unl_len (ksFrom l j)
            have hll : (L8 ++ unl (ksFrom l j)).length ≤ 24 := by rw [List.length_append]; omega
            by_cases hj0 : j = 0
            · subst hj0
              rw [← hpg2.out] at hd hll
              have hlW := row_upd S.own (S := Non) (Upd.ofBelow hB) (fun _ _ h => h)
              obtain ⟨da, dc, rfl⟩ := row_form hd
              have hpl2 : (pg bs k).length ≤ 24 := hpl
              obtain ⟨PL, hPL⟩ : ∃ PL, PL = (pg bs k).length := ⟨_, rfl⟩
              have hdP := hd
              rw [← hPL] at hdP hpl2
              rw [← hPL]
              have hPL' : Hid _ := hPL
              clear hPL hll hpl hfl hul hd
              go_wp2_with
                (at_builtin
                 refine pushS rfl _ _ rfl rfl (.slice da PL dc) rfl rfl (hlW.alloc _) (by simp) (by omega) (by rw [World.size_alloc]; have := hBw.size; omega) ?_
                 intro av cv w3 ho3 hg3 hl3)
              go_roundw
              case rel =>
                have hd' : OwD wr W0.heap.size (.slice da PL dc) (pg bs k) := hdP
                refine ⟨k + 1, _, by omega, by go_num, ?_, S.step hd' hB ho3 hg3⟩
                have h1 := htot'.out
                have h2 := hPL'.out
                rw [h1, ← h2]
                go_num
              case measure => simp [intOf]; omega
            · obtain ⟨i, rfl⟩ : ∃ i, j = i + 1 := ⟨j - 1, by omega⟩
              have hi8 : i < 8 := by omega
              have ei : (((i + 1 : Nat) : Int) - 1) = (i : Int) := by omega
              rw [ei]
              have hi0 : (0 : Int) ≤ (i : Int) := by omega
              have hi8' : (i : Int) < 8 := by omega
              have hc' := (hBw.cell (p := ⟨B, off + k, none⟩) hBl).trans hcell
              have HH := has_any (hA.below hBw) hi8
              have HK := ksFrom_pred l hi8
              obtain ⟨XL, hXL⟩ : ∃ XL, XL = L8 ++ unl (ksFrom l (i + 1)) := ⟨_, rfl⟩
              rw [← hXL] at hd hll
              have hXL' : Hid _ := hXL
              clear hXL hfl hul ei
              obtain ⟨da, dc, rfl⟩ := row_form hd
              cases hb : hasB l i
              · rw [hb] at HH HK
                simp only [Bool.false_eq_true, if_false, List.append_nil] at HK
                have HK' : Hid _ := HK
                clear HK hb
                go_wp2_with (go_at_call 23; refine HH.mono ?_; rintro e w2 ⟨rfl, rfl⟩)
                go_roundw
                case rel =>
                  refine ⟨i, by omega, by go_num, ?_, hB⟩
                  rw [HK'.out, ← hXL'.out]
                  exact hd
                case measure => simp [intOf]
              · rw [hb] at HH HK
                simp only [if_true] at HK
                have HK' : Hid _ := HK
                clear HK hb
                have hN := Blk.new wr 64 (dcs [(0, (i : Int)), (-1, 0)])
                go_wp2_with (first
                  | (at_builtin
                     refine pushD rfl _ _ rfl rfl [(0, (i : Int)), (-1, 0)] 2 rfl rfl (hd.alloc _) hN (by omega) (by rw [World.size_alloc]; have := hB.size; omega) ?_
                     intro av cv w3 ho3 hg3 hl3
                     have hB3 : Below _ _ w3 := (hB.alloc hB.size _).grown hg3 (by rw [World.size_alloc]; have := hB.size; omega) (fun i hi => (hd.lt i hi).1))
                  | (go_at_call 23; refine HH.mono ?_; rintro e w2 ⟨rfl, rfl⟩))
                go_roundw
                case rel =>
                  refine ⟨i, by omega, by go_num, ?_, hB3⟩
                  have e : L8 ++ unl (ksFrom l i) = XL ++ [(0, (i : Int)), (-1, 0)] := by
                    rw [HK'.out, hXL'.out, unl_app, List.append_assoc]; rfl
                  rw [e]
                  exact ho3
                case measure => simp [intOf]
    · obtain rfl : k = n := by omega
      obtain ⟨la, lc, rfl⟩ := row_form S.own
      go_upto_region 6 with fail
      go_cut [26] from 19 to 26 (fun t wc => t = .bool false ∧ wc = W0)
      case first =>
        by_cases hx1 : (k : Int) < (len : Int)
        · have hx2 : ¬ (k : Int) < 64 := by omega
          go_wp2
          go_meet
          case rel => exact ⟨rfl, rfl⟩
        · go_wp2
          go_meet
          case rel => exact ⟨rfl, rfl⟩
      case rest =>
        obtain ⟨rfl, rfl⟩ := hcut
        have hRD := S.rdd
        have HBg := begins_any hRD (by simp; omega) k (by simp; omega)
        go_wp2_with (go_at_call 15; refine HBg.mono ?_; rintro e w2 ⟨b, rv, m, ps, ts, xb, dv, q, lv, rfl, G⟩)
        have O0 := ord_begin G
        have htk := totS_le bs k
        have hx0 := G.pr.cell1 0 _ rfl
        obtain ⟨M, hM⟩ : ∃ M, M = w2.heap.size := ⟨_, rfl⟩
        rw [← hM] at O0
        clear HBg hRD G hM
        have hbelw := S.bel
        clear S
        go_loopw [12] (fun i wr => ∃ (st : Nat) (ts : List Tk) (H : Int → Option Int) (tv : Value) (T : List Int) (at_ : Nat → Nat) (hold : Nat → List Nat), i = .int .i64 st ∧ Ord wc wr b rv m ps ts H st xb dv tv T M q lv (lsOf bs k) at_ k hold (totS bs k)) (fun i _ => totS bs k - (intOf i).toNat)
        case atStart => exact ⟨0, _, _, _, _, _, _, rfl, O0⟩
        case round =>
          clear O0 hx0
          obtain ⟨st, ts, H, tv, T, at_, hold, rfl, O⟩ := hrel
          have HA := alive_any O.ps.sc (by rw [O.ps.lps]; exact hn64)
          have x0 := O.ps.pr.blk.cell1 0 _ rfl
          have hst : st ≤ 1600 := by have := O.sum; omega
          by_cases hL0 : nums aliveB 0 ts = []
          · rw [hL0] at HA
            obtain ⟨ta, tc, rfl⟩ := row_form O.ps.pr.told
            have htl := O.tl
            go_wp2_with (go_at_call 24; refine HA.mono ?_; rintro e w4 ⟨aa, ac, rfl, _, hB4⟩)
            have O4 := O.below hB4
            have x2 := O4.ps.pr.blk.cell1 2 _ rfl
            have x3 := O4.ps.pr.blk.cell1 3 _ rfl
            have hBw4 : Below w.heap.size w w4 := hbelw.trans (O4.ps.bel.mono hbelw.size)
            go_loopw [16] (fun i wt => ∃ j : Nat, j ≤ T.length ∧ i = .int .i64 j ∧ wt = w4) (fun i _ => T.length - (intOf i).toNat)
            case atStart => exact ⟨0, Nat.zero_le _, rfl, rfl⟩
            case round =>
              obtain ⟨j, hj, rfl, rfl⟩ := hrel
              by_cases hjl : j < T.length
              · have hjl' : (j : Int) < (T.length : Int) := by omega
                have hj0 : (0 : Int) ≤ (j : Int) := by omega
                have hz := O4.zero (T[j]) (List.getElem_mem hjl)
                obtain ⟨gt, rfl, hct⟩ : ∃ gt, ta = some ⟨gt, 0, none⟩ ∧ wr.cell? ⟨gt, j, none⟩ = some (.int .i64 0) := by
                  rcases O4.ps.pr.told.2 with ⟨e, h0⟩ | ⟨g, cap, cur, e, _⟩
                  · omega
                  · cases e
                    refine ⟨g, rfl, ?_⟩
                    have := O4.ps.pr.told.cells (g := g) rfl j (.int .i64 T[j]) (by simp [iz, hjl])
                    rw [add_at, hz] at this
                    simpa using this
                go_wp2
                go_roundw
                case rel => exact ⟨j + 1, by omega, by go_num, trivial⟩
                case measure => simp [intOf]; omega
              · obtain rfl : j = T.length := by omega
                go_wp2
                go_ret
                exact ⟨rfl, hBw4⟩
          · have hLp : (0 : Int) < ((nums aliveB 0 ts).length : Int) := by have := List.length_pos_iff.2 hL0; omega
            obtain ⟨W3, rfl⟩ : ∃ W3, W3 = wr := ⟨_, rfl⟩
            have hcnt := O.count hL0
            have hcnt' : (st : Int) < (totS bs k : Int) := by omega
            go_upto_if 87 with (go_at_call 24; refine HA.mono ?_; rintro e w4 ⟨aa, ac, rfl, _, hB4⟩)
            have O4 := O.below hB4
            have hBw4 : Below w.heap.size w w4 := hbelw.trans (O4.ps.bel.mono hbelw.size)
            have hLh : Hid _ := hL0
            clear hL0
            go_cut [13] from 75 to 118 (fun t wd => ∃ j : Nat, t = .int .i64 j ∧ Hid (j ≤ 100000) ∧ wd = w4)
            case first =>
              by_cases hp0 : plen = 0
              · subst hp0
                go_wp2
                go_meet
                case rel => exact ⟨st, rfl, by unfold Hid; omega, rfl⟩
              · have hpp : (0 : Int) < (plen : Int) := by omega
                obtain ⟨PB, poff, x, rfl, hPB, hx, px0, px1, hpc⟩ := (hp.below hBw4).at (j := st % plen) (Nat.mod_lt _ (by omega))
                obtain ⟨X, rfl⟩ := Int.eq_ofNat_of_zero_le px0
                clear hx
                have hmod : (st : Int) % (plen : Int) < (plen : Int) := Int.emod_lt_of_pos _ hpp
                have hmod0 : (0 : Int) ≤ (st : Int) % (plen : Int) := Int.emod_nonneg _ (by omega)
                go_wp2
                go_meet
                case rel => exact ⟨X, by go_num, by unfold Hid; omega, rfl⟩
            case rest =>
              obtain ⟨j, rfl, hj, rfl⟩ := hcut
              have HD := dead_any O4.ps.sc (by rw [O4.ps.lps]; exact hn64) (by omega) O4.ok
              rw [O4.dead hLh.out] at HD
              have y0 := O4.ps.pr.blk.cell1 0 _ rfl
              have HP := fun W' hB => ord_pick (O4.below (W' := W') hB) hn64 (by omega) hLh.out (j := j) (by have := hj.out; omega) (fun i hi => by rw [lsOf_eq hi]; have := prog_len (bAt bs i); unfold pg; omega) (fun i hi => by rw [lsOf_eq hi]; exact prog_acts _)
              go_wp2_with (first
                | (go_at_call 16; refine (HP _ hB5).mono ?_; rintro e w6 ⟨x, rfl, ts', H', tv', T', at', hold', O6⟩)
                | (go_at_call 25; refine HD.mono ?_; rintro e w5 ⟨da, dc, rfl, hB5⟩; have z0 := (O4.below hB5).ps.pr.blk.cell1 0 _ rfl))
              go_roundw
              case rel => exact ⟨st + 1, _, _, _, _, _, _, by go_num, O6⟩
              case measure => simp [intOf]; omega
end Go.Proofs.Ytkdjahgndkdnhaa
