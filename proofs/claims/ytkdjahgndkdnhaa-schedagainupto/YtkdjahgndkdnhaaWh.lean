import Derived.Test.YtkdjahgndkdnhaaWk
namespace Go.Proofs.Ytkdjahgndkdnhaa
open Go.RowKit Go.Maps Go.Shelf
set_option linter.unusedVariables false
set_option linter.unusedSimpArgs false
theorem RdDD.below {w w' : World} {v : Value} {ls : List (List (Int × Int))} {N : Nat} (h : RdDD w v ls N) (hB : Below N w w') : RdDD w' v ls N := by
  obtain ⟨a, cap, e, hr⟩ := h
  refine ⟨a, cap, e, fun i l hi => ?_⟩
  obtain ⟨B, off, lv, e1, e2, e3, e4⟩ := hr i l hi
  refine ⟨B, off, lv, e1, e2, (hB.cell (p := ⟨B, off + i, none⟩) e2).trans e3, ?_⟩
  rcases e4 with e4 | ⟨B2, off2, cap2, f1, f2, f3⟩
  · exact .inl e4
  · refine .inr ⟨B2, off2, cap2, f1, f2, fun j x hx => ?_⟩
    obtain ⟨g1, g2⟩ := f3 j x hx
    exact ⟨(hB.cell (p := ⟨B2, off2 + j * 2, none⟩) f2).trans g1, (hB.cell (p := ⟨B2, off2 + j * 2 + 1, none⟩) f2).trans g2⟩
theorem RdDD.mono {w : World} {v : Value} {ls : List (List (Int × Int))} {N N' : Nat} (h : RdDD w v ls N) (hN : N ≤ N') : RdDD w v ls N' := by
  obtain ⟨a, cap, e, hr⟩ := h
  refine ⟨a, cap, e, fun i l hi => ?_⟩
  obtain ⟨B, off, lv, e1, e2, e3, e4⟩ := hr i l hi
  exact ⟨B, off, lv, e1, by omega, e3, e4.mono hN⟩
/-- Picks as numbers. -/
def pn (pl : List Int) : List Nat := pl.map Int.toNat
theorem pn_at {pl : List Int} {k X : Nat} (h : pl[k]? = some (X : Int)) : (pn pl)[k]? = some X := by
  unfold pn
  rw [List.getElem?_map, h]
  rfl
theorem mgo_succ (ls : Nat → List (Int × Int)) (s : MS) {pl : List Int} {k X : Nat} (h : pl[k]? = some (X : Int)) : mgo ls (mgo ls s ((pn pl).take k)) [X] = mgo ls s ((pn pl).take (k + 1)) := by
  rw [take_succ_get (pn_at h), mgo_append]
def iz' (l : List Nat) : List Int := l.map fun (n : Nat) => (n : Int)
theorem keep4 {W' wF : World} {xb xb3 : Nat} {u0 u1 u2 u3 : Value} {S : Nat → Prop} (h : W'.cell? ⟨xb, 0, none⟩ = some u0 ∧ W'.cell? ⟨xb3, 0, none⟩ = some u1 ∧ W'.cell? ⟨xb, 2, none⟩ = some u2 ∧ W'.cell? ⟨xb3, 2, none⟩ = some u3) (hU : Upd S W' wF) (l1 : xb < W'.heap.size) (l2 : xb3 < W'.heap.size) (n1 : ¬ S xb) (n2 : ¬ S xb3) : wF.cell? ⟨xb, 0, none⟩ = some u0 ∧ wF.cell? ⟨xb3, 0, none⟩ = some u1 ∧ wF.cell? ⟨xb, 2, none⟩ = some u2 ∧ wF.cell? ⟨xb3, 2, none⟩ = some u3 :=
  ⟨cell_upd hU h.1 l1 n1, cell_upd hU h.2.1 l2 n2, cell_upd hU h.2.2.1 l1 n1, cell_upd hU h.2.2.2 l2 n2⟩
theorem nums_le (p : Tk → Bool) : ∀ (ts : List Tk) (k : Nat), (nums p k ts).length ≤ ts.length
  | [], k => by simp [nums]
  | t :: ts, k => by
    have := nums_le p ts (k + 1)
    unfold nums
    split <;> simp <;> omega
theorem cutI_block (g cap m i : Nat) : ((cutI g cap m).add i).block = g := by
  unfold cutI
  split <;> simp [add_at]
theorem iz_ic (l : List Nat) : iz (iz' l) = ic l := by simp [iz, iz', ic]
set_option maxRecDepth 100000 in
set_option maxHeartbeats 4000000 in
theorem again_walk (v : Value) (ls : List (List (Int × Int))) (pa : Option Addr) (plen pcap : Nat) (pl : List Int) (ct : Int) (w : World) (h : RdDD w v ls w.heap.size) (hp : Arg w pa plen pcap pl) (hls : ∀ l ∈ ls, l.length ≤ 600000 ∧ ∀ y ∈ l, I64 y.1 ∧ I64 y.2) (hsum : sumTo (fun i => (lsAt ls i).length) (min ls.length 64) ≤ 600000) (hl0 : ls.length ≤ 2000000) (hpl : plen ≤ 1048576) (hct : 0 ≤ ct ∧ ct ≤ 255) :
    Calls Try.prog 4 #[v, .slice pa plen pcap, .int .u8 ct] w fun e w' => e = .returned (.bool true) ∧ Below w.heap.size w w' := by
  obtain ⟨n, hn, hnl, hn64⟩ : ∃ n : Nat, n = min ls.length 64 ∧ n ≤ ls.length ∧ n ≤ 64 := ⟨_, rfl, by omega, by omega⟩
  rw [← hn] at hsum
  have hn' : Hid _ := hn
  have hsum' : Hid _ := hsum
  clear hn hsum
  go_enter Try.func4, Try.ntmps4
  go_wp2_with (first
    | (go_at_call 15; refine (begins_over Gx.bel hRD2 (by omega) n hn'.out).mono ?_; rintro e w3 ⟨b2, rv2, m2, ps2, ts2, xb2, dv2, q2, lv2, rfl, Gy, Gy'⟩)
    | (go_at_call 15; refine (begins_over (Below.refl _ _) hRD (by omega) n hn'.out).mono ?_; rintro e w2 ⟨b, rv, m, ps, ts, xb, dv, q, lv, rfl, Gx, Gx'⟩
       have hRD2 := hRD.below Gx.bel)
    | (go_at_call 14; refine (lives_any _).mono ?_; rintro e w1 ⟨rfl, hB1⟩
       have hRD := (h.below hB1).mono hB1.size))
  have AX0 := am_begin Gx hsum'.out
  have AY0 := am_begin Gy hsum'.out
  have hd0 := begun_apart AX0 (am_begin Gy' hsum'.out)
  have AX1 : Am w1 w3 b rv m ps xb dv (.slice none 0 0) w2.heap.size q lv (lsAt ls) n 600000 (ms0 q n) := Ap.below AX0 Gy'.bel
  have hlsn : ∀ i, i < n → lsAt ls i ∈ ls := fun i hi => by
    unfold lsAt
    rw [List.getD_eq_getElem?_getD, List.getElem?_eq_getElem (by omega)]
    exact List.getElem_mem _
  have hl1 : ∀ i, i < n → (lsAt ls i).length ≤ 10000000 := fun i hi => by have := (hls _ (hlsn i hi)).1; omega
  have hl2 : ∀ i, i < n → ∀ y ∈ lsAt ls i, I64 y.1 ∧ I64 y.2 := fun i hi => (hls _ (hlsn i hi)).2
  have hp1 := hp.below hB1
  obtain ⟨M, hM⟩ : ∃ M, M = w2.heap.size := ⟨_, rfl⟩
  obtain ⟨M2, hM2⟩ : ∃ M2, M2 = w3.heap.size := ⟨_, rfl⟩
  rw [← hM] at AX1
  rw [← hM2] at AY0
  have hlike0 := ms0_like q q2 n
  clear Gx Gx' Gy Gy' hM hM2 hRD2 hls hlsn AX0 hp h
  go_loopw [9] (fun i wr => ∃ (k : Nat) (sx sy : MS) (tx ty : Value), k ≤ plen ∧ i = .int .i64 k ∧ sx = mgo (lsAt ls) (ms0 q n) ((pn pl).take k) ∧ sx.bare = sy.bare ∧ sx.st ≤ k ∧ sy.st ≤ k ∧ Am w1 wr b rv m ps xb dv tx M q lv (lsAt ls) n 600000 sx ∧ Am w1 wr b2 rv2 m2 ps2 xb2 dv2 ty M2 q2 lv2 (lsAt ls) n 600000 sy ∧ (∀ k, FP b rv m ps xb q n tx k → ¬ FP b2 rv2 m2 ps2 xb2 q2 n ty k)) (fun i _ => plen - (intOf i).toNat)
  case atStart => exact ⟨0, _, _, _, _, Nat.zero_le _, rfl, rfl, hlike0, Nat.le_refl _, Nat.le_refl _, AX1, AY0, hd0⟩
  case round =>
    clear AX1 AY0 hd0
    obtain ⟨k, sx, sy, tx, ty, hk, rfl, hsx, hlike, hsx', hsy', AX, AY, hd⟩ := hrel
    obtain ⟨W0, rfl⟩ : ∃ W0, W0 = wr := ⟨_, rfl⟩
    by_cases hlt : k < plen
    · have hlt' : (k : Int) < (plen : Int) := by omega
      have hk0 : (0 : Int) ≤ (k : Int) := by omega
      obtain ⟨PB, poff, X, rfl, hPB, hplX, px0, px1, hpc0⟩ := hp1.at hlt
      obtain ⟨X, rfl⟩ := Int.eq_ofNat_of_zero_le px0
      have keepP : ∀ W', Below w1.heap.size w1 W' → W'.cell? ⟨PB, poff + k, none⟩ = some (.int .u8 X) := fun W' hB => (hB.cell (p := ⟨PB, poff + k, none⟩) hPB).trans hpc0
      have wX : IntKind.i64.wrap (X : Int) = X := w64 _ (by omega) (by omega)
      have AXd : Am w1 W0.drew b rv m ps xb dv tx M q lv (lsAt ls) n 600000 sx := Ap.below AX ((Below.refl _ _).drew)
      have HX := am_any AXd hn64 (by omega) (by omega) hl2 hl1 (j := X) (by omega)
      have x0 := AX.ps.pr.blk.cell1 0 _ rfl
      have p0 := keepP _ AX.ps.bel
      have htl := mtell_like (lsAt ls) hlike X
      generalize mtell (lsAt ls) sx X = mt at HX htl
      obtain ⟨mx, me⟩ := mt
      dsimp only at HX
      have htl' : Hid _ := htl
      clear htl
      have hsx2 : Hid _ := hsx
      have hplX' : Hid _ := hplX
      clear hsx hplX
      go_wp2
      go_cut [10, 11] from 30 to 69 (fun a e wd => a = .int .i64 mx ∧ e = .int .i64 me ∧ ∃ tx', Am w1 wd b rv m ps xb dv tx' M q lv (lsAt ls) n 600000 (mgo (lsAt ls) sx [X]) ∧ (mgo (lsAt ls) sx [X]).st ≤ sx.st + 1 ∧ Am w1 wd b2 rv2 m2 ps2 xb2 dv2 ty M2 q2 lv2 (lsAt ls) n 600000 sy ∧ (∀ k, FP b rv m ps xb q n tx' k → ¬ FP b2 rv2 m2 ps2 xb2 q2 n ty k))
      case first =>
        go_region_held_law (fun w' => w'.cell? ⟨xb, 0, none⟩ = some (ptr b) ∧ w'.cell? ⟨PB, poff + k, none⟩ = some (.int .u8 X))
          (first
            | (go_keep; done)
            | exact ⟨k0, k1⟩)
          (first | (go_at_call 16; refine HX.mono ?_; rintro e w7 ⟨rfl, tx', A7, hs7, hT7⟩
                    have k0 := A7.ps.pr.blk.cell1 0 _ rfl
                    have k1 := keepP _ A7.ps.bel))
        all_goals go_wp2
        all_goals go_meet
        all_goals
          obtain ⟨AY7, hd7⟩ := Am.pass AXd (Ap.below AY ((Below.refl _ _).drew)) hd A7 hT7
          exact ⟨rfl, rfl, tx', A7, hs7, AY7, hd7⟩
      case rest =>
        obtain ⟨rfl, rfl, tx', AX7, hs7, AY7, hd7⟩ := hcut
        obtain ⟨W7, rfl⟩ : ∃ W7, W7 = wc := ⟨_, rfl⟩
        clear AX AY AXd HX hd x0 p0
        have AYd : Am w1 W7.drew b2 rv2 m2 ps2 xb2 dv2 ty M2 q2 lv2 (lsAt ls) n 600000 sy := Ap.below AY7 ((Below.refl _ _).drew)
        have AXd : Am w1 W7.drew b rv m ps xb dv tx' M q lv (lsAt ls) n 600000 (mgo (lsAt ls) sx [X]) := Ap.below AX7 ((Below.refl _ _).drew)
        have HY := am_any AYd hn64 (by omega) (by omega) hl2 hl1 (j := X) (by omega)
        rw [← htl'.out] at HY
        dsimp only at HY
        have y0 := AY7.ps.pr.blk.cell1 0 _ rfl
        have p7 := keepP _ AY7.ps.bel
        go_wp2
        go_cut [12, 13] from 30 to 69 (fun a e wd => a = .int .i64 mx ∧ e = .int .i64 me ∧ ∃ ty', Am w1 wd b rv m ps xb dv tx' M q lv (lsAt ls) n 600000 (mgo (lsAt ls) sx [X]) ∧ (mgo (lsAt ls) sy [X]).st ≤ sy.st + 1 ∧ Am w1 wd b2 rv2 m2 ps2 xb2 dv2 ty' M2 q2 lv2 (lsAt ls) n 600000 (mgo (lsAt ls) sy [X]) ∧ (∀ k, FP b rv m ps xb q n tx' k → ¬ FP b2 rv2 m2 ps2 xb2 q2 n ty' k))
        case first =>
          go_region_held_law (fun w' => w'.cell? ⟨xb2, 0, none⟩ = some (ptr b2) ∧ w'.cell? ⟨PB, poff + k, none⟩ = some (.int .u8 X))
            (first
              | (go_keep; done)
              | exact ⟨k0, k1⟩)
            (first | (go_at_call 16; refine HY.mono ?_; rintro e w8 ⟨rfl, ty', A8, hs8, hT8⟩
                      have k0 := A8.ps.pr.blk.cell1 0 _ rfl
                      have k1 := keepP _ A8.ps.bel))
          all_goals go_wp2
          all_goals go_meet
          all_goals
            obtain ⟨AX8, hd8⟩ := Am.pass AYd AXd (fun k hk e => hd7 k e hk) A8 hT8
            exact ⟨rfl, rfl, ty', AX8, hs8, A8, fun k hk e => hd8 k e hk⟩
        case rest =>
          obtain ⟨rfl, rfl, ty', AX8, hs8, AY8, hd8⟩ := hcut
          clear AX7 AY7 AXd AYd HY hd7 y0 p7
          go_wp2
          go_roundw
          case rel =>
            refine ⟨k + 1, _, _, _, _, by omega, by go_num, ?_, ?_, ?_, ?_, AX8, AY8, hd8⟩
            · rw [hsx2.out]; exact mgo_succ _ _ hplX'.out
            · exact mgo_like _ _ hlike
            · omega
            · omega
          case measure => simp [intOf]; omega
    · obtain rfl : k = plen := by omega
      have hsx2 : Hid _ := hsx
      have hRDz := hRD.below AX.ps.bel
      clear hsx AY hd hRD hlike hlike0 hsy'
      go_wp2_with (go_at_call 15; refine (begins_over AX.ps.bel hRDz (by omega) n hn'.out).mono ?_; rintro e w4 ⟨b3, rv3, m3, ps3, ts3, xb3, dv3, q3, lv3, rfl, Gz, Gz'⟩)
      have AZ0 := am_begin Gz hsum'.out
      have hdz0 := begun_apart AX (am_begin Gz' hsum'.out)
      have AX4 : Am w1 w4 b rv m ps xb dv tx M q lv (lsAt ls) n 600000 sx := Ap.below AX Gz'.bel
      obtain ⟨M3, hM3⟩ : ∃ M3, M3 = w4.heap.size := ⟨_, rfl⟩
      have hz1 := AX4.ps.bel
      rw [← hM3] at AZ0
      clear Gz Gz' hRDz AX
      go_loopw [15, 16] (fun l i wr => ∃ (j : Nat), j ≤ k ∧ i = .int .i64 j ∧ wr.ownsRow w4.heap.size 3 1 l j (ic ((pn pl).take j)) ∧ Below w4.heap.size w4 wr) (fun _ i _ => k - (intOf i).toNat)
      case atStart => exact ⟨0, Nat.zero_le _, rfl, World.ownsRow_nil _ _ _ _, Below.refl _ _⟩
      case round =>
        obtain ⟨j, hj, rfl, hr, hB⟩ := hrel
        obtain ⟨W5, rfl⟩ : ∃ W5, W5 = wr := ⟨_, rfl⟩
        obtain ⟨la, lc, rfl⟩ := row_form hr
        by_cases hjl : j < k
        · have hjl' : (j : Int) < (k : Int) := by omega
          have hj0 : (0 : Int) ≤ (j : Int) := by omega
          obtain ⟨PB, poff, X, rfl, hPB, hplX, px0, px1, hpc0⟩ := hp1.at hjl
          obtain ⟨X, rfl⟩ := Int.eq_ofNat_of_zero_le px0
          have hPB5 : PB < W5.heap.size := Nat.lt_of_lt_of_le hPB (Nat.le_trans hz1.size hB.size)
          have pc5 : W5.cell? ⟨PB, poff + j, none⟩ = some (.int .u8 X) := (hB.cell (p := ⟨PB, poff + j, none⟩) (Nat.lt_of_lt_of_le hPB hz1.size)).trans ((hz1.cell (p := ⟨PB, poff + j, none⟩) hPB).trans hpc0)
          have wX : IntKind.i64.wrap (X : Int) = X := w64 _ (by omega) (by omega)
          have HN := take_succ_get (pn_at hplX)
          have HN' : Hid _ := HN
          clear HN hplX hpc0
          go_wp2_with
            (at_builtin
             refine push1 rfl _ _ 30 3 (.int .i64 0) Try.underlying30 info3 rfl rfl rfl rfl (.int .i64 X) rfl (hr.alloc _) (by simp) (by omega) (by rw [World.size_alloc]; have := hB.size; omega) ?_
             intro oa oc w6 ho' hg hloc
             have hB6 : Below w4.heap.size w4 w6 := (hB.alloc hB.size _).grown hg (by rw [World.size_alloc]; have := hB.size; omega) (fun k hk => (hr.lt k hk).1))
          go_roundw
          case rel => exact ⟨j + 1, by omega, by go_num, by rw [HN'.out]; simpa [ic] using ho', hB6⟩
          case measure => simp [intOf]; omega
        · obtain rfl : j = k := by omega
          have hlen : (pn pl).length = j := by
            have := hp1.1
            unfold pn
            rw [List.length_map]
            omega
          rw [List.take_of_length_le (by omega)] at hr hsx2
          have AZ5 : Am w1 W5 b3 rv3 m3 ps3 xb3 dv3 (.slice none 0 0) M3 q3 lv3 (lsAt ls) n 600000 (ms0 q3 n) := Ap.below AZ0 hB
          have AX5 : Am w1 W5 b rv m ps xb dv tx M q lv (lsAt ls) n 600000 sx := Ap.below AX4 hB
          obtain ⟨c, rfl⟩ := Int.eq_ofNat_of_zero_le hct.1
          have hcc : c ≤ 255 := by omega
          have wc0 : IntKind.i64.wrap (c : Int) = c := w64 _ (by omega) (by omega)
          have hne1 : (((j : Int) + 1) == 0) = false := beq_eq_false_iff_ne.2 (by omega)
          have hc0 : (0 : Int) ≤ (c : Int) := by omega
          clear hct
          obtain ⟨kk, hkk⟩ : ∃ kk : Nat, kk = c % (j + 1) := ⟨_, rfl⟩
          have hkk' : (c : Int) % ((j : Int) + 1) = (kk : Int) := by rw [hkk]; push_cast; rfl
          have hkj : kk ≤ j := by have := Nat.mod_lt c (show 0 < j + 1 by omega); omega
          have hkk3 : Hid _ := hkk
          clear hkk
          go_upto_if 96 with fail
          go_cut [17] from 94 to 121 (fun _ wd => ∃ tz', Am w1 wd b3 rv3 m3 ps3 xb3 dv3 tz' M3 q3 lv3 (lsAt ls) n 600000 (mgo (lsAt ls) (ms0 q3 n) (pn pl)) ∧ Am w1 wd b rv m ps xb dv tx M q lv (lsAt ls) n 600000 sx ∧ (∀ k, FP b3 rv3 m3 ps3 xb3 q3 n tz' k → ¬ FP b rv m ps xb q n tx k))
          case first =>
            by_cases hj0 : j = 0
            · have hnil : pn pl = [] := List.eq_nil_of_length_eq_zero (by omega)
              have hj0' : Hid _ := hj0
              have hjz : (j : Int) ≤ 0 := by omega
              clear hj0
              go_wp2
              go_meet
              exact ⟨_, by rw [hnil]; exact AZ5, AX5, fun k hk e => hdz0 k e hk⟩
            · have hjp : (0 : Int) < (j : Int) := by omega
              have hcl : ∀ W' tv', Tr b3 rv3 m3 ps3 xb3 q3 n (.slice none 0 0) W5 tv' W' → ∀ i x, (pn pl)[i]? = some x → ∃ g o, la = some ⟨g, o, none⟩ ∧ W'.cell? ⟨g, o + i, none⟩ = some (.int .i64 (x : Nat)) := by
                intro W' tv' hT i x hx
                obtain ⟨g, hg, hc⟩ := ic_cell (by rw [hlen]; exact hr) hx
                have hgl := hr.lt g (by rw [hg]; rfl)
                refine ⟨g, 0, hg, ?_⟩
                rw [Nat.zero_add]
                exact cell_upd hT.1 hc hgl.2 (fun e => by have h9 := (AZ0.fp_lt g e).1; omega)
              have z0 := AZ5.ps.pr.blk.cell1 0 _ rfl
              have HR := am_run AZ5 hn64 (by omega) (pn pl) (fun x hx => by
                obtain ⟨y, hy, rfl⟩ := List.mem_map.1 hx
                have := hp1.2.1 y hy
                omega) (by omega) (by simp [ms0]; omega) hl2 hl1 (most := kk) (by omega) (a := la) (cap := lc) hcl
              rw [hlen, ← hkk'] at HR
              have hkk2 : Hid _ := hkk'
              clear hkk'
              go_wp2_with (go_at_call 17; refine HR.mono ?_; rintro e w6 ⟨r6, rfl, tz, AZ6, hst6, hT6⟩)
              obtain ⟨AX6, hd6⟩ := Am.pass AZ5 AX5 (fun k hk e => hdz0 k e hk) AZ6 hT6
              obtain ⟨x00, hx00⟩ : ∃ x, (pn pl)[0]? = some x := ⟨_, List.getElem?_eq_getElem (by omega)⟩
              obtain ⟨g, hg, _⟩ := ic_cell (by rw [hlen]; exact hr) hx00
              subst hg
              have hgl := hr.lt g rfl
              have hcap := row_cap hr
              have hc6 : ∀ (i : Nat) (x : Int), (iz' (pn pl))[i]? = some x → w6.cell? ⟨g, i, none⟩ = some (.int .i64 x) := by
                intro i x hx
                unfold iz' at hx
                rw [List.getElem?_map] at hx
                cases hy : (pn pl)[i]? with
                | none => rw [hy] at hx; cases hx
                | some y =>
                  rw [hy] at hx
                  cases hx
                  obtain ⟨g', o', e1, e2⟩ := hcl w6 tz hT6 i y hy
                  cases e1
                  rw [Nat.zero_add] at e2
                  exact e2
              have s6 := hT6.1.size
              have CL := fun (W : World) => icut_lo g j lc kk hkj W
              have CH := fun (W : World) => icut_hi (some ⟨g, 0, none⟩) j lc kk (by omega) W
              rw [← hkk2.out] at CL CH
              have z6 := AZ6.ps.pr.blk.cell1 0 _ rfl
              have lz6 := AZ6.ps.pr.blk.lt
              clear HR hcl z0
              obtain ⟨ya, hya⟩ : ∃ ys, ys = (iz' (pn pl)).drop kk := ⟨_, rfl⟩
              obtain ⟨yb, hyb⟩ : ∃ ys, ys = (iz' (pn pl)).take kk := ⟨_, rfl⟩
              have hil : (iz' (pn pl)).length = j := by unfold iz'; rw [List.length_map, hlen]
              have hal : j - kk = ya.length := by rw [hya, List.length_drop, hil]
              have hbl : kk = yb.length := by rw [hyb, List.length_take, hil]; omega
              have ca : ∀ (i : Nat) (y : Int), ya[i]? = some y → w6.cell? ((cutI g lc kk).add i) = some (.int .i64 y) := by
                rw [hya]; exact cutI_cell hc6 (by omega)
              have cb : ∀ (i : Nat) (y : Int), yb[i]? = some y → w6.cell? ((⟨g, 0, none⟩ : Addr).add i) = some (.int .i64 y) := by
                intro i y hy
                rw [hyb, List.getElem?_take] at hy
                split at hy
                · rw [add_at, Nat.zero_add]; exact hc6 i y hy
                · cases hy
              obtain ⟨l2L, hl2L0⟩ : ∃ l, (pn pl).drop kk ++ (pn pl).take kk = l := ⟨_, rfl⟩
              have hl2L : Hid _ := hl2L0
              have hab : ya ++ yb = iz' l2L := by
                rw [hya, hyb, ← hl2L0]; simp [iz', List.map_drop, List.map_take]
              clear hl2L0
              rw [hal] at CL
              rw [hbl] at CH
              have hal' : Hid _ := hal
              have hbl' : Hid _ := hbl
              have hya' : Hid _ := hya
              have hyb' : Hid _ := hyb
              have hab' : Hid _ := hab
              have hla : ya.length ≤ 1048576 := by omega
              have hlb : yb.length ≤ 1048576 := by omega
              clear hal hbl hya hyb hab
              have hB6 : Below w6.heap.size w6 ((w6.alloc (.cells #[] 3)).drew) := ((Below.refl _ w6).alloc (Nat.le_refl _) _).drew
              have ca6 : ∀ (i : Nat) (y : Int), ya[i]? = some y → ((w6.alloc (.cells #[] 3)).drew).cell? ((cutI g lc kk).add i) = some (.int .i64 y) := fun i y hy =>
                (hB6.cell (p := (cutI g lc kk).add i) (by rw [cutI_block]; omega)).trans (ca i y hy)
              have hln : l2L.length = j := by rw [← hl2L.out, List.length_append, List.length_drop, List.length_take, hlen]; omega
              have hall : ∀ x ∈ l2L, x ≤ 255 := by
                intro x hx
                rw [← hl2L.out] at hx
                have hx' : x ∈ pn pl := by
                  rcases List.mem_append.1 hx with h | h
                  · exact List.mem_of_mem_drop h
                  · exact List.mem_of_mem_take h
                obtain ⟨y, hy, rfl⟩ := List.mem_map.1 hx'
                have := hp1.2.1 y hy
                omega
              have hst6' : (mgo (lsAt ls) (ms0 q3 n) ((pn pl).take kk)).st ≤ kk := by simpa [ms0] using hst6
              have hmost : ((j - kk : Nat) : Int) = IntKind.i64.wrap ((j : Int) - (c : Int) % ((j : Int) + 1)) := by rw [hkk2.out, w64 _ (by omega) (by omega)]; omega
              have hyl : ya.length + yb.length = l2L.length := by rw [hln, ← hal'.out, ← hbl'.out]; omega
              have hmgo : mgo (lsAt ls) (mgo (lsAt ls) (ms0 q3 n) ((pn pl).take kk)) (l2L.take (j - kk)) = mgo (lsAt ls) (ms0 q3 n) (pn pl) := by
                rw [← hl2L.out, List.take_left' (by rw [List.length_drop, hlen]), ← mgo_append, List.take_append_drop]
              have hln' : Hid _ := hln
              have hyl' : Hid _ := hyl
              have hly : ya.length + yb.length ≤ 2000000 := by omega
              have hl11 : l2L.length ≤ 1100000 := by omega
              have hstl : (mgo (lsAt ls) (ms0 q3 n) ((pn pl).take kk)).st + l2L.length < 3000000 := by omega
              have hjl2 : j - kk ≤ l2L.length := by omega
              have hmgo' : Hid _ := hmgo
              have hmost' : Hid _ := hmost
              clear hmgo hmost hln hyl
              go_region_law (first
                | (refine step_call17 (by rfl) (by rfl) _ _ _ _ (by rfl) _ _ _ (by rfl) (by rfl) (by rfl) HR2 ?_
                   rintro e w9 ⟨r9, rfl, tz9, AZ9, hst9, hT9⟩
                   refine ⟨_, rfl, ?_⟩
                   obtain ⟨AX9, hd9⟩ := Am.pass AZ8 AX8 hd6 AZ9 hT9)
                | (refine step_many (T := ya) (v := .slice av ya.length cv) (by rfl) (by rfl) _ _ (by rfl) (by rfl) (by simpa using ho1) (p := ⟨g, 0, none⟩) (cap := lc) (ys := yb) (by rfl) (fun i y hy => (hB67.cell (p := (⟨g, 0, none⟩ : Addr).add i) (by rw [add_at]; exact Nat.lt_of_lt_of_le hgl.2 s6)).trans (cb i y hy)) (by omega) hB67.size ?_
                   intro av2 cv2 w8 ho2 hg2 hl2'
                   have hB68 : Below w6.heap.size w6 w8 := hB67.grown hg2 hB67.size (fun k hk => (ho1.lt k (by simpa using hk)).1)
                   have AZ8 : Am w1 w8 b3 rv3 m3 ps3 xb3 dv3 tz M3 q3 lv3 (lsAt ls) n 600000 _ := Ap.below AZ6 hB68
                   have AX8 : Am w1 w8 b rv m ps xb dv tx M q lv (lsAt ls) n 600000 sx := Ap.below AX6 hB68
                   have ho2c : w8.ownsRow w6.heap.size 3 1 (.slice av2 l2L.length cv2) l2L.length (ic l2L) := by
                     rw [hyl'.out, hab'.out, iz_ic] at ho2
                     exact ho2
                   have HR2 := am_run AZ8 hn64 (by omega) l2L hall hl11 hstl hl2 hl1 (most := j - kk) hjl2 (a := av2) (cap := cv2) (by
                     intro W' tv' hT i x hx
                     obtain ⟨g2, hg2', hc2⟩ := ic_cell ho2c hx
                     have hgl2 := ho2c.lt g2 (by rw [hg2']; rfl)
                     refine ⟨g2, 0, hg2', ?_⟩
                     rw [Nat.zero_add]
                     exact cell_upd hT.1 hc2 hgl2.2 (fun e => by have h9 := (AZ6.fp_lt g2 e).1; omega))
                   have z8 := (hB68.cell (p := ⟨xb3, 0, none⟩) lz6).trans z6
                   rw [hmgo'.out, hmost'.out, ← hyl'.out] at HR2)
                | (refine step_many (T := []) (by rfl) (by rfl) _ _ (by rfl) (by rfl) ((built0 w6 (Nat.le_refl _)).drew) (p := cutI g lc kk) (cap := lc - kk) (ys := ya) (by rfl) ca6 (by simp; omega) (by simp) ?_
                   intro av cv w7 ho1 hg1 hl1'
                   have hB67 : Below w6.heap.size w6 w7 := hB6.grown hg1 hB6.size (fun k hk => by cases hk; exact Nat.le_refl _)
                   have z7 := (hB67.cell (p := ⟨xb3, 0, none⟩) lz6).trans z6))
              all_goals
                go_wp2
                go_meet
                exact ⟨_, AZ9, AX9, hd9⟩
          case rest =>
            obtain ⟨tz, AZ, AX, hd⟩ := hcut
            obtain ⟨W9, rfl⟩ : ∃ W9, W9 = wc := ⟨_, rfl⟩
            clear AZ5 AX5 AZ0 AX4 hdz0 hr
            have hlike9 : sx.bare = (mgo (lsAt ls) (ms0 q3 n) (pn pl)).bare := by rw [hsx2.out]; exact mgo_like _ _ (ms0_like q q3 n)
            obtain ⟨sz, hsz⟩ : ∃ sz, sz = mgo (lsAt ls) (ms0 q3 n) (pn pl) := ⟨_, rfl⟩
            rw [← hsz] at AZ hlike9
            have hst9 : sx.st = sz.st := (congrArg MS.st hlike9 : sx.bare.st = sz.bare.st)
            have hT9 : sx.T = sz.T := (congrArg MS.T hlike9 : sx.bare.T = sz.bare.T)
            have hstz : sz.st < 3000000 := by omega
            have hstx : sx.st < 3000000 := by omega
            obtain ⟨L, hL⟩ : ∃ L, mayL sz = L := ⟨_, rfl⟩
            have hLx : mayL sx = L := (mayL_like hlike9).trans hL
            have hLl : L.length ≤ 140737488351232 := by
              have h1 := nums_le (mayB sz.H sz.st) sz.ts 0
              rw [← hL, mayL_len]
              have h2 := AZ.ti.len
              omega
            have htot := AX.tl
            have AXd : Am w1 W9.drew b rv m ps xb dv tx M q lv (lsAt ls) n 600000 sx := Ap.below AX ((Below.refl _ _).drew)
            have AZd : Am w1 W9.drew b3 rv3 m3 ps3 xb3 dv3 tz M3 q3 lv3 (lsAt ls) n 600000 sz := Ap.below AZ ((Below.refl _ _).drew)
            have HEX1 := am_enabled AXd hn64 hstx hLx
            have HEZ1 := am_enabled AZd hn64 hstz hL
            have x0 := AX.ps.pr.blk.cell1 0 _ rfl
            have x2 := AX.ps.pr.blk.cell1 2 _ rfl
            have z0 := AZ.ps.pr.blk.cell1 0 _ rfl
            have z2 := AZ.ps.pr.blk.cell1 2 _ rfl
            have lx := AX.ps.pr.blk.lt
            have lz := AZ.ps.pr.blk.lt
            have hT : sx.T.length ≤ 600000 := by have := AX.tl; omega
            have htx := AX.ps.pr.told
            have htz := AZ.ps.pr.told
            rw [← hT9] at htz
            have htxz : ∀ k, tx.ownBlock = some k → tz.ownBlock ≠ some k := fun k hk e => hd k (.inr (.inr (.inr e))) (.inr (.inr (.inr hk)))
            have hxbt : ∀ k, tx.ownBlock = some k → k ≠ xb ∧ k ≠ xb3 := fun k hk => ⟨row_ne htx AX.ps.pr.blk (by decide) k hk, row_ne htx AZ.ps.pr.blk (by decide) k hk⟩
            have KC : ∀ W', Below W9.heap.size W9 W' → W'.cell? ⟨xb, 0, none⟩ = some (ptr b) ∧ W'.cell? ⟨xb3, 0, none⟩ = some (ptr b3) ∧ W'.cell? ⟨xb, 2, none⟩ = some tx ∧ W'.cell? ⟨xb3, 2, none⟩ = some tz := fun W' hB =>
              ⟨(hB.cell (p := ⟨xb, 0, none⟩) lx).trans x0, (hB.cell (p := ⟨xb3, 0, none⟩) lz).trans z0, (hB.cell (p := ⟨xb, 2, none⟩) lx).trans x2, (hB.cell (p := ⟨xb3, 2, none⟩) lz).trans z2⟩
            have hBd : Below W9.heap.size W9 W9.drew := (Below.refl _ _).drew
            obtain ⟨T, hTT⟩ : ∃ T, T = sx.T := ⟨_, rfl⟩
            rw [← hTT] at htx htz hT
            obtain ⟨ta, tc, rfl⟩ := row_form htx
            have hsx3 : Hid _ := hst9
            clear hst9 hT9 hTT hsz hlike9 htot
            clear HEX1 HEZ1
            have HEX : ∀ W', Below W9.heap.size W9 W' → Calls Try.prog 19 #[ptr b] W' fun e w' => ∃ a cp, e = .returned (.slice a L.length cp) ∧ w'.ownsRow W'.heap.size 3 1 (.slice a L.length cp) L.length (iz L) ∧ Below W'.heap.size W' w' := fun W' hB => am_enabled (W := W') (tv := .slice ta T.length tc) (Ap.below AX hB) hn64 hstx hLx
            have HEZ : ∀ W', Below W9.heap.size W9 W' → Calls Try.prog 19 #[ptr b3] W' fun e w' => ∃ a cp, e = .returned (.slice a L.length cp) ∧ w'.ownsRow W'.heap.size 3 1 (.slice a L.length cp) L.length (iz L) ∧ Below W'.heap.size W' w' := fun W' hB => am_enabled (W := W') (Ap.below AZ hB) hn64 hstz hL
            have HSX : ∀ W', Below W9.heap.size W9 W' → Calls Try.prog 20 #[ptr b] W' fun e w' => e = .returned (.int .i64 sz.st) ∧ w' = W' := fun W' hB => by
              have := steps_any (AX.ps.sc.below hB)
              rw [hsx3.out] at this
              exact this
            have HSZ : ∀ W', Below W9.heap.size W9 W' → Calls Try.prog 20 #[ptr b3] W' fun e w' => e = .returned (.int .i64 sz.st) ∧ w' = W' := fun W' hB => steps_any (AZ.ps.sc.below hB)
            have hRX : ∀ W', Below W9.heap.size W9 W' → W'.ownsRow M 3 1 (.slice ta T.length tc) T.length (iz T) := fun W' hB => row_upd htx (Upd.ofBelow (S := Non) hB) (fun _ _ h => h)
            have hRZ : ∀ W', Below W9.heap.size W9 W' → W'.ownsRow M3 3 1 tz T.length (iz T) := fun W' hB => row_upd htz (Upd.ofBelow (S := Non) hB) (fun _ _ h => h)
            have hbel := AX.ps.bel
            have htlt := htx.lt
            have htzlt := htz.lt
            have hW1 := AX.ps.hm
            have hW2 := AX.ps.nm
            clear AX AZ AXd AZd htx htz x0 x2 z0 z2
            go_wp2
            go_region_held_law (fun w' => w'.cell? ⟨xb, 0, none⟩ = some (ptr b) ∧ w'.cell? ⟨xb3, 0, none⟩ = some (ptr b3) ∧ w'.cell? ⟨xb, 2, none⟩ = some (.slice ta T.length tc) ∧ w'.cell? ⟨xb3, 2, none⟩ = some tz)
              (first
                | exact KC _ (by assumption)
                | exact kF
                | (go_keep; done))
              (first
                | (go_at_call_of 18 (Value.slice ta T.length tc)
                   refine HI2.mono ?_
                   rintro e wF ⟨rfl, hUF⟩
                   have kF := KF wF hUF)
                | (go_at_call 18
                   refine HI.mono ?_
                   rintro e wI ⟨rfl, hUI⟩
                   have bI : Below W9.heap.size W9 wI := hBI wI hUI
                   have HSXI := HSX wI bI
                   have HSZI := HSZ wI bI)
                | (go_at_call_of 20 (ptr b3); refine HSZI.mono ?_; rintro e wS ⟨rfl, hwS⟩; have hwS2 := hwS.symm; subst hwS2)
                | (go_at_call_of 20 (ptr b); refine HSXI.mono ?_; rintro e wS ⟨rfl, hwS⟩; have hwS2 := hwS.symm; subst hwS2)
                | (refine step_copy (by rfl) (by rfl) _ _ (by rfl) (g0 := wI.heap.size) (N := wI.heap.size) (by rfl) (built0 wI (Nat.le_refl _)) (T := T) (tv := tz) (by rfl) (hRZ _ (bI.alloc bI.size _)) (by omega) (by simp) ?_
                   intro av cv wT ho hg
                   have bT : Below W9.heap.size W9 wT := (bI.alloc bI.size _).grown hg (bI.alloc bI.size _).size (fun k hk => by cases hk; exact bI.size)
                   have HI2 := ints_rows (hRX wT bT) ho (fun k hk e => by have h1 := (htlt k hk).2; have h2 := (ho.lt k e).1; have h3 := bI.size; omega) (by omega)
                   have KF := fun (wF : World) (hU : Upd (fun k => (Value.slice ta T.length tc).ownBlock = some k) wT wF) => keep4 (KC wT bT) hU (Nat.lt_of_lt_of_le lx bT.size) (Nat.lt_of_lt_of_le lz bT.size) (fun e => (hxbt _ e).1 rfl) (fun e => (hxbt _ e).2 rfl))
                | (go_at_call_of 19 (ptr b3)
                   refine HZ2.mono ?_
                   rintro e wE ⟨a2, c2, rfl, r2, bE2⟩
                   have bE : Below W9.heap.size W9 wE := b1E.trans (bE2.mono b1E.size)
                   have HI := ints_rows (row_upd r1 (Upd.ofBelow (S := Non) bE2) (fun _ _ h => h)) r2 (fun k hk e => by have h1 := (r1.lt k hk).2; have h2 := (r2.lt k e).1; omega) hLl
                   have hBI := fun (wI : World) (hU : Upd (fun k => (Value.slice a1 L.length c1).ownBlock = some k) wE wI) => bE.trans (hU.below (n := W9.heap.size) (fun k hk => Nat.lt_of_lt_of_le hk bE.size) (fun k hk => (r1.lt k hk).1)))
                | (go_at_call_of 19 (ptr b)
                   refine HX2.mono ?_
                   rintro e wE ⟨a2, c2, rfl, r2, bE2⟩
                   have bE : Below W9.heap.size W9 wE := b1E.trans (bE2.mono b1E.size)
                   have HI := ints_rows r2 (row_upd r1 (Upd.ofBelow (S := Non) bE2) (fun _ _ h => h)) (fun k hk e => by have h1 := (r1.lt k e).2; have h2 := (r2.lt k hk).1; omega) hLl
                   have hBI := fun (wI : World) (hU : Upd (fun k => (Value.slice a2 L.length c2).ownBlock = some k) wE wI) => bE.trans (hU.below (n := W9.heap.size) (fun k hk => Nat.lt_of_lt_of_le hk bE.size) (fun k hk => Nat.le_trans b1E.size (r2.lt k hk).1)))
                | (go_at_call_of 19 (ptr b3)
                   refine (HEZ _ hBd).mono ?_
                   rintro e w1E ⟨a1, c1, rfl, r1, bE1⟩
                   have b1E : Below W9.heap.size W9 w1E := hBd.trans (bE1.mono (by simp))
                   have HX2 := HEX w1E b1E)
                | (go_at_call_of 19 (ptr b)
                   refine (HEX _ hBd).mono ?_
                   rintro e w1E ⟨a1, c1, rfl, r1, bE1⟩
                   have b1E : Below W9.heap.size W9 w1E := hBd.trans (bE1.mono (by simp))
                   have HZ2 := HEZ w1E b1E))
            all_goals
              go_wp2
              go_ret
              refine ⟨rfl, hB1.trans ((hbel.mono hB1.size).trans ((bT.mono (Nat.le_trans hB1.size hbel.size)).trans (hUF.below (n := w.heap.size) (fun k hk => Nat.lt_of_lt_of_le hk (Nat.le_trans (Nat.le_trans hB1.size hbel.size) bT.size)) (fun k hk => ?_))))⟩
              have h1 := (htlt k hk).1
              have h2 := hB1.size
              omega
end Go.Proofs.Ytkdjahgndkdnhaa
