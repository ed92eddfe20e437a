import Derived.Test.YtkdjahgndkdnhaaZk
import Derived.Test.YtkdjahgndkdnhaaL
namespace Go.Proofs.Ytkdjahgndkdnhaa
open Go.RowKit Go.Maps Go.Shelf
set_option linter.unusedVariables false
set_option linter.unusedSimpArgs false
section
variable {w : World} {b : Nat} {rv : Value} {m : Nat} {ps : List Nat} {ts : List Tk} {t : Tk} {H : Int → Option Int} {st : Nat} {wi : Bool} {c : Nat}
set_option maxRecDepth 100000 in
set_option maxHeartbeats 800000 in
theorem holder_any (h : Sc w b rv m ps ts H st wi c) {x : Int} (hx : I64 x) : Calls Try.prog 22 #[ptr b, .int .i64 x] w fun e w' => e = .returned (.tuple #[.int .i64 ((H x).getD 0), .bool (H x).isSome]) ∧ w' = w := by
  obtain ⟨D, hD⟩ := h.map
  have hl := hD.lookup hx
  have c1 := h.blk.cell1 1 _ rfl
  go_enter Try.func22, Try.ntmps22
  go_wp2
  go_ret2
  exact ⟨rfl, rfl⟩
set_option maxRecDepth 100000 in
set_option maxHeartbeats 800000 in
theorem wish_any (h : Sc w b rv m ps ts H st wi c) {n : Nat} (ht : ts[n]? = some t) : Calls Try.prog 21 #[ptr b, .int .i64 n] w fun e w' => e = .returned (.tuple #[.agg #[.int .i64 t.kind, .int .i64 t.on], .int .i64 0]) ∧ Below w.heap.size w w' := by
  obtain ⟨p, hp, P⟩ := h.task ht
  obtain ⟨gg, cap, hrv, hcell⟩ := h.at_ hp
  have hnl : n < ps.length := (List.getElem?_eq_some_iff.1 hp).1
  have hnl' : (n : Int) < (ps.length : Int) := by omega
  have hn0 : (0 : Int) ≤ (n : Int) := by omega
  have al := fun (W : World) (o : Obj) => (Below.refl W.heap.size W).alloc (Nat.le_refl _) o
  have c0 := h.blk.cell1 0 _ rfl
  rw [hrv] at c0
  have p2 := P.cell1 2 _ rfl
  have p3 := P.cell1 3 _ rfl
  have lb := h.blk.lt
  have lp := P.lt
  have lg : gg < w.heap.size := h.sb_lt gg (.inr (.inl (by rw [hrv]; rfl)))
  have HI := is_any (h.below (al w (.cells #[.int .i64 0, .int .i64 0] 55))) hnl
  have hq := (al w (.cells #[.int .i64 0, .int .i64 0] 55)).cell (p := ⟨gg, n, none⟩) lg
  rw [hcell] at hq
  have hq2 := (al w (.cells #[.int .i64 0, .int .i64 0] 55)).cell (p := ⟨b, 0, none⟩) lb
  rw [c0] at hq2
  have hq3 := (al w (.cells #[.int .i64 0, .int .i64 0] 55)).cell (p := ⟨p, 2, none⟩) lp
  rw [p2] at hq3
  have hq4 := (al w (.cells #[.int .i64 0, .int .i64 0] 55)).cell (p := ⟨p, 3, none⟩) lp
  rw [p3] at hq4
  go_enter Try.func21, Try.ntmps21
  go_wp2_with (go_at_call 49; refine HI.mono ?_; rintro e w1 ⟨rfl, rfl⟩)
  refine bodyPost_ret (v := .tuple #[.agg #[.int .i64 t.kind, .int .i64 t.on], .int .i64 0]) (by simp [results, Try.results21, go_sem]) rfl ⟨rfl, ?_⟩
  exact al _ _
theorem ap_begin {w W : World} {xb : Nat} {dv : Value} {q : Nat → Nat} {lv : Nat → Value} {ls : List (List (Int × Int))} {k : Nat} (G : Bg w W b rv m ps ts xb dv q lv ls k) (hsum : sumTo (fun i => (lsAt ls i).length) k ≤ 600000) :
    Ap w W b rv m ps ts (fun _ => none) 0 xb dv (.slice none 0 0) [] W.heap.size q lv (lsAt ls) (fun _ => 0) k 600000 := by
  have htk : ∀ i t, ts[i]? = some t → i < k ∧ t = tk0 q i := by
    intro i t ht
    rw [G.tsk, List.getElem?_map] at ht
    by_cases hi : i < k
    · rw [List.getElem?_range hi] at ht
      exact ⟨hi, by simpa using ht.symm⟩
    · rw [List.getElem?_eq_none (by simpa using hi)] at ht
      simp at ht
  refine ⟨⟨G.sc, ⟨G.pr, World.ownsRow_nil _ _ _ _⟩, G.bx, G.rd, G.qq, G.qo, G.bel.size, Nat.le_refl _, G.ox, G.olds, G.lps, G.bel⟩, ⟨by rw [G.sc.len, G.lps], ?_, ?_, ?_⟩, fun i _ => Nat.zero_le _, by simpa using hsum⟩
  · intro i t ht _
    obtain ⟨_, rfl⟩ := htk i t ht
    rfl
  · intro i t ht
    obtain ⟨_, rfl⟩ := htk i t ht
    exact ⟨by unfold tk0 I64; dsimp only; omega, by unfold tk0 I64; dsimp only; omega, by unfold tk0; dsimp only; omega, by unfold tk0; dsimp only; omega⟩
  · intro i j t u ht hu kt
    obtain ⟨_, rfl⟩ := htk i t ht
    simp [tk0] at kt
end
set_option maxRecDepth 100000 in
set_option maxHeartbeats 800000 in
theorem apart_walk (v : Value) (ls : List (List (Int × Int))) (pa : Option Addr) (plen pcap : Nat) (pl : List Int) (w : World) (h : RdDD w v ls w.heap.size) (hp : Arg w pa plen pcap pl) (hls : ∀ l ∈ ls, l.length ≤ 600000 ∧ ∀ y ∈ l, I64 y.1 ∧ I64 y.2) (hsum : sumTo (fun i => (lsAt ls i).length) (min ls.length 64) ≤ 600000) (hl0 : ls.length ≤ 2000000) (hpl : plen ≤ 2000000) :
    Calls Try.prog 5 #[v, .slice pa plen pcap] w fun e w' => e = .returned (.bool true) ∧ Below w.heap.size w w' := by
  obtain ⟨n, hn, hnl, hn64⟩ : ∃ n : Nat, n = min ls.length 64 ∧ n ≤ ls.length ∧ n ≤ 64 := ⟨_, rfl, by omega, by omega⟩
  rw [← hn] at hsum
  obtain ⟨va, vc, hvv, hrows⟩ := h
  subst hvv
  have hn' : Hid _ := hn
  clear hn
  go_enter Try.func5, Try.ntmps5
  go_wp2_with (first
    | (go_at_call 15; refine (begins_any hRD (by omega) n hn'.out).mono ?_; rintro e w2 ⟨b, rv, m, ps, ts, xb, dv, q, lv, rfl, G⟩)
    | (go_at_call 14; refine (lives_any _).mono ?_; rintro e w1 ⟨rfl, hB1⟩
       have hRD : RdDD w1 (.slice va ls.length vc) ls w1.heap.size := by
         refine ⟨va, vc, rfl, fun i l hi => ?_⟩
         obtain ⟨B, off, lv, e1, e2, e3, e4⟩ := hrows i l hi
         refine ⟨B, off, lv, e1, Nat.lt_of_lt_of_le e2 hB1.size, (hB1.cell (p := ⟨B, off + i, none⟩) e2).trans e3, ?_⟩
         rcases e4 with e4 | ⟨B2, off2, cap2, f1, f2, f3⟩
         · exact .inl e4
         · refine .inr ⟨B2, off2, cap2, f1, Nat.lt_of_lt_of_le f2 hB1.size, fun j x hx => ?_⟩
           obtain ⟨g1, g2⟩ := f3 j x hx
           exact ⟨(hB1.cell (p := ⟨B2, off2 + j * 2, none⟩) f2).trans g1, (hB1.cell (p := ⟨B2, off2 + j * 2 + 1, none⟩) f2).trans g2⟩))
  have A0 := ap_begin G hsum
  have hlsn : ∀ i, i < n → lsAt ls i ∈ ls := fun i hi => by
    unfold lsAt
    rw [List.getD_eq_getElem?_getD, List.getElem?_eq_getElem (by omega)]
    exact List.getElem_mem _
  have hl1 : ∀ i, i < n → (lsAt ls i).length ≤ 10000000 := fun i hi => by have := (hls _ (hlsn i hi)).1; omega
  have hl2 : ∀ i, i < n → ∀ y ∈ lsAt ls i, I64 y.1 ∧ I64 y.2 := fun i hi => (hls _ (hlsn i hi)).2
  have hp1 := hp.below hB1
  have hbel1 := hB1
  obtain ⟨M, hM⟩ : ∃ M, M = w2.heap.size := ⟨_, rfl⟩
  rw [← hM] at A0
  clear G hM hRD hrows hls hsum hlsn hB1 hp
  go_loopw [6] (fun i wr => ∃ (st : Nat) (ts : List Tk) (H : Int → Option Int) (tv : Value) (T : List Int) (at_ : Nat → Nat), st ≤ plen ∧ i = .int .i64 st ∧ Ap w1 wr b rv m ps ts H st xb dv tv T M q lv (lsAt ls) at_ n 600000) (fun i _ => plen - (intOf i).toNat)
  case atStart => exact ⟨0, _, _, _, _, _, Nat.zero_le _, rfl, A0⟩
  case round =>
    clear A0
    obtain ⟨st, ts, H, tv, T, at_, hst, rfl, A⟩ := hrel
    obtain ⟨W0, rfl⟩ : ∃ W0, W0 = wr := ⟨_, rfl⟩
    by_cases hlt : st < plen
    · have hlt' : (st : Int) < (plen : Int) := by omega
      have hst0 : (0 : Int) ≤ (st : Int) := by omega
      obtain ⟨PB, poff, X, rfl, hPB, _, px0, px1, hpc0⟩ := hp1.at hlt
      obtain ⟨X, rfl⟩ := Int.eq_ofNat_of_zero_le px0
      have keepP : ∀ W', Below w1.heap.size w1 W' → W'.cell? ⟨PB, poff + st, none⟩ = some (.int .u8 X) := fun W' hB => (hB.cell (p := ⟨PB, poff + st, none⟩) hPB).trans hpc0
      have wX : IntKind.i64.wrap (X : Int) = X := w64 _ (by omega) (by omega)
      have HE := enabled_any A.ps.sc (by rw [A.ps.lps]; exact hn64) (by omega) A.okl
      have x0 := A.ps.pr.blk.cell1 0 _ rfl
      obtain ⟨L, hL⟩ : ∃ L, nums (mayB H st) 0 ts = L := ⟨_, rfl⟩
      rw [hL] at HE
      by_cases hL0 : L = []
      · subst hL0
        have HP := fun W' hB => pick_none (A.below (W' := W') hB).ps.sc (by rw [A.ps.lps]; exact hn64) (by omega) A.okl (.inr hL) (X : Int)
        clear hL
        go_wp2_with (go_at_call 19; refine HE.mono ?_; rintro e w3 ⟨ea, ec, rfl, _, hB3⟩
                     have y0 := (A.below hB3).ps.pr.blk.cell1 0 _ rfl
                     have pc3 := keepP _ (A.below hB3).ps.bel)
        have HP3 := HP _ (hB3.trans ((Below.refl _ _).drew))
        go_cut [8, 9] from 23 to 109 (fun a e wd => e = .int .i64 8 ∧ Below w.heap.size w wd)
        case first =>
          have A3 := A.below hB3
          go_region_held_law (fun w' => w'.cell? ⟨xb, 0, none⟩ = some (ptr b) ∧ w'.cell? ⟨PB, poff + st, none⟩ = some (.int .u8 X))
            (first
              | (go_keep; done)
              | exact ⟨k0, k1⟩)
            (first | (go_at_call 16; refine HP3.mono ?_; rintro e w4 ⟨rfl, hB4⟩
                      have A4 := (A3.below ((Below.refl _ _).drew)).below hB4
                      have k0 := A4.ps.pr.blk.cell1 0 _ rfl
                      have k1 := keepP _ A4.ps.bel))
          all_goals go_wp2
          all_goals go_meet
          all_goals exact ⟨rfl, hbel1.trans (A4.ps.bel.mono hbel1.size)⟩
        case rest =>
          obtain ⟨rfl, hBf⟩ := hcut
          go_wp2
          go_ret
          exact ⟨rfl, hBf⟩
      · have hLp : 0 < L.length := List.length_pos_iff.2 hL0
        obtain ⟨x, hx⟩ : ∃ x, L[X % L.length]? = some x := ⟨_, List.getElem?_eq_getElem (Nat.mod_lt _ hLp)⟩
        have hxm : x ∈ nums (mayB H st) 0 ts := by rw [hL]; exact List.mem_of_getElem? hx
        obtain ⟨i, t, hi0, ht, hq⟩ := nums_iff.1 hxm
        obtain rfl : x = i := by omega
        have hok := A.ti.ok x t ht
        have HP := fun (W' : World) (AA : Ap w1 W' b rv m ps ts H st xb dv tv T M q lv (lsAt ls) at_ n 600000) => ap_pick AA hn64 (by omega) (by omega) hl2 hl1 hL (j := X) (by omega) hx
        have hLne : ((L.length : Int) == 0) = false := beq_eq_false_iff_ne.2 (by omega)
        have hLp' : (0 : Int) < (L.length : Int) := by omega
        have hmod : (X : Int) % (L.length : Int) < (L.length : Int) := Int.emod_lt_of_pos _ hLp'
        have hmod0 : (0 : Int) ≤ (X : Int) % (L.length : Int) := Int.emod_nonneg _ (by omega)
        have hx' : Hid _ := hx
        have hLl : L.length ≤ 64 := by rw [← hL]; have := nums_len (mayB H st) 0 ts; have := A.ti.len; omega
        clear hL hxm hi0 hL0
        go_upto_if 76 with (first
          | (go_at_call 21; refine (wish_any (A.below hB3).ps.sc ht).mono ?_; rintro e w4 ⟨rfl, hB4⟩
             have A4 := (A.below hB3).below hB4)
          | (go_at_call 19; refine HE.mono ?_; rintro e w3 ⟨ea, ec, rfl, hr3, hB3⟩
             have y0 := (A.below hB3).ps.pr.blk.cell1 0 _ rfl
             have pc3 := keepP _ (A.below hB3).ps.bel
             obtain ⟨g3, rfl, hc3⟩ := ic_cell hr3 hx'.out))
        have hheld : t.kind = 1 → H t.on = none := by
          intro e
          unfold mayB at hq
          rw [e] at hq
          simpa using hq
        have z0 := A4.ps.pr.blk.cell1 0 _ rfl
        have lz := A4.ps.pr.blk.lt
        have hBal := (Below.refl w4.heap.size w4).alloc (Nat.le_refl _) (.cells #[.int .i64 t.kind, .int .i64 t.on] 55)
        have A5 := A4.below hBal
        have D5 := Blk.new w4 55 [.int .i64 t.kind, .int .i64 t.on]
        have HHo := fun W' hB => holder_any (A5.below (W' := W') hB).ps.sc hok.o64
        go_cut [13] from 23 to 109 (fun _ wd => Ap w1 wd b rv m ps ts H st xb dv tv T M q lv (lsAt ls) at_ n 600000)
        case first =>
          by_cases hk1 : t.kind = 1
          · have hnone := hheld hk1
            rw [hnone] at HHo
            have HHo5 := HHo _ ((Below.refl _ _).drew)
            clear hheld hq
            rw [hk1] at *
            go_wp2
            go_region_held_law (fun w' => w'.cell? ⟨xb, 0, none⟩ = some (ptr b) ∧ w'.cell? ⟨w4.heap.size, 1, none⟩ = some (.int .i64 t.on))
              (first
                | (go_keep; done)
                | exact ⟨k0, k1⟩)
              (first | (go_at_call 22; refine HHo5.mono ?_; rintro e w6 ⟨rfl, rfl⟩
                        have k0 := A5.ps.pr.blk.cell1 0 _ rfl
                        have k1 := D5.cell1 1 _ rfl))
            all_goals go_wp2
            all_goals go_meet
            all_goals exact A4.below (((Below.refl w4.heap.size w4).alloc (Nat.le_refl _) (.cells #[.int .i64 1, .int .i64 t.on] 55)).drew)
          · have hk1' : (t.kind == 1) = false := by simpa using hk1
            go_wp2
            go_meet
            case rel => exact A5
        case rest =>
          have AC := hcut
          clear hcut
          have HPC := HP _ (AC.below ((Below.refl _ _).drew))
          have c0 := AC.ps.pr.blk.cell1 0 _ rfl
          have cP := keepP _ AC.ps.bel
          clear A4 A5 D5 HHo hheld hq z0 lz hBal HP
          go_wp2
          go_cut [15, 16] from 23 to 109 (fun a _ wd => a = .int .i64 x ∧ ∃ ts' H' tv' T' at', Ap w1 wd b rv m ps ts' H' (st + 1) xb dv tv' T' M q lv (lsAt ls) at' n 600000)
          case first =>
            go_region_held_law (fun w' => w'.cell? ⟨xb, 0, none⟩ = some (ptr b) ∧ w'.cell? ⟨PB, poff + st, none⟩ = some (.int .u8 X))
              (first
                | (go_keep; done)
                | exact ⟨k0, k1⟩)
              (first | (go_at_call 16; refine HPC.mono ?_; rintro e w7 ⟨er, rfl, ts', H', tv', T', at', A7⟩
                        have k0 := A7.ps.pr.blk.cell1 0 _ rfl
                        have k1 := keepP _ A7.ps.bel))
            all_goals go_wp2
            all_goals go_meet
            all_goals exact ⟨rfl, ts', H', tv', T', at', A7⟩
          case rest =>
            obtain ⟨rfl, ts', H', tv', T', at', A7⟩ := hcut
            have x3 := A7.ps.pr.blk.cell1 3 _ rfl
            go_wp2
            go_roundw
            case rel => exact ⟨st + 1, _, _, _, _, _, by omega, by go_num, A7⟩
            case measure => simp [intOf]; omega
    · obtain rfl : st = plen := by omega
      go_wp2
      go_ret
      exact ⟨rfl, hbel1.trans (A.ps.bel.mono hbel1.size)⟩
end Go.Proofs.Ytkdjahgndkdnhaa
