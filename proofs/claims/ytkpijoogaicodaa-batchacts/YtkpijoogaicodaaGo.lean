import Derived.Test.YtkpijoogaicodaaGm
import Derived.Deep.RegionHeldLaw
import Derived.Deep.DeepCutAuto
namespace Go.Proofs.Ytkpijoogaicodaa
open Go.RowKit
set_option linter.unusedVariables false
set_option linter.unusedSimpArgs false
theorem elem23' : Try.prog.elem 23 = 31 := by kernel_rfl
theorem slc23' : Try.prog.underlying 23 = some (.slice (Try.prog.elem 23)) := by rw [elem23']; exact Try.underlying23
theorem rcut (b off n cap k : Nat) (hk : k < cap) (W : World) : (Instr.sliceAt 23 (.slice (some ⟨b, off, none⟩) n cap) (some (.int .i64 (k : Nat))) (some (.int .i64 ((k : Int) + 1))) none).run Try.prog W = .ok (.slice (some ⟨b, off + k * 4, none⟩) 1 (cap - k)) W := by
  have hs : (sizeOf 31).run Try.prog W = .ok 4 W := by kernel_rfl
  have hr := run_slice_lh (P := Try.prog) W 23 (some ⟨b, off, none⟩) n cap slc23' .i64 .i64 (k : Int) ((k + 1 : Nat) : Int) (by omega) (by omega) (by omega)
  rw [elem23', hs] at hr
  simp only [Result.andThen, sliced, Int.toNat_natCast] at hr
  have e : ((k + 1 : Nat) : Int) = (k : Int) + 1 := by omega
  rw [e] at hr
  rw [run_sliceAt_slice _ _ _ _ _ _ slc23', hr]
  have h1 : ¬ cap = k := by omega
  have h2 : ((k : Int) + 1).toNat - k = 1 := by omega
  simp [h1, h2, add_at]
theorem rd_cut {w : World} {b off cap c' : Nat} {l : List Rec} (h : RdR w (.slice (some ⟨b, off, none⟩) l.length cap) l) {k : Nat} (hk : k < l.length) : RdR w (.slice (some ⟨b, off + k * 4, none⟩) 1 c') [l[k]] := by
  obtain ⟨b', off', cap', e, hb, hc⟩ := h.at hk
  cases e
  refine .inr ⟨b, off + k * 4, c', rfl, hb, fun j hj => ?_⟩
  have : j = 0 := by simp at hj; omega
  subst this
  simpa using hc
def addF (l : List Rec) : List Rec := l.foldl addL []
theorem addF_succ (l : List Rec) (k : Nat) (h : k < l.length) : addF (l.take (k + 1)) = addL (addF (l.take k)) l[k] := by
  unfold addF
  rw [List.take_succ_eq_append_getElem h, List.foldl_append]
  rfl
theorem bq_new (w : World) : Bq w ((w.alloc (.cells #[nilv, .int .i64 0, nilv] 43)).alloc (.cells #[nilv, nilv] 46)) w.heap.size (w.heap.size + 1) nilv nilv nilv nilv [] [] := by
  have h2 := Qt.new (w.alloc (.cells #[nilv, .int .i64 0, nilv] 43))
  rw [World.size_alloc] at h2
  refine ⟨((Below.refl _ w).alloc (Nat.le_refl _) _).alloc (by simp) _, (Bt.new w).below ((Below.refl _ _).alloc (Nat.le_refl _) _), h2, fun k hk => (by cases hk), fun k hk => (by cases hk), fun k hk => (by cases hk), by simp [Value.ownBlock], Nat.le_refl _, by omega, fun k hk => (by cases hk), fun k hk => (by cases hk), Good.nil, by simp, rfl, by simp, by simp⟩
set_option maxRecDepth 100000 in
set_option maxHeartbeats 4000000 in
/-- The act 1: a batch of its own is appended. -/
theorem does_many {w0 w : World} {b q : Nat} {rv mv rv2 mv2 : Value} {rs : List Rec} {ms : List Nat} (h : Bq w0 w b q rv mv rv2 mv2 rs ms) (nm : Bool) (f kd : Int) (key val : ByteArray) (sv : Value) (l : List Rec) (hl : RdR w sv l) (hc : ∀ a n c, sv = .slice a n c → n ≤ c) (hF : Fam l) (hV : ∀ r ∈ l, (r.val.size : Int) ≤ 9223372036854775807) (hln : l.length ≤ 3000000000000) :
    Calls Try.prog 17 #[.agg #[ptr b, ptr q], actV 1 nm f kd key val sv] w (PairPost w0 w b q rv mv (apL rs (addF l)) ms) := by
  obtain ⟨sa, sc, rfl⟩ := hl.len
  have hsc := hc sa l.length sc rfl
  obtain ⟨W2, hW2⟩ : ∃ W, W = (w.alloc (.cells #[ptr b, ptr q] 48)).alloc (.cells #[.int .i64 1, .bool nm, .int .u32 f, .int .i64 kd, .string key, .string val, .slice sa l.length sc] 51) := ⟨_, rfl⟩
  have V0 : Below w.heap.size w W2 := by rw [hW2]; exact ((Below.refl w.heap.size w).alloc (Nat.le_refl _) _).alloc (by simp) _
  have hX : W2.heap.size = w.heap.size + 2 := by rw [hW2]; simp
  have B1 : Blk W2 w.heap.size 48 [ptr b, ptr q] := by rw [hW2]; exact (Blk.new w 48 [ptr b, ptr q]).alloc _
  have B2 : Blk W2 (w.heap.size + 1) 51 [.int .i64 1, .bool nm, .int .u32 f, .int .i64 kd, .string key, .string val, .slice sa l.length sc] := by
    have := Blk.new (w.alloc (.cells #[ptr b, ptr q] 48)) 51 [.int .i64 1, .bool nm, .int .u32 f, .int .i64 kd, .string key, .string val, .slice sa l.length sc]
    rw [World.size_alloc] at this
    rw [hW2]
    exact this
  have O0 := bq_new W2
  rw [hX] at O0
  have hl2 := hl.below V0
  go_enter Try.func17, Try.ntmps17
  go_wp2
  rw [← hW2]
  have bX := B1.lt
  have bX1 := B2.lt
  obtain ⟨X, hXX⟩ : ∃ X, X = w.heap.size := ⟨_, rfl⟩
  rw [← hXX] at O0 B1 B2 bX bX1 hX ⊢
  have O0' : Bq W2 ((W2.alloc (.cells #[nilv, .int .i64 0, nilv] 43)).alloc (.cells #[nilv, nilv] 46)) (X + 1 + 1) (X + 1 + 1 + 1) nilv nilv nilv nilv [] [] := O0
  have hXX' : Hid _ := hXX
  clear O0 hW2 hXX
  go_loopw [7] (fun i wr => ∃ (k : Nat) (rvO mvO rv2O mv2O : Value), k ≤ l.length ∧ i = .int .i64 (k : Nat) ∧ Bq W2 wr (X + 1 + 1) (X + 1 + 1 + 1) rvO mvO rv2O mv2O (addF (l.take k)) [] ∧ New W2.heap.size rv2O) (fun i _ => l.length - (intOf i).toNat)
  case atStart => exact ⟨0, _, _, _, _, Nat.zero_le _, rfl, O0', fun k hk => by cases hk⟩
  case round =>
    clear O0'
    obtain ⟨k, rvO, mvO, rv2O, mv2O, hk, rfl, BO, hnO⟩ := hrel
    obtain ⟨W, rfl⟩ : ∃ W, W = wr := ⟨_, rfl⟩
    have C2 := B2.upd (S := fun j => W2.heap.size ≤ j) ⟨BO.bel.os, BO.bel.tape, BO.bel.output, BO.bel.size, fun j hj _ => BO.bel.block j hj⟩ (by omega)
    have C1 := B1.upd (S := fun j => W2.heap.size ≤ j) ⟨BO.bel.os, BO.bel.tape, BO.bel.output, BO.bel.size, fun j hj _ => BO.bel.block j hj⟩ (by omega)
    have y6 := C2.cell1 6 _ rfl
    by_cases hlt : k < l.length
    · have hlt' : (k : Int) < (l.length : Int) := by omega
      have hk0 : (0 : Int) ≤ (k : Int) := by omega
      obtain ⟨B, off, cap, e, hB, s0, s1, s2, s3⟩ := hl2.at hlt
      cases e
      have wk : IntKind.i64.wrap ((k : Int) + 1) = (k : Int) + 1 := by rw [IntKind.wrap_i64]; omega
      have CR := rcut B off l.length sc k (by omega)
      have CR2 := CR
      rw [← wk] at CR2
      clear wk
      have hrd := (hl2.below BO.bel)
      have hFk := hF l[k] (List.getElem_mem hlt)
      have hVk := hV l[k] (List.getElem_mem hlt)
      have hnx := addF_succ l k hlt
      have BOd := BO.step ((Below.refl W.heap.size W).drew)
      have hrdc := fun (c' : Nat) => (rd_cut (c' := c') hrd hlt)
      obtain ⟨r, hr⟩ : ∃ r, r = l[k] := ⟨_, rfl⟩
      rw [← hr] at s0 s1 s2 s3 hFk hVk hnx
      have y6' := B2.cell1 6 _ rfl
      have SK : ∀ W', Below W2.heap.size W2 W' → W'.cell? ⟨X + 1, 6, none⟩ = some (.slice (some ⟨B, off, none⟩) l.length sc) ∧ W'.cell? ⟨B, off + k * 4, none⟩ = some (.int .u32 r.fam) ∧ W'.cell? ⟨B, off + k * 4 + 1, none⟩ = some (.int .i64 r.kind) ∧ W'.cell? ⟨B, off + k * 4 + 2, none⟩ = some (.string r.key) ∧ W'.cell? ⟨B, off + k * 4 + 3, none⟩ = some (.string r.val) := fun W' hW =>
        ⟨(hW.cell (p := ⟨X + 1, 6, none⟩) bX1).trans y6', (hW.cell (p := ⟨B, off + k * 4, none⟩) hB).trans s0, (hW.cell (p := ⟨B, off + k * 4 + 1, none⟩) hB).trans s1, (hW.cell (p := ⟨B, off + k * 4 + 2, none⟩) hB).trans s2, (hW.cell (p := ⟨B, off + k * 4 + 3, none⟩) hB).trans s3⟩
      obtain ⟨y6, r0, r1, r2, r3⟩ := SK W BO.bel
      clear s0 s1 s2 s3 y6'
      simp only [← hr] at hrdc
      have HA := add_any BOd.p BOd.good r hFk.1 hFk.2
      have hgl := BO.good.len
      have HQ := fun (W' : World) (hq : Qt W' (X + 1 + 1 + 1) rv2O mv2O (addF (l.take k)) []) (v : Value) (hv : RdR W' v [r]) => qadd_any hq hv (fun x hx => by simp at hx; subst hx; exact hFk) (fun x hx => by simp at hx; subst hx; exact hVk) BO.fine (by omega) (by simp)
      unfold QAddPost at HQ
      rw [qadE_one, qadL_one BO.pl] at HQ
      have M1 := BO.good.add r
      have M2 := fine_add BO.fine hFk.1 hFk.2
      have M3 := BO.pl.add r
      have M4 := ck_add (r := r) BO.ck
      have M5 := mk_add r BO.up
      have hnx' : Hid _ := hnx
      have hr' : Hid _ := hr
      clear hr hnx
      generalize addE (addF (l.take k)) r = E at HA HQ
      go_upto_region 9 with fail
      go_cut [43] from 28 to 42 (fun a wd => a = .bool false ∧ ∃ rvO' mvO' rv2O' mv2O', Bq W2 wd (X + 1 + 1) (X + 1 + 1 + 1) rvO' mvO' rv2O' mv2O' (addF (l.take (k + 1))) [] ∧ New W2.heap.size rv2O')
      case first =>
        go_region_held_law (fun w' => w'.cell? ⟨X + 1, 6, none⟩ = some (.slice (some ⟨B, off, none⟩) l.length sc) ∧ w'.cell? ⟨B, off + k * 4, none⟩ = some (.int .u32 r.fam) ∧ w'.cell? ⟨B, off + k * 4 + 1, none⟩ = some (.int .i64 r.kind) ∧ w'.cell? ⟨B, off + k * 4 + 2, none⟩ = some (.string r.key) ∧ w'.cell? ⟨B, off + k * 4 + 3, none⟩ = some (.string r.val))
          (first
            | exact SK _ hE.1.bel
            | exact SK _ e1
            | (go_keep; done))
          (first
            | (go_at_call 45; refine (HQ _ hq1 _ hv1).mono ?_; rintro e w2 ⟨rv2', rfl, k1, k2, k3⟩
               have hE := bq_both BOd g1 g2 g3 k1 k2 k3 M1 M2 M3 M4 M5)
            | (go_at_call 19; refine HA.mono ?_; rintro e w1 ⟨rv', rfl, g1, g2, g3⟩
               have hq1 := BOd.pfirst g2
               have e1 := Upd.bel BOd.bel g2 (of_new BOd.yb BOd.yr)
               have hv1 := (rd_cut (c' := sc - k) (hl2.below e1) hlt)
               rw [← hr'.out] at hv1))
        all_goals
          go_wp2
          go_meet
          exact ⟨rfl, _, _, _, _, by rw [hnx'.out]; exact hE.1, fun j hj => by
            rcases k3 with rfl | k3
            · exact hnO j hj
            · exact Nat.le_trans e1.size (k3 j hj)⟩
      case rest =>
        obtain ⟨rfl, rvO', mvO', rv2O', mv2O', BN, hnN⟩ := hcut
        go_wp2
        go_roundw
        case rel => exact ⟨k + 1, _, _, _, _, by omega, by go_num, BN, hnN⟩
        case measure => simp [intOf]; omega
    · obtain rfl : k = l.length := by omega
      rw [List.take_of_length_le (Nat.le_refl _)] at BO
      have hW1 : Below w.heap.size w W := V0.trans (BO.bel.mono V0.size)
      have S0 := h.step (hW1.drew)
      have BOd := BO.step ((Below.refl W.heap.size W).drew)
      have HA := append_any S0.p BOd.p h.good BO.good
      have hgl := h.good.len
      have hol := BO.good.len
      have HQ := fun (W' : World) (hq : Qt W' q rv2 mv2 rs ms) (hv : RdR W' rv2O (addF l)) => qadd_any hq hv (fun r hr => ⟨(BO.fine r hr).f0, (BO.fine r hr).f1⟩) (val_small BO.pl BO.ck) h.fine (by omega) (by omega)
      unfold QAddPost at HQ
      rw [qadE_many BO.ck, qadL_many h.pl BO.pl BO.ck] at HQ
      unfold ApPost at HA
      have M1 := h.good.append (addF l)
      have M2 := apL_all h.fine BO.fine
      have M3 := h.pl.ap BO.pl
      have M4 := apL_all h.ck BO.ck
      have M5 := mk_le h.up (apL_len rs (addF l))
      have lb := h.p.blk.lt
      have lq := h.r.blk.lt
      have lr := h.p.row.lt
      have hXe := hXX'.out
      have ofX : ∀ j, X ≤ j → ¬ Of b rv j := by
        rintro j hj (e | e)
        · omega
        · have := (lr j e).2; omega
      have qX : q < X := by omega
      have c0 := C1.cell1 0 _ rfl
      have c1 := C1.cell1 1 _ rfl
      have D1 := BO.r.blk
      have d0 := D1.cell1 0 _ rfl
      have tE : ∀ x : Int, (x == x) = true := fun x => by simp
      obtain ⟨E, hE0⟩ : ∃ E, E = apE rs (addF l) := ⟨_, rfl⟩
      rw [← hE0] at HA HQ
      clear hE0 hXe
      have hyr := BO.yr
      have hym := BO.ym
      have hrow := BOd.r.row
      go_wp2
      go_region_held_law (fun w' => w'.cell? ⟨X, 0, none⟩ = some (ptr b) ∧ w'.cell? ⟨X, 1, none⟩ = some (ptr q) ∧ w'.cell? ⟨X + 1 + 1 + 1, 0, none⟩ = some rv2O)
        (first
          | exact ⟨k40, k41, k42⟩
          | exact ⟨k30, k31, k32⟩
          | exact ⟨k20, k21, k22⟩
          | exact ⟨k10, k11, k12⟩
          | (go_keep; done))
        (first
          | (go_at_call 14; refine HS.mono ?_; rintro e w4 ⟨rfl, hB4⟩
             have k40 := (hB4.cell (p := ⟨X, 0, none⟩) lX3).trans k30
             have k41 := (hB4.cell (p := ⟨X, 1, none⟩) lX3).trans k31
             have k42 := (hB4.cell (p := ⟨X + 1 + 1 + 1, 0, none⟩) lD3).trans k32)
          | (go_at_call 20; refine HRc.mono ?_; rintro e w3 ⟨v3, rfl, hrow3, hB3, hn3⟩
             have k30 := (hB3.cell (p := ⟨X, 0, none⟩) lX2).trans k20
             have k31 := (hB3.cell (p := ⟨X, 1, none⟩) lX2).trans k21
             have k32 := (hB3.cell (p := ⟨X + 1 + 1 + 1, 0, none⟩) lD2).trans k22
             have lX3 := Nat.lt_of_lt_of_le lX2 hB3.size
             have lD3 := Nat.lt_of_lt_of_le lD2 hB3.size
             have HS := same_yes (row_rd hrow3) (hv2.below hB3) (by omega))
          | (go_at_call 45; refine (HQ _ hq1 hv1).mono ?_; rintro e w2 ⟨rv2', rfl, k1, k2, k3⟩
             have hE := bq_both S0 g1 g2 g3 k1 k2 k3 M1 M2 M3 M4 M5
             have P2 := P1.upd k2 (by omega)
             have D3 := D2.upd k2 (by omega)
             have k20 := P2.cell1 0 _ rfl
             have k21 := P2.cell1 1 _ rfl
             have k22 := D3.cell1 0 _ rfl
             have lX2 := P2.lt
             have lD2 := D3.lt
             have hv2 := hv1.upd k2 (fun j hj e => by have := hnO j hj; omega)
             have HRc := records_any (O1.upd k2 (by omega) (fun j hj e => by have := hyr j hj; omega) (fun j hj e => by have := hym j hj; omega)) (by omega))
          | (go_at_call 25; refine HA.mono ?_; rintro e w1 ⟨rv', rfl, g1, g2, g3⟩
             have hq1 := S0.pfirst g2
             have P1 := C1.drew.upd g2 (ofX X (Nat.le_refl _))
             have D2 := D1.drew.upd g2 (ofX _ (by omega))
             have k10 := P1.cell1 0 _ rfl
             have k11 := P1.cell1 1 _ rfl
             have k12 := D2.cell1 0 _ rfl
             have hv1 := hrow.upd g2 (fun j hj => ofX j (by have := hnO j hj; omega))
             have O1 := BOd.p.upd g2 (ofX _ (by omega)) (fun j hj => ofX j (by have := hyr j hj; omega)) (fun j hj => ofX j (by have := hym j hj; omega))))
      all_goals
        go_wp2
        go_ret
        exact ⟨rv', mv, rv2', mv2, rfl, (hE.1.step hB3).step hB4, (((Upd.ofBelow hW1.drew).trans hE.2).trans (Upd.ofBelow hB3)).trans (Upd.ofBelow hB4)⟩
end Go.Proofs.Ytkpijoogaicodaa
