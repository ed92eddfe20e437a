/-
  The reference's Build.
-/
import Derived.Test.YtbmljdeenbokmaaQa
namespace Go.Proofs.Ytbmljdeenbokmaa
open Go.RowKit Go.Maps
set_option linter.unusedVariables false
set_option linter.unusedSimpArgs false

theorem sets_app (N : Nat) (f : List Int) (hf : f.length = N) (x : Int) (ps : List Int) (hp : ∀ p ∈ ps, (p / 8).toNat < N) : sets (f ++ [x]) ps = sets f ps ++ [x] := by
  induction ps generalizing f with
  | nil => rfl
  | cons p ps ih =>
    have h1 := hp p (by simp)
    have e : setb (f ++ [x]) p = setb f p ++ [x] := by
      unfold setb
      rw [List.set_append_left _ _ (by omega)]
      congr 2
      simp [List.getD_eq_getElem?_getD, List.getElem?_append, hf, h1]
    show sets (setb (f ++ [x]) p) ps = _
    rw [e, ih (setb f p) (by rw [setb_length]; exact hf) (fun q hq => hp q (by simp [hq]))]; rfl
theorem bldF_app (N n : Nat) (hN : 0 < N) (f : List Int) (hf : f.length = N) (x : Int) (ks : List ByteArray) : bldF (f ++ [x]) N n ks = bldF f N n ks ++ [x] := by
  induction ks generalizing f with
  | nil => rfl
  | cons k ks ih =>
    show bldF (sets (f ++ [x]) _) N n ks = _
    rw [sets_app N f hf x _ (fun p hp => (prbs_lt _ N hN n p hp).2), ih _ (by rw [sets_length]; exact hf)]; rfl
/-- The last byte comes at the end, or at the beginning. -/
theorem bld_late (N : Nat) (hN : 0 < N) (x : Int) (n : Nat) (ks : List ByteArray) : (bldF (List.replicate (N + 1) 0) N n ks).set N x = bldF (ini N x) N n ks := by
  rw [show List.replicate (N + 1) (0 : Int) = List.replicate N 0 ++ [0] from List.replicate_succ']
  rw [bldF_app N n hN _ (by simp) 0 ks]
  unfold ini
  rw [bldF_app N n hN _ (by simp) x ks, List.set_append_right _ _ (by rw [bldF_length]; simp)]
  simp [bldF_length]
set_option maxRecDepth 100000 in
set_option maxHeartbeats 1000000 in
theorem rbuild_long (a : Option Addr) (len cap : Nat) (bt : Int) (w : World) (hl : 1048576 < len) (hl2 : len ≤ 140737488351232) (hb1 : 1 ≤ bt) (hb2 : bt ≤ 64) :
    Calls Try.prog 8 #[.slice a len cap, .int .i64 bt] w fun e w' => e = .returned (.tuple #[.slice none 0 0, .int .i64 2]) ∧ w' = w := by
  obtain ⟨x, hx⟩ : ∃ x, npr bt = x := ⟨_, rfl⟩
  have HCP : Hid (∀ W, Calls Try.prog 10 #[.int .i64 bt] W fun e w' => e = .returned (.tuple #[.int .i64 x, .int .i64 0]) ∧ w' = W) := fun W => by rw [← hx]; exact rprobes_yes bt W hb1 hb2
  clear hx
  go_enter Try.func8, Try.ntmps8
  go_wp2_with (go_at_call 10; refine (HCP.out _).mono ?_; rintro e w' ⟨rfl, hw⟩; have hw1 := hw.symm; subst hw1; clear hw)
  go_ret2
  exact ⟨rfl, rfl⟩
set_option maxRecDepth 100000 in
set_option maxHeartbeats 1000000 in
theorem rbuild_arg (a : Option Addr) (len cap : Nat) (bt : Int) (w : World) (hb : bt < 1 ∨ 64 < bt) :
    Calls Try.prog 8 #[.slice a len cap, .int .i64 bt] w fun e w' => e = .returned (.tuple #[.slice none 0 0, .int .i64 1]) ∧ w' = w := by
  have HCP : Hid (∀ W, Calls Try.prog 10 #[.int .i64 bt] W fun e w' => e = .returned (.tuple #[.int .i64 0, .int .i64 1]) ∧ w' = W) := fun W => rprobes_no bt W hb
  clear hb
  go_enter Try.func8, Try.ntmps8
  go_wp2_with (go_at_call 10; refine (HCP.out _).mono ?_; rintro e w' ⟨rfl, hw⟩; have hw1 := hw.symm; subst hw1; clear hw)
  go_ret2
  exact ⟨rfl, rfl⟩
set_option maxRecDepth 100000 in
set_option maxHeartbeats 2000000 in
theorem rbuild_yes (a : Option Addr) (cap : Nat) (ks : List ByteArray) (bt : Int) (w : World) (hS : Strs w a ks)
    (hl : ks.length ≤ 1048576) (hb1 : 1 ≤ bt) (hb2 : bt ≤ 64) (N : Nat) (hN : fsz (bt.toNat * ks.length) = N) :
    Calls Try.prog 8 #[.slice a ks.length cap, .int .i64 bt] w fun e w' => e = .returned (.tuple #[.slice (some ⟨w.heap.size, 0, none⟩) (N + 1) (N + 1), .int .i64 0]) ∧ Row w' w.heap.size (bldF (ini N (npr bt)) N (npr bt).toNat ks) ∧ Below w.heap.size w w' := by
  have HS : Hid (Strs w a ks) := hS
  clear hS
  have hnb : bt.toNat * ks.length ≤ 64 * 1048576 := Nat.mul_le_mul (by omega) hl
  have hNb := fsz_bd _ hnb
  rw [hN] at hNb
  obtain ⟨hN8, hN9⟩ := hNb
  have hmul : bt * (ks.length : Int) = ((bt.toNat * ks.length : Nat) : Int) := by
    rw [Int.natCast_mul, Int.toNat_of_nonneg (by omega)]
  have hm1 : 0 ≤ bt * (ks.length : Int) := by rw [hmul]; omega
  have hm2 : bt * (ks.length : Int) ≤ 67108864 := by rw [hmul]; omega
  have HNI : Hid ((if (bt * (ks.length : Int) + 7) / 8 < 8 then 8 else (bt * (ks.length : Int) + 7) / 8) = (N : Int)) := by
    show _ = _
    rw [hmul, ← hN]
    unfold fsz
    generalize bt.toNat * ks.length = z
    split <;> split <;> omega
  have hmk := run_mkB N (by omega)
  have hnp := npr_bd bt
  obtain ⟨x, hx⟩ : ∃ x, npr bt = x := ⟨_, rfl⟩
  rw [hx] at hnp ⊢
  obtain ⟨hx0, hx1⟩ := hnp
  have HCP : Hid (∀ W, Calls Try.prog 10 #[.int .i64 bt] W fun e w' => e = .returned (.tuple #[.int .i64 x, .int .i64 0]) ∧ w' = W) := fun W => by rw [← hx]; exact rprobes_yes bt W hb1 hb2
  clear hnb hmul hN hx
  obtain ⟨n, rfl⟩ : ∃ n : Nat, x = n := ⟨x.toNat, by omega⟩
  rw [Int.toNat_natCast]
  go_enter Try.func8, Try.ntmps8
  go_upto_if 31 with (go_at_call 10; refine (HCP.out _).mono ?_; rintro e w' ⟨rfl, hw⟩; have hw1 := hw.symm; subst hw1; clear hw)
  go_cut [8] (fun t wd => t = .int .i64 (N : Int) ∧ wd = w)
  case first =>
    go_wp2
    all_goals
      go_meet
      case rel =>
        have h := HNI.out
        refine ⟨val_i ?_, rfl⟩
        split at h <;> omega
  case rest =>
    obtain ⟨rfl, hw⟩ := hcut
    have hw1 := hw.symm
    subst hw1
    clear hw
    have HRB : Hid (∀ (W : World) (s : ByteArray), s.size ≤ maxLen → Calls Try.prog 25 #[.string s, .int .u64 (8 * (N : Int)), .int .i64 n] W fun e w' => ∃ av cv, e = .returned (.slice av n cv) ∧ w'.ownsRow W.heap.size 31 1 (.slice av n cv) n (lc (prbs (hsh s) (N * 8) n)) ∧ Below W.heap.size W w') := fun W s hs => by
      have := rbits_any s (8 * (N : Int)) n W hs (by omega) (by omega) (by omega)
      rw [Int.mul_comm 8 (N : Int)] at this
      rw [Int.mul_comm 8 (N : Int)]; exact this
    go_wp2
    have hr0 : Row (w.alloc (Obj.cells (zer (N + 1)) 5)) w.heap.size (bldF (List.replicate (N + 1) 0) N n (ks.take 0)) := heap_alloc_new w _
    have hbb0 : Below w.heap.size w (w.alloc (Obj.cells (zer (N + 1)) 5)) := (Below.refl _ w).alloc (Nat.le_refl _) _
    clear hmk
    go_loopw [10] (fun i wr => ∃ k : Nat, k ≤ ks.length ∧ i = .int .i64 k ∧ Row wr w.heap.size (bldF (List.replicate (N + 1) 0) N n (ks.take k)) ∧ Below w.heap.size w wr) (fun i _ => ((ks.length : Int) - intOf i).toNat)
    case atStart => exact ⟨0, Nat.zero_le _, rfl, hr0, hbb0⟩
    case round =>
      obtain ⟨k, hk, rfl, hrk, hbk⟩ := hrel
      by_cases hlk : k < ks.length
      · obtain ⟨hks, hSS⟩ := HS.out
        obtain ⟨kb, koff, rfl, hklt, hkc⟩ : ∃ b off, a = some ⟨b, off, none⟩ ∧ b < w.heap.size ∧ ∀ j, (h : j < ks.length) → w.cell? ⟨b, off + j, none⟩ = some (.string ks[j]) := by
          rcases hSS with rfl | hSS
          · simp at hlk
          · exact hSS
        clear hSS
        have hck := (hbk.cell (p := ⟨kb, koff + k, none⟩) hklt).trans (hkc k hlk)
        have hkz := hks ks[k] (List.getElem_mem hlk)
        clear hkc hks
        obtain ⟨f, hf⟩ : ∃ f, bldF (List.replicate (N + 1) 0) N n (ks.take k) = f := ⟨_, rfl⟩
        have HT : Hid (bldF (List.replicate (N + 1) 0) N n (ks.take (k + 1)) = sets f (prbs (hsh ks[k]) (N * 8) n)) := by
          show _ = _
          rw [List.take_succ_eq_append_getElem hlk, bldF_snoc, hf]
        have HFL : Hid (f.length = N + 1) := by show _ = _; rw [← hf, bldF_length]; simp
        have HFB : Hid (Byt f) := by
          show Byt f
          rw [← hf]; exact bldF_byt (fun y hy => by simp at hy; omega) _ _ _
        rw [hf] at hrk
        clear hf
        have HPB : Hid (∀ p ∈ prbs (hsh ks[k]) (N * 8) n, 0 ≤ p ∧ (p / 8).toNat < N) := prbs_lt (hsh ks[k]) N (by omega) n
        have HPL : Hid ((prbs (hsh ks[k]) (N * 8) n).length = n) := prbs_length _ _ _
        have HCB : Hid (∀ (W : World), Calls Try.prog 25 #[.string ks[k], .int .u64 (8 * (N : Int)), .int .i64 n] W fun e w' => ∃ av cv, e = .returned (.slice av n cv) ∧ w'.ownsRow W.heap.size 31 1 (.slice av n cv) n (lc (prbs (hsh ks[k]) (N * 8) n)) ∧ Below W.heap.size W w') := fun W => HRB.out W _ hkz
        generalize prbs (hsh ks[k]) (N * 8) n = T at *
        go_wp2_with (go_at_call 25; refine (HCB.out _).mono ?_; rintro e w3 ⟨av, cv, rfl, hrow, hb3⟩)
        obtain ⟨_, hTT⟩ := row_lcell hrow
        obtain ⟨tb, rfl, htb, htl, htc⟩ : ∃ b, av = some ⟨b, 0, none⟩ ∧ wr.heap.size ≤ b ∧ b < w3.heap.size ∧ ∀ j, j < n → w3.cell? ⟨b, j, none⟩ = some (.int .u64 (T.getD j 0)) := by
          rcases hTT with hT | hT
          · have := HPL.out; rw [hT] at this; simp at this; omega
          · exact hT
        have hbk3 := hbk.trans (hb3.mono hbk.size)
        have hrk3 := hrk.below hb3
        have hBt : w.heap.size < tb := by have := hrk.lt; omega
        obtain ⟨W0, hW0⟩ : ∃ W0, W0 = w3 := ⟨_, rfl⟩
        rw [← hW0] at hbk3 hrk3 htc ⊢
        clear hW0 hTT hrow hb3 hrk hbk htl
        go_loopw [12] (fun i wr => ∃ j : Nat, j ≤ n ∧ i = .int .i64 j ∧ Row wr w.heap.size (sets f (T.take j)) ∧ (∀ j, j < n → wr.cell? ⟨tb, j, none⟩ = some (.int .u64 (T.getD j 0))) ∧ Below w.heap.size w wr) (fun i _ => ((n : Int) - intOf i).toNat)
        case atStart => exact ⟨0, Nat.zero_le _, rfl, hrk3, htc, hbk3⟩
        case round =>
          obtain ⟨j, hj, rfl, hrj, htj, hbj⟩ := hrel
          by_cases hlj : j < n
          · have hjT : j < T.length := by rw [HPL.out]; exact hlj
            have hpm : T.getD j 0 ∈ T := by rw [List.getD_eq_getElem?_getD, List.getElem?_eq_getElem hjT]; exact List.getElem_mem _
            obtain ⟨hp0, hp1⟩ := HPB.out _ hpm
            have c1 : wr.drew.cell? ⟨tb, j, none⟩ = some (.int .u64 (T.getD j 0)) := htj j hlj
            have HTT : Hid (T.take (j + 1) = T.take j ++ [T.getD j 0]) := by
              show _ = _
              rw [List.take_succ_eq_append_getElem hjT, List.getD_eq_getElem?_getD, List.getElem?_eq_getElem hjT]; rfl
            obtain ⟨p, hp⟩ : ∃ p, T.getD j 0 = p := ⟨_, rfl⟩
            rw [hp] at hp0 hp1 c1 HTT
            obtain ⟨g, hg⟩ : ∃ g, sets f (T.take j) = g := ⟨_, rfl⟩
            have hgl : g.length = N + 1 := by rw [← hg, sets_length]; exact HFL.out
            have hgb : Byt g := by rw [← hg]; exact sets_byt HFB.out _
            obtain ⟨q, hq⟩ : ∃ q : Nat, p / 8 = q := ⟨(p / 8).toNat, by omega⟩
            have hqN : q < N := by omega
            have hq8 : (p / 8).toNat = q := by omega
            have hpU : p < 134217728 := by omega
            obtain ⟨y, hy⟩ : ∃ y, g.getD q 0 = y := ⟨_, rfl⟩
            have hyb := byt_get hgb q
            rw [hg] at hrj
            have hcq0 := hrj.cell q (by omega)
            rw [hy] at hcq0 hyb
            obtain ⟨hy0, hy1⟩ := hyb
            have hcq : wr.drew.cell? ⟨w.heap.size, q, none⟩ = some (.int .u8 y) := hcq0
            have hfq : wr.drew.frozen? ⟨w.heap.size, q, none⟩ = false := hrj.frozen q
            have hqi : ((q : Int) < (N : Int) + 1) = True := eq_true (by omega)
            have HG : Hid (sets f (T.take (j + 1)) = g.set q (bits .or .u8 y (2 ^ (p % 8).toNat % 256))) := by
              show _ = _
              rw [HTT.out, sets_snoc, hg]
              unfold setb mk; rw [hq8, hy]
            clear hp hpm hgl hgb hq8 hy hg hp1 hcq0 hjT
            go_wp2
            go_region
            go_wp2
            go_roundw
            case rel =>
              refine ⟨j + 1, by omega, by go_num, by rw [HG.out]; exact hrj.set q _, fun i hi => ?_, (hbj.setCell (p := ⟨w.heap.size, q, none⟩) (Nat.le_refl _) _).drew⟩
              exact (World.cell?_setCell_other wr ⟨w.heap.size, q, none⟩ ⟨tb, i, none⟩ _ (by simp <;> omega)).trans (htj i hi)
            case measure => simp [intOf]; omega
          · have HJN : Hid (T.take j = T) := List.take_of_length_le (by rw [HPL.out]; omega)
            have hji : ¬ ((j : Int) < (n : Int)) := by omega
            go_wp2
            go_roundw
            case rel => exact ⟨k + 1, by omega, by go_num, by rw [HT.out, ← HJN.out]; exact hrj, hbj⟩
            case measure => simp [intOf]; omega
      · have HKL : Hid (ks.take k = ks) := List.take_of_length_le (by omega)
        have hki : ¬ ((k : Int) < (ks.length : Int)) := by omega
        have hcl := hrk.cell N (by rw [bldF_length]; simp)
        have hcf := hrk.frozen N
        generalize (bldF (List.replicate (N + 1) 0) N n (ks.take k)).getD N 0 = zz at hcl
        have HLT : Hid ((bldF (List.replicate (N + 1) 0) N n ks).set N (n : Int) = bldF (ini N n) N n ks) := bld_late N (by omega) n n ks
        have hNi : ((N : Int) < (N : Int) + 1) = True := eq_true (by omega)
        go_wp2
        go_ret2
        refine ⟨rfl, ?_, hbk.setCell (p := ⟨w.heap.size, N, none⟩) (Nat.le_refl _) _⟩
        rw [← HLT.out, ← HKL.out]
        rw [HKL.out]
        rw [HKL.out] at hrk
        exact hrk.set N _
end Go.Proofs.Ytbmljdeenbokmaa
