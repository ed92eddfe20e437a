/-
  BloomSets: the walk where filters come of it.
-/
import Derived.Test.YtbmljdeenbokmaaJ
import Derived.Deep.RegionWith
namespace Go.Proofs.Ytbmljdeenbokmaa
open Go.RowKit Go.Maps
set_option linter.unusedVariables false
set_option linter.unusedSimpArgs false

theorem bld_isf (ks : List ByteArray) (bt : Int) (hl : ks.length ≤ 1048576) (h2 : bt ≤ 64) : isf (bld ks bt) = true := by
  have := bld_chk ks bt hl h2
  unfold chkB at this
  simp only [Bool.and_eq_true] at this
  exact this.1
set_option maxRecDepth 100000 in
set_option maxHeartbeats 40000000 in
theorem sets_main (a : Option Addr) (cap : Nat) (ks : List ByteArray) (c : Option Addr) (cap2 : Nat) (js : List ByteArray) (b : Int) (s : ByteArray) (w : World) (hA : Strs w a ks) (hl : ks.length * 16 ≤ 140737488351232) (hC : Strs w c js) (hl2 : js.length * 16 ≤ 140737488351232) (hb0 : 0 ≤ b) (hb1 : b < 256) (hs : s.size ≤ maxLen) (hlen : ks.length ≤ 1048576) :
    Calls Try.prog 5 #[.slice a ks.length cap, .slice c js.length cap2, .int .u8 b, .string s] w fun e w' => e = .returned (.bool true) ∧ Below w.heap.size w w' := by
  have h1 : 1 ≤ 1 + b % 64 := by omega
  have h2 : 1 + b % 64 ≤ 64 := by omega
  have HA : Hid (Strs w a ks) := hA
  have HC : Hid (Strs w c js) := hC
  have HL : Hid (ks.length * 16 ≤ 140737488355328) := by show _ ≤ _; omega
  clear hA hC
  have hla : ks.length ≤ 10000000000000 := by omega
  have hlb : js.length ≤ 10000000000000 := by omega
  obtain ⟨F, hF⟩ : ∃ F, bld ks (1 + b % 64) = F := ⟨_, rfl⟩
  obtain ⟨G, hG⟩ : ∃ G, bld (cyc ks.length js) (1 + b % 64) = G := ⟨_, rfl⟩
  obtain ⟨M, hM⟩ : ∃ M, F.length = M := ⟨_, rfl⟩
  have hcl : (cyc ks.length js).length = ks.length := cyc_length _ _
  have hGM : G.length = M := by rw [← hG, ← hM, ← hF, bld_length, bld_length, hcl]
  have hFb : Byt F := by rw [← hF]; exact bld_byt _ _
  have hGb : Byt G := by rw [← hG]; exact bld_byt _ _
  have hFc : chkB F = true := by rw [← hF]; exact bld_chk _ _ hlen h2
  have hGc : chkB G = true := by rw [← hG]; exact bld_chk _ _ (by rw [hcl]; exact hlen) h2
  have hFi : isf F = true := by rw [← hF]; exact bld_isf _ _ hlen h2
  have hGi : isf G = true := by rw [← hG]; exact bld_isf _ _ (by rw [hcl]; exact hlen) h2
  have hFl : F.getD (M - 1) 0 = npr (1 + b % 64) := by rw [← hM, ← hF]; exact bld_last _ _
  have hGl : G.getD (M - 1) 0 = npr (1 + b % 64) := by rw [← hGM, ← hG]; exact bld_last _ _
  have hM9 : 9 ≤ M := by rw [← hM]; exact (isf_parts hFi).1
  have hMx : M ≤ 16777216 := by
    have := hFc
    simp only [chkB, Bool.and_eq_true, decide_eq_true_eq] at this
    omega
  have HB : Hid (∀ (W : World) (av : Option Addr) (cv : Nat), Strs W av ks → Calls Try.prog 7 #[.slice av ks.length cv, .int .i64 (1 + b % 64)] W fun e w' => e = .returned (.tuple #[.slice (some ⟨W.heap.size, 0, none⟩) M M, .int .i64 0]) ∧ Row w' W.heap.size F ∧ Below W.heap.size W w') := fun W av cv h => by
    have := build_ok av cv ks (1 + b % 64) W h hlen h1 h2
    rw [hF, hM] at this; exact this
  have HBr : Hid (∀ (W : World) (av : Option Addr) (cv : Nat), Strs W av ks.reverse → Calls Try.prog 7 #[.slice av ks.length cv, .int .i64 (1 + b % 64)] W fun e w' => e = .returned (.tuple #[.slice (some ⟨W.heap.size, 0, none⟩) M M, .int .i64 0]) ∧ Row w' W.heap.size F ∧ Below W.heap.size W w') := fun W av cv h => by
    have := build_ok av cv ks.reverse (1 + b % 64) W h (by simpa using hlen) h1 h2
    rw [List.length_reverse, bld_reverse, hF, hM] at this; exact this
  have HBc : Hid (∀ (W : World) (av : Option Addr) (cv : Nat), Strs W av (cyc ks.length js) → Calls Try.prog 7 #[.slice av ks.length cv, .int .i64 (1 + b % 64)] W fun e w' => e = .returned (.tuple #[.slice (some ⟨W.heap.size, 0, none⟩) M M, .int .i64 0]) ∧ Row w' W.heap.size G ∧ Below W.heap.size W w') := fun W av cv h => by
    have := build_ok av cv (cyc ks.length js) (1 + b % 64) W h (by rw [hcl]; exact hlen) h1 h2
    rw [hcl, hG, hGM] at this; exact this
  have HFA : Hid (∀ W B, Row W B F → Arg W (some ⟨B, 0, none⟩) M F) := fun W B h => by rw [← hM]; exact h.arg hFb (by rw [hM]; omega)
  have HGA : Hid (∀ W B, Row W B G → Arg W (some ⟨B, 0, none⟩) M G) := fun W B h => by rw [← hGM]; exact h.arg hGb (by rw [hGM]; omega)
  have hUM : (unL F G).length = M := by rw [unL_length (hM.trans hGM.symm)]; exact hM
  have HUA : Hid (∀ W B, Row W B (unL F G) → Arg W (some ⟨B, 0, none⟩) M (unL F G)) := fun W B h => by rw [← hUM]; exact h.arg (unL_byt _ _) (by rw [hUM]; omega)
  have HFG : Hid (∀ (a c : Option Addr) (cap cap2 : Nat) (W : World), Arg W a M F → Arg W c M G → Calls Try.prog 15 #[.slice a M cap, .slice c M cap2] W fun e w' => e = .returned (.tuple #[.slice (some ⟨W.heap.size, 0, none⟩) M M, .int .i64 0]) ∧ Row w' W.heap.size (unL F G) ∧ Below W.heap.size W w') := fun a c cap cap2 W h h' => un_ok a c M cap cap2 F G W h h' hFi hGi (by rw [hFl, hGl])
  have HGF : Hid (∀ (a c : Option Addr) (cap cap2 : Nat) (W : World), Arg W a M G → Arg W c M F → Calls Try.prog 15 #[.slice a M cap, .slice c M cap2] W fun e w' => e = .returned (.tuple #[.slice (some ⟨W.heap.size, 0, none⟩) M M, .int .i64 0]) ∧ Row w' W.heap.size (unL F G) ∧ Below W.heap.size W w') := fun a c cap cap2 W h h' => by
    rw [unL_comm (hM.trans hGM.symm) hFb hGb]
    exact un_ok a c M cap cap2 G F W h h' hGi hFi (by rw [hFl, hGl])
  have HMU : Hid (mayB F s = true ∨ mayB G s = true → mayB (unL F G) s = true) := by
    show _ → _
    have e1 := hM
    rintro (h | h)
    · exact may_sup (sup_un (hM.trans hGM.symm) hFb hGb (by omega) (by rw [hM, hFl, hGl])) hFc h
    · rw [unL_comm (hM.trans hGM.symm) hFb hGb]
      exact may_sup (sup_un (hGM.trans hM.symm) hGb hFb (by omega) (by rw [hGM, hFl, hGl])) hGc h
  have HUG : Hid (∀ i, i < M → (unL F G).getD i 0 = bits .or .u8 (F.getD i 0) (G.getD i 0)) := fun i hi => unL_get (hM.trans hGM.symm) i (by omega)
  have HF : Hid (F.length = M ∧ Byt F) := ⟨hM, hFb⟩
  have HG : Hid (G.length = M ∧ Byt G) := ⟨hGM, hGb⟩
  have HU : Hid ((unL F G).length = M) := hUM
  clear hF hG hM hcl hGM hFb hGb hFc hGc hFi hGi hFl hGl hUM
  generalize unL F G = U at *
  obtain ⟨mx, hmx⟩ : ∃ m, mayB F s = m := ⟨_, rfl⟩
  obtain ⟨mz, hmz⟩ : ∃ m, mayB G s = m := ⟨_, rfl⟩
  have HMX : Hid (∀ W B, Row W B F → Calls Try.prog 19 #[.slice (some ⟨B, 0, none⟩) M M, .string s] W fun e w' => e = .returned (.bool mx) ∧ Below W.heap.size W w') := fun W B h => by rw [← hmx]; exact may_any _ M M F s W hs (HFA.out W B h)
  have HMZ : Hid (∀ W B, Row W B G → Calls Try.prog 19 #[.slice (some ⟨B, 0, none⟩) M M, .string s] W fun e w' => e = .returned (.bool mz) ∧ Below W.heap.size W w') := fun W B h => by rw [← hmz]; exact may_any _ M M G s W hs (HGA.out W B h)
  have HMUU : Hid (mx = true ∨ mz = true → ∀ W B, Row W B U → Calls Try.prog 19 #[.slice (some ⟨B, 0, none⟩) M M, .string s] W fun e w' => e = .returned (.bool true) ∧ Below W.heap.size W w') := fun h W B hr => by
    rw [← HMU.out (by rw [hmx, hmz]; exact h)]; exact may_any _ M M U s W hs (HUA.out W B hr)
  clear hmx hmz
  go_enter Try.func5, Try.ntmps5
  go_wp2_with (go_at_call 21; refine (lives_any _).mono ?_; rintro e w1 ⟨rfl, hb1⟩)
  go_loopw [10, 11] (fun v i wr => ∃ k : Nat, k ≤ ks.length ∧ i = .int .i64 ((ks.length : Int) - 1 - k) ∧ wr.ownsRow w1.heap.size 9 1 v k (sc (ks.reverse.take k)) ∧ Below w1.heap.size w1 wr) (fun _ i _ => (intOf i + 1).toNat)
  case atStart => exact ⟨0, Nat.zero_le _, by go_num, row_none _ _, Below.refl _ _⟩
  case round =>
    obtain ⟨k, hk, rfl, hrow, hbr⟩ := hrel
    by_cases hlt : k < ks.length
    · obtain ⟨ab, aoff, rfl, halt, hac⟩ := HA.out.some (by omega)
      obtain ⟨j, hj⟩ : ∃ j : Nat, ks.length = j + k + 1 := ⟨ks.length - 1 - k, by omega⟩
      have hjl : j < ks.length := by omega
      have e1 : (ks.length : Int) - 1 - (k : Int) = (j : Int) := by omega
      have hcj : wr.cell? ⟨ab, aoff + j, none⟩ = some (.string ks[j]) := ((hb1.trans (hbr.mono hb1.size)).cell (p := ⟨ab, aoff + j, none⟩) halt).trans (hac j hjl)
      have HT : Hid (ks.reverse.take (k + 1) = ks.reverse.take k ++ [ks[j]]) := by
        show _ = _
        rw [rev_take ks k hlt]; congr 3; omega
      have HJ : Hid (ks.length = j + k + 1) := hj
      have HR : Hid (wr.ownsRow w1.heap.size 9 1 u10 k (sc (ks.reverse.take k))) := hrow
      have HN : Hid ((k + 1) * 16 ≤ 140737488355328) := by show _ ≤ _; omega
      clear hj hac hrow
      go_wp2_with (refine wpl_spush (by rfl) rfl _ _ (by rfl) (by rfl) ks[j] (by rfl) HR.out HN.out (hbr.size) ?_; intro av cv w2 hr2 hb2)
      go_roundw
      case rel =>
        have hj := HJ.out
        have hr3 := hr2
        rw [← HT.out] at hr3
        exact ⟨k + 1, by omega, val_i (by omega), hr3, hbr.trans hb2⟩
      case measure => simp [intOf]; omega
    · obtain rfl : k = ks.length := by omega
      obtain ⟨W0, hW0⟩ : ∃ W0, W0 = wr := ⟨_, rfl⟩
      rw [← hW0] at hrow hbr ⊢
      clear hW0
      have hB0 := hb1.trans (hbr.mono hb1.size)
      obtain ⟨tv, tc, rfl⟩ := row_form hrow
      have hT0 : Strs W0 tv ks.reverse := by
        have := strs_of_row hrow (fun k hk => HA.out.1 k (by have := List.mem_of_mem_take hk; simpa using this))
        rwa [List.take_of_length_le (by simp)] at this
      have hi0 : ¬ (0 : Int) ≤ (ks.length : Int) - 1 - (ks.length : Int) := by omega
      clear hrow
      go_wp2_with (first
        | (go_at_call 7; have hh := hr3; refine (HBr.out _ _ _ ((hT0.below hb2).below hb3)).mono ?_; rintro e w5 ⟨rfl, hr5, hb5⟩; have hcx := (HFA.out _ _ (hr3.below hb5)).str (cap := M); have hcy := (HFA.out _ _ hr5).str (cap := M))
        | (go_at_call 7; refine (HB.out _ _ _ hS2).mono ?_; rintro e w3 ⟨rfl, hr3, hb3⟩)
        | (refine wpl_copy (by rfl) rfl _ _ (by rfl) (by rfl) (by rfl) (HA.out.below hB0) HL.out ?_; intro av cv w2 hS2 hb2))
      have hBx2 := hB0.trans (hb2.mono hB0.size)
      have hBx3 := hBx2.trans (hb3.mono hBx2.size)
      have hBB0 := hBx3.trans (hb5.mono hBx3.size)
      have hrx0 := hr3.below hb5
      obtain ⟨WB, hWB⟩ : ∃ WB, WB = w5 := ⟨_, rfl⟩
      rw [← hWB] at hBB0 hrx0 ⊢
      have hBB : Below w.heap.size w WB := hBB0
      obtain ⟨Bx, hBx⟩ : ∃ Bx, w2.heap.size = Bx := ⟨_, rfl⟩
      rw [hBx] at hrx0 ⊢
      clear hWB hcx hcy hr5 hr3 hBx
      go_loopw [16, 17] (fun v i wr => ∃ k : Nat, k ≤ ks.length ∧ i = .int .i64 k ∧ wr.ownsRow WB.heap.size 9 1 v k (sc (cyc k js)) ∧ (js.length = 0 → k = 0) ∧ Below WB.heap.size WB wr) (fun _ i _ => ((ks.length : Int) - intOf i).toNat)
      case atStart => exact ⟨0, Nat.zero_le _, rfl, row_none _ _, fun _ => rfl, Below.refl _ _⟩
      case round =>
        obtain ⟨k, hk, rfl, hrow, hkz, hbr⟩ := hrel
        by_cases hlt : k < ks.length ∧ 0 < js.length
        · obtain ⟨hlt, hjp⟩ := hlt
          obtain ⟨ab, aoff, rfl, halt, hac⟩ := HC.out.some hjp
          obtain ⟨j, hj⟩ : ∃ j : Nat, (k : Int) % (js.length : Int) = j := ⟨k % js.length, by simp⟩
          have hjl : j < js.length := by have := Int.emod_lt_of_pos (k : Int) (show (0 : Int) < js.length by omega); omega
          have hjk : k % js.length = j := by have : ((k % js.length : Nat) : Int) = j := by simpa using hj
                                             omega
          have hcj : wr.cell? ⟨ab, aoff + j, none⟩ = some (.string js[j]) := ((hBB.trans (hbr.mono hBB.size)).cell (p := ⟨ab, aoff + j, none⟩) halt).trans (hac j hjl)
          have HT : Hid (cyc (k + 1) js = cyc k js ++ [js[j]]) := by
            show _ = _
            rw [cyc_succ, hjk, List.getD_eq_getElem?_getD, List.getElem?_eq_getElem hjl]; rfl
          have HR : Hid (wr.ownsRow WB.heap.size 9 1 u16 k (sc (cyc k js))) := hrow
          have HN : Hid ((k + 1) * 16 ≤ 140737488355328) := by show _ ≤ _; omega
          clear hac hrow hjk
          go_wp2_with (refine wpl_spush (by rfl) rfl _ _ (by rfl) (by rfl) js[j] (by rfl) HR.out HN.out (hbr.size) ?_; intro av2 cv2 w2 hr2 hb2)
          go_roundw
          case rel =>
            have hr3 := hr2
            rw [← HT.out] at hr3
            exact ⟨k + 1, by omega, by go_num, hr3, by omega, hbr.trans hb2⟩
          case measure => simp [intOf]; omega
        · have HEND : Hid (Below w.heap.size w wr) := hBB.trans (hbr.mono hBB.size)
          have hrx := hrx0.below hbr
          obtain ⟨cvv, ccc, rfl⟩ := row_form hrow
          by_cases hkl : k < ks.length
          · have hj0 : ¬ (0 : Int) < (js.length : Int) := by omega
            have hkn : ((k : Int) != (ks.length : Int)) = true := by simp; omega
            go_wp2
            go_ret
            exact ⟨rfl, HEND.out⟩
          · obtain rfl : k = ks.length := by omega
            have hSc : Strs wr cvv (cyc ks.length js) := strs_of_row hrow (fun k hk => by
              simp only [cyc, List.mem_map, List.mem_range] at hk
              obtain ⟨i, hi, rfl⟩ := hk
              by_cases h0 : 0 < js.length
              · have := Nat.mod_lt i h0
                rw [List.getD_eq_getElem?_getD, List.getElem?_eq_getElem this]
                exact HC.out.1 _ (List.getElem_mem _)
              · rw [List.getD_eq_getElem?_getD, List.getElem?_eq_none (by omega)]
                exact Nat.zero_le _)
            clear hrow
            obtain ⟨WC, hWC⟩ : ∃ WC, WC = wr := ⟨_, rfl⟩
            have hBC : Below w.heap.size w WC := by rw [hWC]; exact HEND.out
            rw [← hWC] at hrx hSc ⊢
            clear hWC HEND
            have hkn : ((ks.length : Int) != (ks.length : Int)) = false := by simp
            go_upto_region 24 with (first
              | (go_at_call 15; have hh := ha8; refine (HFG.out _ _ _ _ _ (ha7.below hb8) ha8).mono ?_; rintro e w9 ⟨rfl, hru, hb9⟩; have hB7 := hb7; have hB8 := hb8)
              | (refine wpl_bcopy (by rfl) rfl _ _ (by rfl) (by rfl) (by rfl) (HGA.out _ _ (hrz.below hb7)) ?_; intro av8 cv8 w8 ha8 hb8)
              | (refine wpl_bcopy (by rfl) rfl _ _ (by rfl) (by rfl) (by rfl) (HFA.out _ _ (hrx.below hb6)) ?_; intro av7 cv7 w7 ha7 hb7)
              | (go_at_call 7; refine (HBc.out _ _ _ hSc).mono ?_; rintro e w6 ⟨rfl, hrz, hb6⟩))
            have hB6 := hBC.trans (hb6.mono hBC.size)
            have hB7' := hB6.trans (hb7.mono hB6.size)
            have hB8' := hB7'.trans (hb8.mono hB7'.size)
            have hBw := hB8'.trans (hb9.mono hB8'.size)
            have hrzC := ((hrz.below hb7).below hb8).below hb9
            have hrxC := (((hrx.below hb6).below hb7).below hb8).below hb9
            have hruC := hru
            clear hb6 hb7 hb8 hb9 ha7 ha8 hrz hru hB6 hB7' hB8' hB7 hB8 hSc hT0 hb2 hb3 hb5 hBx2 hBx3 hbr hrx hrx0 hBB0
            go_cut [141] (fun t wd => t = .bool false ∧ Row wd Bx F ∧ Row wd WC.heap.size G ∧ Row wd w8.heap.size U ∧ Below w.heap.size w wd)
            case first =>
              cases mx <;> cases mz
              all_goals
                go_wp2_with (first
                  | (go_at_call_of 19 (Value.slice (some ⟨w8.heap.size, 0, none⟩) M M); refine (HMUU.out (by simp) _ _ hruC).mono ?_; rintro e wn ⟨rfl, hbn⟩; replace hrxC := hrxC.below hbn; replace hrzC := hrzC.below hbn; replace hruC := hruC.below hbn; replace hBw := hBw.trans (hbn.mono hBw.size); clear hbn)
                  | (go_at_call_of 19 (Value.slice (some ⟨WC.heap.size, 0, none⟩) M M); refine (HMZ.out _ _ hrzC).mono ?_; rintro e wn ⟨rfl, hbn⟩; replace hrxC := hrxC.below hbn; replace hrzC := hrzC.below hbn; replace hruC := hruC.below hbn; replace hBw := hBw.trans (hbn.mono hBw.size); clear hbn)
                  | (go_at_call_of 19 (Value.slice (some ⟨Bx, 0, none⟩) M M); refine (HMX.out _ _ hrxC).mono ?_; rintro e wn ⟨rfl, hbn⟩; replace hrxC := hrxC.below hbn; replace hrzC := hrzC.below hbn; replace hruC := hruC.below hbn; replace hBw := hBw.trans (hbn.mono hBw.size); clear hbn))
                go_meet
                case rel => exact ⟨rfl, hrxC, hrzC, hruC, hBw⟩
            case rest =>
              clear hrxC hrzC hruC hBw
              obtain ⟨rfl, hrxC, hrzC, hruC, hBw⟩ := hcut
              go_wp2
              go_loopw [22] (fun i wr => ∃ k : Nat, k < M ∧ i = .int .i64 k ∧ Row wr Bx F ∧ Row wr WC.heap.size G ∧ Row wr w8.heap.size U ∧ Below w.heap.size w wr) (fun i _ => ((M : Int) - intOf i).toNat)
              case atStart => exact ⟨0, by omega, rfl, hrxC, hrzC, hruC, hBw⟩
              case round =>
                obtain ⟨q, hq, rfl, hrxL, hrzL, hruL, hBL⟩ := hrel
                by_cases hqM : q + 1 < M
                · have c1 := hrxL.cell q (by rw [HF.out.1]; omega)
                  have c2 := hrzL.cell q (by rw [HG.out.1]; omega)
                  have c3 := hruL.cell q (by rw [HU.out]; omega)
                  rw [HUG.out q (by omega)] at c3
                  have y1 := byt_get HF.out.2 q
                  have y2 := byt_get HG.out.2 q
                  generalize F.getD q 0 = z1 at *
                  generalize G.getD q 0 = z2 at *
                  obtain ⟨y3, y4⟩ := y1
                  obtain ⟨y5, y6⟩ := y2
                  have hne : (bits .or .u8 z1 z2 != bits .or .u8 z1 z2) = false := by simp
                  go_wp2
                  go_quiet (fail)
                  go_wp2
                  go_roundw
                  case rel => exact ⟨q + 1, by omega, by go_num, hrxL, hrzL, hruL, hBL.trans ⟨rfl, rfl, rfl, Nat.le_refl _, fun _ _ => rfl⟩⟩
                  case measure => simp [intOf]; omega
                · have hqi : ¬ ((q : Int) + 1 < (M : Int)) := by omega
                  go_wp2_with (first
                    | (go_at_call 15; have hh := ha14; refine (HGF.out _ _ _ _ _ (ha13.below hb14) ha14).mono ?_; rintro e w15 ⟨rfl, hrw, hb15⟩; have hcu := (HUA.out _ _ (((hruL.below hb13).below hb14).below hb15)).str (cap := M); have hcw := (HUA.out _ _ hrw).str (cap := M))
                    | (refine wpl_bcopy (by rfl) rfl _ _ (by rfl) (by rfl) (by rfl) (HFA.out _ _ (hrxL.below hb13)) ?_; intro av14 cv14 w14 ha14 hb14)
                    | (refine wpl_bcopy (by rfl) rfl _ _ (by rfl) (by rfl) (by rfl) (HGA.out _ _ hrzL) ?_; intro av13 cv13 w13 ha13 hb13))
                  go_ret
                  have e13 := hBL.trans (hb13.mono hBL.size)
                  have e14 := e13.trans (hb14.mono e13.size)
                  exact ⟨by simp, e14.trans (hb15.mono e14.size)⟩
end Go.Proofs.Ytbmljdeenbokmaa
