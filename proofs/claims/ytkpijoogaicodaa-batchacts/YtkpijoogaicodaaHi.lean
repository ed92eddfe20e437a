/-
  The sort at uint32: partition.
-/
import Derived.Test.YtkpijoogaicodaaHh
namespace Go.Proofs.Ytkpijoogaicodaa
open Go.RowKit Go.Sort
set_option linter.unusedVariables false
set_option linter.unusedSimpArgs false
/-- The second store of a swap finds its cell. -/
theorem swap_cell {W : World} {blk off N x y : Nat} {G : Nat → Int} (hc : ∀ t, t < N → W.cell? ⟨blk, off + t, none⟩ = some (.int .u32 (G t))) (hx : x < N) (hy : y < N) (v : Value) : ∃ u, (W.setCell ⟨blk, off + x, none⟩ v).cell? ⟨blk, off + y, none⟩ = some u := by
  by_cases e : x = y
  · subst e; exact ⟨_, World.cell?_setCell_same' _ _ _ (by rw [hc x hx]; rfl)⟩
  · exact ⟨_, (World.cell?_setCell_other _ _ _ _ (by simp <;> omega)).trans (hc y hy)⟩
theorem Rw.swapG {w wr : World} {blk off N : Nat} {z : Array Int} (r : Rw w blk off N z wr) {G : Nat → Int} (hG : ∀ t, G t = z[t]!) {x y : Nat} (hx : x < N) (hy : y < N) : Rw w blk off N (swp z x y) ((wr.setCell ⟨blk, off + x, none⟩ (.int .u32 (G y))).setCell ⟨blk, off + y, none⟩ (.int .u32 (G x))).drew := by
  have := r.swap 1 (j := x) (k := y) hx hy
  rw [← hG, ← hG] at this
  exact this
set_option maxRecDepth 100000 in
set_option maxHeartbeats 16000000 in
theorem part_any (blk off cap a b p : Nat) (d : Array Int) (w : World) (h : Holds (Value.int .u32) w blk off d) (hab : a < b) (hb : b ≤ d.size) (hp : p < d.size) (hsz : d.size < 2305843009213693952) :
    Calls Try.prog 90 #[.slice (some ⟨blk, off, none⟩) d.size cap, .int .i64 a, .int .i64 b, .int .i64 p] w fun e w' => e = .returned (.tuple #[.int .i64 (Sort.partition ltInt d a b p).1, .bool (Sort.partition ltInt d a b p).2.1]) ∧ Rw w blk off d.size (Sort.partition ltInt d a b p).2.2 w' := by
  obtain ⟨N, hN⟩ : ∃ N, Hid (N = d.size) := ⟨_, rfl⟩
  have h0 : Hid (Holds (Value.int .u32) w blk off d) := h
  have r0 : Rw w blk off N d w := hN.out ▸ Rw.start h
  rw [← hN.out] at hb hsz hp ⊢
  clear h
  obtain ⟨G0, hG0⟩ : ∃ G : Nat → Int, Hid (∀ t, G t = d[t]!) := ⟨fun t => d[t]!, fun _ => rfl⟩
  have hc0 : ∀ t, t < N → w.cell? ⟨blk, off + t, none⟩ = some (.int .u32 (G0 t)) := fun t ht => by rw [hG0.out]; exact r0.cell h0.out hN.out.symm t ht
  have hf0 : ∀ t, t < N → w.frozen? ⟨blk, off + t, none⟩ = false := r0.froz h0.out hN.out.symm
  have haN : a < N := by omega
  have HR0 : Hid (Rw w blk off N (swp d a p) ((w.setCell ⟨blk, off + a, none⟩ (.int .u32 (G0 p))).setCell ⟨blk, off + p, none⟩ (.int .u32 (G0 a))).drew) := r0.swapG hG0.out haN hp
  obtain ⟨v2, hv2⟩ := swap_cell hc0 haN hp (.int .u32 (G0 p))
  obtain ⟨y, hy0⟩ : ∃ y, swp d a p = y := ⟨_, rfl⟩
  rw [hy0] at HR0
  obtain ⟨i1, hi1⟩ : ∃ i, scanUp (fun x => ltInt x y[a]!) y (b - 1) (a + 1) = i := ⟨_, rfl⟩
  obtain ⟨j1, hj1⟩ : ∃ j, scanDown (fun x => !ltInt x y[a]!) y i1 (b - 1) = j := ⟨_, rfl⟩
  have HI1 : Hid (scanUp (fun x => ltInt x y[a]!) y (b - 1) (a + 1) = i1) := hi1
  have HJ1 : Hid (scanDown (fun x => !ltInt x y[a]!) y i1 (b - 1) = j1) := hj1
  have hge1 := scanUp_ge (fun x => ltInt x y[a]!) y (b - 1) (a + 1)
  rw [hi1] at hge1
  have hle1 := scanDown_le (fun x => !ltInt x y[a]!) y i1 (b - 1)
  rw [hj1] at hle1
  obtain ⟨R, hR⟩ : ∃ R, Sort.partition ltInt d a b p = R := ⟨_, rfl⟩
  have HRR : Hid (R = if i1 > j1 then (j1, true, swp y j1 a) else ((partLoop ltInt a (i1 + 1) (j1 - 1) (swp y i1 j1)).1, false, swp (partLoop ltInt a (i1 + 1) (j1 - 1) (swp y i1 j1)).2 (partLoop ltInt a (i1 + 1) (j1 - 1) (swp y i1 j1)).1 a)) := by
    show _ = _
    rw [← hR]
    unfold Sort.partition
    simp only [hy0, hi1, hj1]
  rw [hR]
  clear hR r0 hy0 hi1 hj1
  obtain ⟨Gy, hGy⟩ : ∃ G : Nat → Int, Hid (∀ t, G t = y[t]!) := ⟨fun t => y[t]!, fun _ => rfl⟩
  go_enter Try.func90, Try.ntmps90
  go_wp2
  go_region
  clear hc0 hf0
  go_upto_block 0 with fail
  go_cut [10] from 30 to 167 (fun vi wd => vi = .int .i64 (i1 : Int) ∧ (i1 ≤ (a + 1) ∨ i1 ≤ (b - 1) + 1) ∧ Rw w blk off N y wd)
  case first =>
    go_wp2
    go_loopw [10] (fun vi wr => ∃ i' : Nat, vi = .int .i64 i' ∧ (a + 1) ≤ i' ∧ (i' ≤ (a + 1) ∨ i' ≤ (b - 1) + 1) ∧ Hid (Rw w blk off N y wr ∧ scanUp (fun x => ltInt x y[a]!) y ((b - 1)) i' = i1)) (fun vi _ => ((b - 1) + 2 - (intOf vi).toNat))
    case atStart => exact ⟨(a + 1), by go_num, Nat.le_refl _, .inl (Nat.le_refl _), HR0.out, HI1.out⟩
    case round =>
      obtain ⟨i', rfl, hii, hib, hy⟩ := hrel
      have hc : ∀ t, t < N → wr.cell? ⟨blk, off + t, none⟩ = some (.int .u32 (Gy t)) := fun t ht => by rw [hGy.out]; exact hy.out.1.cell h0.out hN.out.symm t ht
      go_wp2
      by_cases hle : i' ≤ (b - 1)
      · have hlei : (i' : Int) ≤ ((b : Int) - 1) := by omega
        by_cases hl' : ltInt (Gy i') (Gy a) = true
        · have hl := hl'
          clear hl'
          go_quiet (first | (go_at_call 88; refine Calls.quiet_of_same (less_any _ _ _)))
          go_wp2
          refine ⟨⟨i' + 1, by go_num, by omega, .inr (by omega), hy.out.1.drawn nq, ?_⟩, ?_⟩
          · rw [← hy.out.2, scanUp_go _ y ((b - 1)) i' hle (by rw [← hGy.out, ← hGy.out, hl])]
          · simp [intOf]; omega
        · have hl : ltInt (Gy i') (Gy a) = false := by simpa using hl'
          clear hl'
          go_quiet (first | (go_at_call 88; refine Calls.quiet_of_same (less_any _ _ _)))
          go_wp2
          go_meet
          case rel =>
            have e : i' = i1 := by rw [← hy.out.2, scanUp_end _ y ((b - 1)) i' (.inr (by rw [← hGy.out, ← hGy.out, hl]))]
            exact ⟨by rw [e], by rw [← e]; exact hib, hy.out.1.drawn nq⟩
      · have hlei : ¬ (i' : Int) ≤ ((b : Int) - 1) := by omega
        have hled : decide ((i' : Int) ≤ ((b : Int) - 1)) = false := by simp; omega
        go_quiet (first | (go_at_call 88; refine Calls.quiet_of_same (less_any _ _ _)))
        go_wp2
        go_meet
        case rel =>
          have e : i' = i1 := by rw [← hy.out.2, scanUp_end _ y ((b - 1)) i' (.inl hle)]
          exact ⟨by rw [e], by rw [← e]; exact hib, hy.out.1.drawn nq⟩
  case rest =>
    obtain ⟨rfl, hib_i1, hr2⟩ := hcut
    have HR_i1 : Hid (Rw w blk off N y wc) := hr2
    clear hr2
    go_upto_block 2 with fail
    go_cut [11] from 30 to 167 (fun vj wd => vj = .int .i64 (j1 : Int) ∧ i1 ≤ j1 + 2 ∧ a ≤ j1 ∧ Rw w blk off N y wd)
    case first =>
      go_wp2
      go_loopw [11] (fun vj wr => ∃ j' : Nat, vj = .int .i64 j' ∧ j' ≤ (b - 1) ∧ i1 ≤ j' + 2 ∧ a ≤ j' ∧ Hid (Rw w blk off N y wr ∧ scanDown (fun x => !ltInt x y[a]!) y i1 j' = j1)) (fun vj _ => (intOf vj).toNat)
      case atStart => exact ⟨(b - 1), by congr 1; omega, Nat.le_refl _, by omega, by omega, HR_i1.out, HJ1.out⟩
      case round =>
        obtain ⟨j', rfl, hjj, hij', haj', hy⟩ := hrel
        have hc : ∀ t, t < N → wr.cell? ⟨blk, off + t, none⟩ = some (.int .u32 (Gy t)) := fun t ht => by rw [hGy.out]; exact hy.out.1.cell h0.out hN.out.symm t ht
        go_wp2
        by_cases hle : i1 ≤ j'
        · have hlei : (i1 : Int) ≤ (j' : Int) := by omega
          by_cases hl' : ltInt (Gy j') (Gy a) = false
          · have hl := hl'
            clear hl'
            go_quiet (first | (go_at_call 88; refine Calls.quiet_of_same (less_any _ _ _)))
            go_wp2
            refine ⟨⟨j' - 1, by congr 1; omega, by omega, by omega, by omega, hy.out.1.drawn nq, ?_⟩, ?_⟩
            · rw [← hy.out.2, scanDown_go _ y i1 j' hle (by omega) (by rw [← hGy.out, ← hGy.out, hl]; rfl)]
            · simp [intOf]; omega
          · have hl : ltInt (Gy j') (Gy a) = true := by simpa using hl'
            clear hl'
            go_quiet (first | (go_at_call 88; refine Calls.quiet_of_same (less_any _ _ _)))
            go_wp2
            go_meet
            case rel =>
              have e : j' = j1 := by rw [← hy.out.2, scanDown_end _ y i1 j' (.inr (by rw [← hGy.out, ← hGy.out, hl]; rfl))]
              exact ⟨by rw [e], by omega, by omega, hy.out.1.drawn nq⟩
        · have hlei : ¬ (i1 : Int) ≤ (j' : Int) := by omega
          have hled : decide ((i1 : Int) ≤ (j' : Int)) = false := by simp; omega
          go_quiet (first | (go_at_call 88; refine Calls.quiet_of_same (less_any _ _ _)))
          go_wp2
          go_meet
          case rel =>
            have e : j' = j1 := by rw [← hy.out.2, scanDown_end _ y i1 j' (.inl hle)]
            exact ⟨by rw [e], by omega, by omega, hy.out.1.drawn nq⟩
    case rest =>
      obtain ⟨rfl, hij_j1, haj_j1, hr3⟩ := hcut
      have HR_j1 : Hid (Rw w blk off N y wc) := hr3
      clear hr3
      have hc : ∀ t, t < N → wc.cell? ⟨blk, off + t, none⟩ = some (.int .u32 (Gy t)) := fun t ht => by rw [hGy.out]; exact HR_j1.out.cell h0.out hN.out.symm t ht
      have hf : ∀ t, t < N → wc.frozen? ⟨blk, off + t, none⟩ = false := HR_j1.out.froz h0.out hN.out.symm
      have hi1N : i1 ≤ b := by omega
      by_cases hgt : j1 < i1
      · have hgti : (j1 : Int) < (i1 : Int) := by omega
        have HE : Hid (R = (j1, true, swp y j1 a)) := by show _ = _; rw [HRR.out, if_pos hgt]
        have hjN : j1 < N := by omega
        obtain ⟨v3, hv3⟩ := swap_cell hc hjN haN (.int .u32 (Gy a))
        have HSW := HR_j1.out.swapG hGy.out hjN haN
        have HSW2 : Hid (Rw w blk off N (swp y j1 a) ((wc.setCell ⟨blk, off + j1, none⟩ (.int .u32 (Gy a))).setCell ⟨blk, off + a, none⟩ (.int .u32 (Gy j1))).drew) := HSW
        clear HSW
        go_wp2
        go_region
        go_wp2
        go_ret2
        exact ⟨by rw [HE.out]; rfl, by rw [HE.out]; exact HSW2.out⟩
      · have hgti : ¬ (j1 : Int) < (i1 : Int) := by omega
        have hiN : i1 < N := by omega
        have hjN : j1 < N := by omega
        obtain ⟨v3, hv3⟩ := swap_cell hc hiN hjN (.int .u32 (Gy j1))
        have HSW := HR_j1.out.swapG hGy.out hiN hjN
        have HSW2 : Hid (Rw w blk off N (swp y i1 j1) ((wc.setCell ⟨blk, off + i1, none⟩ (.int .u32 (Gy j1))).setCell ⟨blk, off + j1, none⟩ (.int .u32 (Gy i1))).drew) := HSW
        clear HSW
        have HRE : Hid (R = ((partLoop ltInt a (i1 + 1) (j1 - 1) (swp y i1 j1)).1, false, swp (partLoop ltInt a (i1 + 1) (j1 - 1) (swp y i1 j1)).2 (partLoop ltInt a (i1 + 1) (j1 - 1) (swp y i1 j1)).1 a)) := by show _ = _; rw [HRR.out, if_neg (by omega)]
        obtain ⟨R2, hR2⟩ : ∃ R2, partLoop ltInt a (i1 + 1) (j1 - 1) (swp y i1 j1) = R2 := ⟨_, rfl⟩
        rw [hR2] at HRE
        have HR2 : Hid (partLoop ltInt a (i1 + 1) (j1 - 1) (swp y i1 j1) = R2) := hR2
        clear hR2
        go_wp2
        go_region
        go_wp2
        clear hc hf hv3
        go_loopw [10, 11] (fun vi vj wr => ∃ (i j : Nat) (z : Array Int), vi = .int .i64 i ∧ vj = .int .i64 j ∧ a < i ∧ i ≤ j + 2 ∧ j < b ∧ a ≤ j ∧ Hid (Rw w blk off N z wr ∧ partLoop ltInt a i j z = R2)) (fun vi vj _ => (intOf vj + 2 - intOf vi).toNat)
        case atStart => exact ⟨i1 + 1, j1 - 1, swp y i1 j1, by go_num, by congr 1; omega, by omega, by omega, by omega, by omega, HSW2.out, HR2.out⟩
        case round =>
          obtain ⟨i, j, z, rfl, rfl, hai, hij, hjb, haj, hz⟩ := hrel
          obtain ⟨G, hG⟩ : ∃ G : Nat → Int, Hid (∀ t, G t = z[t]!) := ⟨fun t => z[t]!, fun _ => rfl⟩
          obtain ⟨i2, hi2⟩ : ∃ i2, scanUp (fun x => ltInt x z[a]!) z j i = i2 := ⟨_, rfl⟩
          obtain ⟨j2, hj2⟩ : ∃ j2, scanDown (fun x => !ltInt x z[a]!) z i2 j = j2 := ⟨_, rfl⟩
          have hge := scanUp_ge (fun x => ltInt x z[a]!) z j i
          rw [hi2] at hge
          have hle2 := scanDown_le (fun x => !ltInt x z[a]!) z i2 j
          rw [hj2] at hle2
          have HI2 : Hid (scanUp (fun x => ltInt x z[a]!) z j i = i2) := hi2
          have HJ2 : Hid (scanDown (fun x => !ltInt x z[a]!) z i2 j = j2) := hj2
          have HEQ : Hid (R2 = if i2 > j2 then (j2, z) else partLoop ltInt a (i2 + 1) (j2 - 1) (swp z i2 j2)) := by
            show _ = _
            rw [← hz.out.2, partLoop_eq, hi2, hj2]
          have HRZ : Hid (Rw w blk off N z wr) := hz.out.1
          clear hi2 hj2
          go_upto_block 6 with fail
          go_cut [10] from 99 to 152 (fun vi wd => vi = .int .i64 (i2 : Int) ∧ (i2 ≤ i ∨ i2 ≤ j + 1) ∧ Rw w blk off N z wd)
          case first =>
            go_wp2
            go_loopw [10] (fun vi wr => ∃ i' : Nat, vi = .int .i64 i' ∧ i ≤ i' ∧ (i' ≤ i ∨ i' ≤ j + 1) ∧ Hid (Rw w blk off N z wr ∧ scanUp (fun x => ltInt x z[a]!) z (j) i' = i2)) (fun vi _ => (j + 2 - (intOf vi).toNat))
            case atStart => exact ⟨i, rfl, Nat.le_refl _, .inl (Nat.le_refl _), HRZ.out, HI2.out⟩
            case round =>
              obtain ⟨i', rfl, hii, hib, hy⟩ := hrel
              have hc : ∀ t, t < N → wr.cell? ⟨blk, off + t, none⟩ = some (.int .u32 (G t)) := fun t ht => by rw [hG.out]; exact hy.out.1.cell h0.out hN.out.symm t ht
              go_wp2
              by_cases hle : i' ≤ j
              · have hlei : (i' : Int) ≤ (j : Int) := by omega
                by_cases hl' : ltInt (G i') (G a) = true
                · have hl := hl'
                  clear hl'
                  go_quiet (first | (go_at_call 88; refine Calls.quiet_of_same (less_any _ _ _)))
                  go_wp2
                  refine ⟨⟨i' + 1, by go_num, by omega, .inr (by omega), hy.out.1.drawn nq, ?_⟩, ?_⟩
                  · rw [← hy.out.2, scanUp_go _ z (j) i' hle (by rw [← hG.out, ← hG.out, hl])]
                  · simp [intOf]; omega
                · have hl : ltInt (G i') (G a) = false := by simpa using hl'
                  clear hl'
                  go_quiet (first | (go_at_call 88; refine Calls.quiet_of_same (less_any _ _ _)))
                  go_wp2
                  go_meet
                  case rel =>
                    have e : i' = i2 := by rw [← hy.out.2, scanUp_end _ z (j) i' (.inr (by rw [← hG.out, ← hG.out, hl]))]
                    exact ⟨by rw [e], by rw [← e]; exact hib, hy.out.1.drawn nq⟩
              · have hlei : ¬ (i' : Int) ≤ (j : Int) := by omega
                have hled : decide ((i' : Int) ≤ (j : Int)) = false := by simp; omega
                go_quiet (first | (go_at_call 88; refine Calls.quiet_of_same (less_any _ _ _)))
                go_wp2
                go_meet
                case rel =>
                  have e : i' = i2 := by rw [← hy.out.2, scanUp_end _ z (j) i' (.inl hle)]
                  exact ⟨by rw [e], by rw [← e]; exact hib, hy.out.1.drawn nq⟩
          case rest =>
            obtain ⟨rfl, hib_i2, hr2⟩ := hcut
            have HR_i2 : Hid (Rw w blk off N z wc) := hr2
            clear hr2
            go_upto_block 8 with fail
            go_cut [11] from 99 to 152 (fun vj wd => vj = .int .i64 (j2 : Int) ∧ i2 ≤ j2 + 2 ∧ a ≤ j2 ∧ Rw w blk off N z wd)
            case first =>
              go_wp2
              go_loopw [11] (fun vj wr => ∃ j' : Nat, vj = .int .i64 j' ∧ j' ≤ j ∧ i2 ≤ j' + 2 ∧ a ≤ j' ∧ Hid (Rw w blk off N z wr ∧ scanDown (fun x => !ltInt x z[a]!) z i2 j' = j2)) (fun vj _ => (intOf vj).toNat)
              case atStart => exact ⟨j, rfl, Nat.le_refl _, by omega, haj, HR_i2.out, HJ2.out⟩
              case round =>
                obtain ⟨j', rfl, hjj, hij', haj', hy⟩ := hrel
                have hc : ∀ t, t < N → wr.cell? ⟨blk, off + t, none⟩ = some (.int .u32 (G t)) := fun t ht => by rw [hG.out]; exact hy.out.1.cell h0.out hN.out.symm t ht
                go_wp2
                by_cases hle : i2 ≤ j'
                · have hlei : (i2 : Int) ≤ (j' : Int) := by omega
                  by_cases hl' : ltInt (G j') (G a) = false
                  · have hl := hl'
                    clear hl'
                    go_quiet (first | (go_at_call 88; refine Calls.quiet_of_same (less_any _ _ _)))
                    go_wp2
                    refine ⟨⟨j' - 1, by congr 1; omega, by omega, by omega, by omega, hy.out.1.drawn nq, ?_⟩, ?_⟩
                    · rw [← hy.out.2, scanDown_go _ z i2 j' hle (by omega) (by rw [← hG.out, ← hG.out, hl]; rfl)]
                    · simp [intOf]; omega
                  · have hl : ltInt (G j') (G a) = true := by simpa using hl'
                    clear hl'
                    go_quiet (first | (go_at_call 88; refine Calls.quiet_of_same (less_any _ _ _)))
                    go_wp2
                    go_meet
                    case rel =>
                      have e : j' = j2 := by rw [← hy.out.2, scanDown_end _ z i2 j' (.inr (by rw [← hG.out, ← hG.out, hl]; rfl))]
                      exact ⟨by rw [e], by omega, by omega, hy.out.1.drawn nq⟩
                · have hlei : ¬ (i2 : Int) ≤ (j' : Int) := by omega
                  have hled : decide ((i2 : Int) ≤ (j' : Int)) = false := by simp; omega
                  go_quiet (first | (go_at_call 88; refine Calls.quiet_of_same (less_any _ _ _)))
                  go_wp2
                  go_meet
                  case rel =>
                    have e : j' = j2 := by rw [← hy.out.2, scanDown_end _ z i2 j' (.inl hle)]
                    exact ⟨by rw [e], by omega, by omega, hy.out.1.drawn nq⟩
            case rest =>
              obtain ⟨rfl, hij_j2, haj_j2, hr3⟩ := hcut
              have HR_j2 : Hid (Rw w blk off N z wc) := hr3
              clear hr3
              have hc : ∀ t, t < N → wc.cell? ⟨blk, off + t, none⟩ = some (.int .u32 (G t)) := fun t ht => by rw [hG.out]; exact HR_j2.out.cell h0.out hN.out.symm t ht
              have hf : ∀ t, t < N → wc.frozen? ⟨blk, off + t, none⟩ = false := HR_j2.out.froz h0.out hN.out.symm
              by_cases hgt2 : j2 < i2
              · have hgti2 : (j2 : Int) < (i2 : Int) := by omega
                have HE : Hid (R2 = (j2, z)) := by show _ = _; rw [HEQ.out, if_pos hgt2]
                have HE2 : Hid (R = (j2, false, swp z j2 a)) := by show _ = _; rw [HRE.out, HE.out]
                have hjN2 : j2 < N := by omega
                obtain ⟨v3, hv3⟩ := swap_cell hc hjN2 haN (.int .u32 (G a))
                have HSW := HR_j2.out.swapG hG.out hjN2 haN
                have HSW3 : Hid (Rw w blk off N (swp z j2 a) ((wc.setCell ⟨blk, off + j2, none⟩ (.int .u32 (G a))).setCell ⟨blk, off + a, none⟩ (.int .u32 (G j2))).drew) := HSW
                clear HSW
                go_wp2
                go_region
                go_wp2
                go_ret2
                exact ⟨by rw [HE2.out]; rfl, by rw [HE2.out]; exact HSW3.out⟩
              · have hgti2 : ¬ (j2 : Int) < (i2 : Int) := by omega
                have hiN2 : i2 < N := by omega
                have hjN2 : j2 < N := by omega
                obtain ⟨v3, hv3⟩ := swap_cell hc hiN2 hjN2 (.int .u32 (G j2))
                have HSW := HR_j2.out.swapG hG.out hiN2 hjN2
                have HSW3 : Hid (Rw w blk off N (swp z i2 j2) ((wc.setCell ⟨blk, off + i2, none⟩ (.int .u32 (G j2))).setCell ⟨blk, off + j2, none⟩ (.int .u32 (G i2))).drew) := HSW
                clear HSW
                go_wp2
                go_region
                go_wp2
                refine ⟨⟨i2 + 1, j2 - 1, swp z i2 j2, by go_num, by congr 1; omega, by omega, by omega, by omega, by omega, HSW3.out, ?_⟩, ?_⟩
                · rw [HEQ.out, if_neg (by omega)]
                · simp [intOf]; omega
end Go.Proofs.Ytkpijoogaicodaa
