/-
  The sort at uint32: partitionEqual.
-/
import Derived.Test.YtkpijoogaicodaaHd
import Derived.Sort.LotC
import Derived.Sort.WalkC
import Derived.Deep.CutBlock
namespace Go.Proofs.Ytkpijoogaicodaa
open Go.RowKit Go.Sort
set_option linter.unusedVariables false
set_option linter.unusedSimpArgs false
section
variable {w wr : World} {blk off N : Nat} {d : Array Int}
theorem Rw.holds (r : Rw w blk off N d wr) {d0 : Array Int} (h : Holds (Value.int .u32) w blk off d0) (hN : d0.size = N) : Holds (Value.int .u32) wr blk off d :=
  fun t ht => ⟨r.cell h hN t (by rw [← r.size]; exact ht), r.froz h hN t (by rw [← r.size]; exact ht)⟩
theorem Rw.trans (r : Rw w blk off N d wr) {d' : Array Int} {w' : World} (r' : Rw wr blk off N d' w') : Rw w blk off N d' w' := by
  obtain ⟨hs, n, rfl⟩ := r
  obtain ⟨hs', m, rfl⟩ := r'
  refine ⟨hs', n + m, ?_⟩
  rw [putRow_ahead (Value.int .u32) w n, ahead_ahead, ← putRow_ahead, putRow_putRow _ _ _ _ _ _ (by omega)]
end
set_option maxRecDepth 100000 in
set_option maxHeartbeats 8000000 in
theorem heap_any (blk off cap a b : Nat) (d : Array Int) (w : World) (h : Holds (Value.int .u32) w blk off d) (hab : a ≤ b) (hb : b ≤ d.size) (hsz : d.size < 2305843009213693952) :
    Calls Try.prog 83 #[.slice (some ⟨blk, off, none⟩) d.size cap, .int .i64 a, .int .i64 b] w fun e w' => e = .returned (.tuple #[]) ∧ Rw w blk off d.size (Sort.heapSort ltInt d a b) w' := by
  obtain ⟨N, hN⟩ : ∃ N, Hid (N = d.size) := ⟨_, rfl⟩
  have h0 : Hid (Holds (Value.int .u32) w blk off d) := h
  have r0 : Rw w blk off N d w := hN.out ▸ Rw.start h
  rw [← hN.out] at hb hsz ⊢
  clear h
  obtain ⟨n, hn⟩ : ∃ n : Nat, (b : Int) - (a : Int) = (n : Int) := ⟨b - a, by omega⟩
  have hm : ((n : Int) - 1).tdiv 2 = (((n - 1) / 2 : Nat) : Int) := by
    cases n with
    | zero => rfl
    | succ m => rw [show ((m + 1 : Nat) : Int) - 1 = (m : Int) by omega]; rfl
  obtain ⟨m, hm2⟩ : ∃ m, m = (n - 1) / 2 := ⟨_, rfl⟩
  rw [← hm2] at hm
  have hE : Hid (Sort.heapSort ltInt d a b = heapPop ltInt a n (heapBuild ltInt n a (m + 1) d)) := by
    have e : b - a = n := by omega
    show Sort.heapSort ltInt d a b = _
    unfold Sort.heapSort; rw [e, hm2]
  go_enter Try.func83, Try.ntmps83
  go_wp2
  (try simp only [hn, hm])
  go_loopw [9] (fun vi wr => ∃ (k : Nat) (y : Array Int), vi = .int .i64 ((k : Int) - 1) ∧ k ≤ m + 1 ∧ Hid (Rw w blk off N y wr ∧ heapBuild ltInt n a k y = heapBuild ltInt n a (m + 1) d)) (fun vi _ => (intOf vi + 1).toNat)
  case atStart => exact ⟨m + 1, d, by go_num, by omega, r0, rfl⟩
  case round =>
    obtain ⟨k, y, rfl, hk, hy⟩ := hrel
    rcases k with _ | k
    · go_wp2
      (try simp only [hn, hm])
      obtain ⟨W0, rfl⟩ : ∃ W0, W0 = wr := ⟨_, rfl⟩
      go_loopw [10] (fun vi wr => ∃ (k : Nat) (z : Array Int), vi = .int .i64 ((k : Int) - 1) ∧ k ≤ n ∧ Hid (Rw w blk off N z wr ∧ heapPop ltInt a k z = Sort.heapSort ltInt d a b)) (fun vi _ => (intOf vi + 1).toNat)
      case atStart => exact ⟨n, y, by go_num, by omega, hy.out.1, by rw [hE.out, ← hy.out.2]; rfl⟩
      case round =>
        obtain ⟨k, z, rfl, hk, hz⟩ := hrel
        rcases k with _ | k
        · go_wp2
          go_end0
          exact ⟨rfl, hz.out.2 ▸ hz.out.1⟩
        · obtain ⟨G, hG⟩ : ∃ G : Nat → Int, Hid (∀ t, G t = z[t]!) := ⟨fun t => z[t]!, fun _ => rfl⟩
          have hc : ∀ t, t < N → wr.cell? ⟨blk, off + t, none⟩ = some (.int .u32 (G t)) := fun t ht => by rw [hG.out]; exact hz.out.1.cell h0.out hN.out.symm t ht
          have hf : ∀ t, t < N → wr.frozen? ⟨blk, off + t, none⟩ = false := hz.out.1.froz h0.out hN.out.symm
          have r2 : Rw w blk off N (swp z a (a + k)) ((wr.setCell ⟨blk, off + a, none⟩ (.int .u32 (G (a + k)))).setCell ⟨blk, off + (a + k), none⟩ (.int .u32 (G a))).drew := by
            rw [hG.out, hG.out]
            exact hz.out.1.swap 1 (by omega) (by omega)
          have R2 : Hid _ := r2
          clear r2
          have hS := sift_any blk off cap 0 k a (swp z a (a + k)) _ (R2.out.holds h0.out hN.out.symm) (by rw [R2.out.size]; omega) (by rw [R2.out.size]; omega) (by rw [R2.out.size]; omega)
          have z0 : ((0 : Nat) : Int) = 0 := rfl
          rw [R2.out.size, z0] at hS
          have HS : Hid _ := hS
          clear hS
          rcases Nat.eq_zero_or_pos k with hk0 | hk0
          · subst hk0
            have HS2 := HS.out
            have R3 := R2.out
            simp only [Nat.add_zero, z0] at HS2 R3
            have H3 : Hid _ := HS2
            have R4 : Hid _ := R3
            clear HS2 R3 HS R2
            go_wp2
            go_region
            all_goals go_wp2_with (go_at_call 94; refine Calls.mono H3.out ?_; rintro e w' ⟨rfl, r'⟩)
            refine ⟨?_, ?measure⟩
            (repeat apply Exists.intro)
            refine ⟨?rel, ?fr⟩
            case fr => rfl
            case rel => exact ⟨0, _, by go_num, by omega, R4.out.trans r', hz.out.2⟩
            case measure => simp [intOf] <;> omega
          · have hne : off + (a + k) ≠ off + a := by omega
            have hne2 : ¬ (a + k = a) := by omega
            have hne3 : a ≠ a + k := by omega
            go_wp2
            go_region
            all_goals go_wp2_with (go_at_call 94; refine Calls.mono HS.out ?_; rintro e w' ⟨rfl, r'⟩)
            refine ⟨?_, ?measure⟩
            (repeat apply Exists.intro)
            refine ⟨?rel, ?fr⟩
            case fr => rfl
            case rel => exact ⟨k, _, by go_num, by omega, R2.out.trans r', hz.out.2⟩
            case measure => simp [intOf] <;> omega
    · have hS := sift_any blk off cap k n a y wr (hy.out.1.holds h0.out hN.out.symm) (by rw [hy.out.1.size]; omega) (by rw [hy.out.1.size]; omega) (by rw [hy.out.1.size]; omega)
      rw [hy.out.1.size] at hS
      go_wp2_with (go_at_call 94; refine hS.mono ?_; rintro e w' ⟨rfl, r'⟩)
      go_roundw
      case rel => exact ⟨k, _, by go_num, by omega, hy.out.1.trans r', hy.out.2⟩
      case measure => simp [intOf] <;> omega
end Go.Proofs.Ytkpijoogaicodaa
namespace Go.Proofs.Ytkpijoogaicodaa
open Go.RowKit Go.Sort
set_option linter.unusedVariables false
set_option linter.unusedSimpArgs false
set_option maxRecDepth 100000 in
set_option maxHeartbeats 8000000 in
theorem parteq_any (blk off cap a b p : Nat) (d : Array Int) (w : World) (h : Holds (Value.int .u32) w blk off d) (hab : a < b) (hb : b ≤ d.size) (hp : p < d.size) (hsz : d.size < 2305843009213693952) :
    Calls Try.prog 89 #[.slice (some ⟨blk, off, none⟩) d.size cap, .int .i64 a, .int .i64 b, .int .i64 p] w fun e w' => e = .returned (.int .i64 (Sort.partitionEqual ltInt d a b p).1) ∧ Rw w blk off d.size (Sort.partitionEqual ltInt d a b p).2 w' := by
  obtain ⟨N, hN⟩ : ∃ N, Hid (N = d.size) := ⟨_, rfl⟩
  have h0 : Hid (Holds (Value.int .u32) w blk off d) := h
  have r0 : Rw w blk off N d w := hN.out ▸ Rw.start h
  rw [← hN.out] at hb hsz hp ⊢
  clear h
  obtain ⟨G0, hG0⟩ : ∃ G : Nat → Int, Hid (∀ t, G t = d[t]!) := ⟨fun t => d[t]!, fun _ => rfl⟩
  have hc0 : ∀ t, t < N → w.cell? ⟨blk, off + t, none⟩ = some (.int .u32 (G0 t)) := fun t ht => by rw [hG0.out]; exact r0.cell h0.out hN.out.symm t ht
  have hf0 : ∀ t, t < N → w.frozen? ⟨blk, off + t, none⟩ = false := r0.froz h0.out hN.out.symm
  have HR0 : Hid (Rw w blk off N (swp d a p) ((w.setCell ⟨blk, off + a, none⟩ (.int .u32 (G0 p))).setCell ⟨blk, off + p, none⟩ (.int .u32 (G0 a))).drew) := by
    show Rw _ _ _ _ _ _
    rw [hG0.out, hG0.out]
    exact r0.swap 1 (by omega) (by omega)
  obtain ⟨R, hR⟩ : ∃ R, Sort.partitionEqual ltInt d a b p = R := ⟨_, rfl⟩
  have HRR : Hid (partEqLoop ltInt a (a + 1) (b - 1) (swp d a p) = R) := hR
  rw [hR]
  clear hR r0
  obtain ⟨v2, hv2⟩ : ∃ v, (w.setCell ⟨blk, off + a, none⟩ (.int .u32 (G0 p))).cell? ⟨blk, off + p, none⟩ = some v := by
    by_cases e : a = p
    · subst e; exact ⟨_, World.cell?_setCell_same' _ _ _ (by rw [hc0 a (by omega)]; rfl)⟩
    · exact ⟨_, (World.cell?_setCell_other _ _ _ _ (by simp <;> omega)).trans (hc0 p (by omega))⟩
  have haN : a < N := by omega
  go_enter Try.func89, Try.ntmps89
  go_wp2
  go_region
  go_wp2
  clear hc0 hf0
  go_loopw [9, 10] (fun vi vj wr => ∃ (i j : Nat) (z : Array Int), vi = .int .i64 i ∧ vj = .int .i64 j ∧ a < i ∧ i ≤ j + 2 ∧ j < b ∧ a ≤ j ∧ Hid (Rw w blk off N z wr ∧ partEqLoop ltInt a i j z = R)) (fun vi vj _ => (intOf vj + 2 - intOf vi).toNat)
  case atStart => exact ⟨a + 1, b - 1, swp d a p, by go_num, by congr 1; omega, by omega, by omega, by omega, by omega, HR0.out, HRR.out⟩
  case round =>
    obtain ⟨i, j, z, rfl, rfl, hai, hij, hjb, haj, hz⟩ := hrel
    obtain ⟨G, hG⟩ : ∃ G : Nat → Int, Hid (∀ t, G t = z[t]!) := ⟨fun t => z[t]!, fun _ => rfl⟩
    obtain ⟨i2, hi2⟩ : ∃ i2, scanUp (fun x => !ltInt z[a]! x) z j i = i2 := ⟨_, rfl⟩
    obtain ⟨j2, hj2⟩ : ∃ j2, scanDown (fun x => ltInt z[a]! x) z i2 j = j2 := ⟨_, rfl⟩
    have hge := scanUp_ge (fun x => !ltInt z[a]! x) z j i
    rw [hi2] at hge
    have HI2 : Hid (scanUp (fun x => !ltInt z[a]! x) z j i = i2) := hi2
    have HJ2 : Hid (scanDown (fun x => ltInt z[a]! x) z i2 j = j2) := hj2
    have HEQ : Hid (R = if i2 > j2 then (i2, z) else partEqLoop ltInt a (i2 + 1) (j2 - 1) (swp z i2 j2)) := by
      show _ = _
      rw [← hz.out.2, partEqLoop_eq, hi2, hj2]
    clear hi2 hj2
    go_upto_block 2 with fail
    go_cut [9] from 29 to 82 (fun vi wd => vi = .int .i64 (i2 : Int) ∧ (i2 ≤ i ∨ i2 ≤ j + 1) ∧ Rw w blk off N z wd)
    case first =>
      go_wp2
      go_loopw [9] (fun vi wr => ∃ i' : Nat, vi = .int .i64 i' ∧ i ≤ i' ∧ (i' ≤ i ∨ i' ≤ j + 1) ∧ Hid (Rw w blk off N z wr ∧ scanUp (fun x => !ltInt z[a]! x) z j i' = i2)) (fun vi _ => (j + 2 - (intOf vi).toNat))
      case atStart => exact ⟨i, rfl, Nat.le_refl _, .inl (Nat.le_refl _), hz.out.1, HI2.out⟩
      case round =>
        obtain ⟨i', rfl, hii, hib, hy⟩ := hrel
        have hc : ∀ t, t < N → wr.cell? ⟨blk, off + t, none⟩ = some (.int .u32 (G t)) := fun t ht => by rw [hG.out]; exact hy.out.1.cell h0.out hN.out.symm t ht
        go_wp2
        by_cases hle : i' ≤ j
        · have hlei : (i' : Int) ≤ (j : Int) := by omega
          by_cases hl' : ltInt (G a) (G i') = false
          · have hl := hl'
            clear hl'
            go_quiet (first | (go_at_call 88; refine Calls.quiet_of_same (less_any _ _ _)))
            go_wp2
            refine ⟨⟨i' + 1, by go_num, by omega, .inr (by omega), hy.out.1.drawn nq, ?_⟩, ?_⟩
            · rw [← hy.out.2, scanUp_go _ z j i' hle (by rw [← hG.out, ← hG.out, hl]; rfl)]
            · simp [intOf]; omega
          · have hl : ltInt (G a) (G i') = true := by simpa using hl'
            clear hl'
            go_quiet (first | (go_at_call 88; refine Calls.quiet_of_same (less_any _ _ _)))
            go_wp2
            go_meet
            case rel =>
              have e : i' = i2 := by rw [← hy.out.2, scanUp_end _ z j i' (.inr (by rw [← hG.out, ← hG.out, hl]; rfl))]
              exact ⟨by rw [e], by rw [← e]; exact hib, hy.out.1.drawn nq⟩
        · have hlei : ¬ (i' : Int) ≤ (j : Int) := by omega
          have hled : decide ((i' : Int) ≤ (j : Int)) = false := by simp; omega
          go_quiet (first | (go_at_call 88; refine Calls.quiet_of_same (less_any _ _ _)))
          go_wp2
          go_meet
          case rel =>
            have e : i' = i2 := by rw [← hy.out.2, scanUp_end _ z j i' (.inl hle)]
            exact ⟨by rw [e], by rw [← e]; exact hib, hy.out.1.drawn nq⟩
    case rest =>
      obtain ⟨rfl, hib, hr2⟩ := hcut
      have HR2 : Hid (Rw w blk off N z wc) := hr2
      clear hr2
      have hle2 := scanDown_le (fun x => ltInt z[a]! x) z i2 j
      rw [HJ2.out] at hle2
      go_upto_block 4 with fail
      go_cut [10] from 29 to 82 (fun vj wd => vj = .int .i64 (j2 : Int) ∧ i2 ≤ j2 + 2 ∧ a ≤ j2 ∧ Rw w blk off N z wd)
      case first =>
        go_wp2
        go_loopw [10] (fun vj wr => ∃ j' : Nat, vj = .int .i64 j' ∧ j' ≤ j ∧ i2 ≤ j' + 2 ∧ a ≤ j' ∧ Hid (Rw w blk off N z wr ∧ scanDown (fun x => ltInt z[a]! x) z i2 j' = j2)) (fun vj _ => (intOf vj).toNat)
        case atStart => exact ⟨j, rfl, Nat.le_refl _, by omega, haj, HR2.out, HJ2.out⟩
        case round =>
          obtain ⟨j', rfl, hjj, hij', haj', hy⟩ := hrel
          have hc : ∀ t, t < N → wr.cell? ⟨blk, off + t, none⟩ = some (.int .u32 (G t)) := fun t ht => by rw [hG.out]; exact hy.out.1.cell h0.out hN.out.symm t ht
          go_wp2
          by_cases hle : i2 ≤ j'
          · have hlei : (i2 : Int) ≤ (j' : Int) := by omega
            by_cases hl' : ltInt (G a) (G j') = true
            · have hl := hl'
              clear hl'
              go_quiet (first | (go_at_call 88; refine Calls.quiet_of_same (less_any _ _ _)))
              go_wp2
              refine ⟨⟨j' - 1, by congr 1; omega, by omega, by omega, by omega, hy.out.1.drawn nq, ?_⟩, ?_⟩
              · rw [← hy.out.2, scanDown_go _ z i2 j' hle (by omega) (by rw [← hG.out, ← hG.out, hl])]
              · simp [intOf]; omega
            · have hl : ltInt (G a) (G j') = false := by simpa using hl'
              clear hl'
              go_quiet (first | (go_at_call 88; refine Calls.quiet_of_same (less_any _ _ _)))
              go_wp2
              go_meet
              case rel =>
                have e : j' = j2 := by rw [← hy.out.2, scanDown_end _ z i2 j' (.inr (by rw [← hG.out, ← hG.out, hl]))]
                exact ⟨by rw [e], by omega, by omega, hy.out.1.drawn nq⟩
          · have hlei : ¬ (i2 : Int) ≤ (j' : Int) := by omega
            have hled : decide ((i2 : Int) ≤ (j' : Int)) = false := by simp; omega
            go_quiet (first | (go_at_call 88; refine Calls.quiet_of_same (less_any _ _ _)))
            go_wp2
            go_meet
            case rel =>
              have e : j' = j2 := by rw [← hy.out.2, scanDown_end _ z i2 j' (.inl hle)]
              exact ⟨by rw [e], by omega, by omega, hy.out.1.drawn nq⟩
      case rest =>
        obtain ⟨rfl, hij2, haj2, hr3⟩ := hcut
        have HR3 : Hid (Rw w blk off N z wc) := hr3
        clear hr3
        have hc : ∀ t, t < N → wc.cell? ⟨blk, off + t, none⟩ = some (.int .u32 (G t)) := fun t ht => by rw [hG.out]; exact HR3.out.cell h0.out hN.out.symm t ht
        have hf : ∀ t, t < N → wc.frozen? ⟨blk, off + t, none⟩ = false := HR3.out.froz h0.out hN.out.symm
        by_cases hgt : j2 < i2
        · have hgti : (j2 : Int) < (i2 : Int) := by omega
          have HE : Hid (R = (i2, z)) := by show _ = _; rw [HEQ.out, if_pos hgt]
          go_wp2
          go_ret
          exact ⟨by rw [HE.out]; rfl, by rw [HE.out]; exact HR3.out⟩
        · have hgti : ¬ (j2 : Int) < (i2 : Int) := by omega
          obtain ⟨v3, hv3⟩ : ∃ v, (wc.setCell ⟨blk, off + i2, none⟩ (.int .u32 (G j2))).cell? ⟨blk, off + j2, none⟩ = some v := by
            by_cases e : i2 = j2
            · subst e; exact ⟨_, World.cell?_setCell_same' _ _ _ (by rw [hc i2 (by omega)]; rfl)⟩
            · exact ⟨_, (World.cell?_setCell_other _ _ _ _ (by simp <;> omega)).trans (hc j2 (by omega))⟩
          have hiN : i2 < N := by omega
          have hjN : j2 < N := by omega
          go_wp2
          go_region
          go_wp2
          refine ⟨⟨i2 + 1, j2 - 1, swp z i2 j2, by go_num, by congr 1; omega, by omega, by omega, by omega, by omega, ?_, ?_⟩, ?_⟩
          · have := HR3.out.swap 1 (j := i2) (k := j2) (by omega) (by omega)
            rw [← hG.out, ← hG.out] at this
            exact this
          · rw [HEQ.out, if_neg (by omega)]
          · simp [intOf]; omega
end Go.Proofs.Ytkpijoogaicodaa
