/-
  The sort at uint32: partialInsertionSort.
-/
import Derived.Test.YtkpijoogaicodaaHi
import Derived.Sort.WalkA6
import Derived.Sort.LotA
namespace Go.Proofs.Ytkpijoogaicodaa
open Go.RowKit Go.Sort
set_option linter.unusedVariables false
set_option linter.unusedSimpArgs false
theorem scanSorted_ge (d : Array Int) (b i : Nat) : i ≤ scanSorted ltInt d b i ∧ (scanSorted ltInt d b i ≤ b ∨ scanSorted ltInt d b i = i) := by
  induction h : b - i generalizing i with
  | zero =>
    rw [scanSorted_stop _ _ _ _ (.inl (by omega))]; omega
  | succ n ih =>
    by_cases hl : ltInt d[i]! d[i - 1]! = true
    · rw [scanSorted_stop _ _ _ _ (.inr hl)]; omega
    · rw [scanSorted_go _ _ _ _ (by omega) (by simpa using hl)]
      have := ih (i + 1) (by omega)
      omega
set_option maxRecDepth 100000 in
set_option maxHeartbeats 16000000 in
theorem partial_any (blk off cap a b : Nat) (d : Array Int) (w : World) (h : Holds (Value.int .u32) w blk off d) (hab : a < b) (hb : b ≤ d.size) (hsz : d.size < 2305843009213693952) :
    Calls Try.prog 87 #[.slice (some ⟨blk, off, none⟩) d.size cap, .int .i64 a, .int .i64 b] w fun e w' => e = .returned (.bool (Sort.partialInsertionSort ltInt d a b).2) ∧ Rw w blk off d.size (Sort.partialInsertionSort ltInt d a b).1 w' := by
  obtain ⟨N, hN⟩ : ∃ N, Hid (N = d.size) := ⟨_, rfl⟩
  have h0 : Hid (Holds (Value.int .u32) w blk off d) := h
  have r0 : Rw w blk off N d w := hN.out ▸ Rw.start h
  rw [← hN.out] at hb hsz ⊢
  clear h
  obtain ⟨R, hR⟩ : ∃ R, Sort.partialInsertionSort ltInt d a b = R := ⟨_, rfl⟩
  have HRR : Hid (partialIns ltInt a b 5 (a + 1) d = R) := hR
  rw [hR]
  clear hR
  go_enter Try.func87, Try.ntmps87
  go_wp2
  go_loopw [7, 8] (fun vi vk wr => ∃ (i k : Nat) (z : Array Int), vi = .int .i64 i ∧ vk = .int .i64 k ∧ a < i ∧ i ≤ b ∧ k ≤ 5 ∧ Hid (Rw w blk off N z wr ∧ partialIns ltInt a b (5 - k) i z = R)) (fun _ vk _ => (5 - intOf vk).toNat)
  case atStart => exact ⟨a + 1, 0, d, by go_num, rfl, by omega, by omega, by omega, r0, HRR.out⟩
  case round =>
    obtain ⟨i, k, z, rfl, rfl, hai, hib, hk5, hz⟩ := hrel
    by_cases hk : k < 5
    · have hki : (k : Int) < 5 := by omega
      obtain ⟨G, hG⟩ : ∃ G : Nat → Int, Hid (∀ t, G t = z[t]!) := ⟨fun t => z[t]!, fun _ => rfl⟩
      obtain ⟨i2, hi2⟩ : ∃ i2, scanSorted ltInt z b i = i2 := ⟨_, rfl⟩
      have hge := scanSorted_ge z b i
      rw [hi2] at hge
      have HI2 : Hid (scanSorted ltInt z b i = i2) := hi2
      have hi2b : i2 ≤ b := by omega
      have hai2 : a < i2 := by omega
      obtain ⟨s, hs⟩ : ∃ s, 5 - k = s + 1 := ⟨4 - k, by omega⟩
      have hs2 : 5 - (k + 1) = s := by omega
      have HEQ : Hid (R = if i2 = b then (z, true) else if b - a < 50 then (z, false) else partialIns ltInt a b s i2 (if b - i2 ≥ 2 then shiftUp ltInt b (i2 + 1) (if i2 - a ≥ 2 then shiftDown ltInt (i2 - 1) (swp z i2 (i2 - 1)) else swp z i2 (i2 - 1)) else (if i2 - a ≥ 2 then shiftDown ltInt (i2 - 1) (swp z i2 (i2 - 1)) else swp z i2 (i2 - 1)))) := by
        show _ = _
        rw [← hz.out.2, hs, partialIns]
        simp only [hi2]
      have HRZ : Hid (Rw w blk off N z wr) := hz.out.1
      have HS2 : Hid (5 - (k + 1) = s) := hs2
      clear hi2 hs hs2 hge
      go_upto_block 2 with fail
      go_cut [7] from 13 to 132 (fun vi wd => vi = .int .i64 (i2 : Int) ∧ Rw w blk off N z wd)
      case first =>
        go_wp2
        go_loopw [7] (fun vi wr => ∃ i' : Nat, vi = .int .i64 i' ∧ i ≤ i' ∧ i' ≤ b ∧ Hid (Rw w blk off N z wr ∧ scanSorted ltInt z b i' = i2)) (fun vi _ => (b + 1 - (intOf vi).toNat))
        case atStart => exact ⟨i, rfl, Nat.le_refl _, hib, HRZ.out, HI2.out⟩
        case round =>
          obtain ⟨i', rfl, hii, hib', hy⟩ := hrel
          have hc : ∀ t, t < N → wr.cell? ⟨blk, off + t, none⟩ = some (.int .u32 (G t)) := fun t ht => by rw [hG.out]; exact hy.out.1.cell h0.out hN.out.symm t ht
          obtain ⟨p, hp⟩ : ∃ p, i' = p + 1 := ⟨i' - 1, by omega⟩
          subst hp
          go_wp2
          by_cases hle : p + 1 < b
          · have hlei : (p : Int) + 1 < (b : Int) := by omega
            by_cases hl' : ltInt (G (p + 1)) (G p) = false
            · have hl := hl'
              clear hl'
              go_quiet (first | (go_at_call 88; refine Calls.quiet_of_same (less_any _ _ _)))
              go_wp2
              refine ⟨⟨p + 1 + 1, by go_num, by omega, by omega, hy.out.1.drawn nq, ?_⟩, ?_⟩
              · rw [← hy.out.2, scanSorted_go _ z b (p + 1) hle (by rw [← hG.out, Nat.add_sub_cancel, ← hG.out, hl])]
              · simp [intOf]; omega
            · have hl : ltInt (G (p + 1)) (G p) = true := by simpa using hl'
              clear hl'
              go_quiet (first | (go_at_call 88; refine Calls.quiet_of_same (less_any _ _ _)))
              go_wp2
              go_meet
              case rel =>
                have e : p + 1 = i2 := by rw [← hy.out.2, scanSorted_stop _ z b (p + 1) (.inr (by rw [← hG.out, Nat.add_sub_cancel, ← hG.out, hl]))]
                exact ⟨by rw [← e] <;> try go_num, hy.out.1.drawn nq⟩
          · have hlei : ¬ (p : Int) + 1 < (b : Int) := by omega
            have hled : decide ((p : Int) + 1 < (b : Int)) = false := by simp; omega
            go_quiet (first | (go_at_call 88; refine Calls.quiet_of_same (less_any _ _ _)))
            go_wp2
            go_meet
            case rel =>
              have e : p + 1 = i2 := by rw [← hy.out.2, scanSorted_stop _ z b (p + 1) (.inl hle)]
              exact ⟨by rw [← e] <;> try go_num, hy.out.1.drawn nq⟩
      case rest =>
        obtain ⟨rfl, hr2⟩ := hcut
        have HR2 : Hid (Rw w blk off N z wc) := hr2
        clear hr2
        by_cases hEb : i2 = b
        · have hEbi : ((i2 : Int) == (b : Int)) = true := by simp; omega
          have HE : Hid (R = (z, true)) := by show _ = _; rw [HEQ.out, if_pos hEb]
          clear hEb
          go_wp2
          go_ret
          exact ⟨by rw [HE.out]; rfl, by rw [HE.out]; exact HR2.out⟩
        · have hEbi : ((i2 : Int) == (b : Int)) = false := by simp; omega
          by_cases h50 : b - a < 50
          · have h50i : (b : Int) - (a : Int) < 50 := by omega
            have HE : Hid (R = (z, false)) := by show _ = _; rw [HEQ.out, if_neg hEb, if_pos h50]
            go_wp2
            go_ret
            exact ⟨by rw [HE.out]; rfl, by rw [HE.out]; exact HR2.out⟩
          · have h50i : ¬ (b : Int) - (a : Int) < 50 := by omega
            obtain ⟨q, hq⟩ : ∃ q, i2 = q + 1 := ⟨i2 - 1, by omega⟩
            subst hq
            have hc : ∀ t, t < N → wc.cell? ⟨blk, off + t, none⟩ = some (.int .u32 (G t)) := fun t ht => by rw [hG.out]; exact HR2.out.cell h0.out hN.out.symm t ht
            have hf : ∀ t, t < N → wc.frozen? ⟨blk, off + t, none⟩ = false := HR2.out.froz h0.out hN.out.symm
            have hqN : q + 1 < N := by omega
            have hqN2 : q < N := by omega
            obtain ⟨v3, hv3⟩ := swap_cell hc hqN hqN2 (.int .u32 (G q))
            obtain ⟨y0, hy0⟩ : ∃ y, swp z (q + 1) q = y := ⟨_, rfl⟩
            have HSW : Hid (Rw w blk off N y0 ((wc.setCell ⟨blk, off + (q + 1), none⟩ (.int .u32 (G q))).setCell ⟨blk, off + q, none⟩ (.int .u32 (G (q + 1)))).drew) := by
              show Rw _ _ _ _ _ _
              rw [← hy0]; exact HR2.out.swapG hG.out hqN hqN2
            obtain ⟨y1, hy1⟩ : ∃ y, (if q + 1 - a ≥ 2 then shiftDown ltInt q y0 else y0) = y := ⟨_, rfl⟩
            obtain ⟨y2, hy2⟩ : ∃ y, (if b - (q + 1) ≥ 2 then shiftUp ltInt b (q + 1 + 1) y1 else y1) = y := ⟨_, rfl⟩
            have HE : Hid (R = partialIns ltInt a b s (q + 1) y2) := by
              show _ = _
              rw [HEQ.out, if_neg hEb, if_neg h50, Nat.add_sub_cancel, hy0, hy1, hy2]
            have HY1 : Hid ((if q + 1 - a ≥ 2 then shiftDown ltInt q y0 else y0) = y1) := hy1
            have HY2 : Hid ((if b - (q + 1) ≥ 2 then shiftUp ltInt b (q + 1 + 1) y1 else y1) = y2) := hy2
            clear hy0 hy1 hy2 hEb
            go_wp2
            go_region
            clear hc hf hv3
            go_upto_if 61 with fail
            go_cut [9] from 13 to 132 (fun _ wd => Rw w blk off N y1 wd)
            case first =>
              by_cases h2 : q + 1 - a ≥ 2
              · have h2i : (2 : Int) ≤ (q : Int) + 1 - (a : Int) := by omega
                have HY : Hid (shiftDown ltInt q y0 = y1) := by show _ = _; rw [← HY1.out, if_pos h2]
                go_wp2
                go_loopw [9] (fun vj wr => ∃ (j : Nat) (x : Array Int), vj = .int .i64 j ∧ j ≤ q ∧ Hid (Rw w blk off N x wr ∧ shiftDown ltInt j x = y1)) (fun vj _ => (intOf vj).toNat)
                case atStart => exact ⟨q, y0, by congr 1 <;> omega, Nat.le_refl _, HSW.out, HY.out⟩
                case round =>
                  obtain ⟨j, x, rfl, hjq, hx⟩ := hrel
                  by_cases hj1 : 1 ≤ j
                  · obtain ⟨r, hr⟩ : ∃ r, j = r + 1 := ⟨j - 1, by omega⟩
                    subst hr
                    obtain ⟨Gx, hGx⟩ : ∃ G : Nat → Int, Hid (∀ t, G t = x[t]!) := ⟨fun t => x[t]!, fun _ => rfl⟩
                    have hc : ∀ t, t < N → wr.cell? ⟨blk, off + t, none⟩ = some (.int .u32 (Gx t)) := fun t ht => by rw [hGx.out]; exact hx.out.1.cell h0.out hN.out.symm t ht
                    have hf : ∀ t, t < N → wr.frozen? ⟨blk, off + t, none⟩ = false := hx.out.1.froz h0.out hN.out.symm
                    have hrN : r + 1 < N := by omega
                    have hrN2 : r < N := by omega
                    by_cases hl' : ltInt (Gx (r + 1)) (Gx r) = true
                    · have hl := hl'
                      clear hl'
                      obtain ⟨v3, hv3⟩ := swap_cell hc hrN hrN2 (.int .u32 (Gx r))
                      go_wp2
                      go_quiet (first | (go_at_call 88; refine Calls.quiet_of_same (less_any _ _ _)))
                      go_wp2
                      go_region
                      go_wp2
                      refine ⟨⟨r, swp x (r + 1) r, by congr 1 <;> omega, by omega, ?_, ?_⟩, ?_⟩
                      · have := (hx.out.1.drawn nq).swapG hGx.out hrN hrN2
                        exact this
                      · rw [← hx.out.2, shiftDown_go _ (r + 1) x hj1 (by rw [← hGx.out, Nat.add_sub_cancel, ← hGx.out, hl]), Nat.add_sub_cancel]
                      · simp [intOf]
                    · have hl : ltInt (Gx (r + 1)) (Gx r) = false := by simpa using hl'
                      clear hl'
                      go_wp2
                      go_quiet (first | (go_at_call 88; refine Calls.quiet_of_same (less_any _ _ _)))
                      go_wp2
                      go_meet
                      case rel =>
                        have e : x = y1 := by rw [← hx.out.2, shiftDown_stop _ (r + 1) x (.inr (by rw [← hGx.out, Nat.add_sub_cancel, ← hGx.out, hl]))]
                        rw [← e]; exact hx.out.1.drawn nq
                  · have hji : ¬ (1 : Int) ≤ (j : Int) := by omega
                    go_wp2
                    go_meet
                    case rel =>
                      have e : x = y1 := by rw [← hx.out.2, shiftDown_stop _ j x (.inl (by omega))]
                      rw [← e]; exact hx.out.1
              · have h2i : ¬ (2 : Int) ≤ (q : Int) + 1 - (a : Int) := by omega
                have HY : Hid (y0 = y1) := by show _ = _; rw [← HY1.out, if_neg h2]
                go_wp2
                go_meet
                case rel => rw [← HY.out]; exact HSW.out
            case rest =>
              have HRa : Hid (Rw w blk off N y1 wc) := hcut
              clear hcut
              by_cases h2 : b - (q + 1) ≥ 2
              · have h2i : (2 : Int) ≤ (b : Int) - ((q : Int) + 1) := by omega
                have HY : Hid (shiftUp ltInt b (q + 1 + 1) y1 = y2) := by show _ = _; rw [← HY2.out, if_pos h2]
                go_wp2
                go_loopw [10] (fun vj wr => ∃ (j : Nat) (x : Array Int), vj = .int .i64 ((j : Int) + 1) ∧ j + 1 ≤ b ∧ Hid (Rw w blk off N x wr ∧ shiftUp ltInt b (j + 1) x = y2)) (fun vj _ => (b + 1 - (intOf vj).toNat))
                case atStart => exact ⟨q + 1, y1, by go_num, by omega, HRa.out, HY.out⟩
                case round =>
                  obtain ⟨r, x, rfl, hrb, hx⟩ := hrel
                  obtain ⟨Gx, hGx⟩ : ∃ G : Nat → Int, Hid (∀ t, G t = x[t]!) := ⟨fun t => x[t]!, fun _ => rfl⟩
                  have hc : ∀ t, t < N → wr.cell? ⟨blk, off + t, none⟩ = some (.int .u32 (Gx t)) := fun t ht => by rw [hGx.out]; exact hx.out.1.cell h0.out hN.out.symm t ht
                  have hf : ∀ t, t < N → wr.frozen? ⟨blk, off + t, none⟩ = false := hx.out.1.froz h0.out hN.out.symm
                  by_cases hj1 : r + 1 < b
                  · have hj1i : (r : Int) + 1 < (b : Int) := by omega
                    have hrN : r + 1 < N := by omega
                    have hrN2 : r < N := by omega
                    by_cases hl' : ltInt (Gx (r + 1)) (Gx r) = true
                    · have hl := hl'
                      clear hl'
                      obtain ⟨v3, hv3⟩ := swap_cell hc hrN hrN2 (.int .u32 (Gx r))
                      go_wp2
                      go_quiet (first | (go_at_call 88; refine Calls.quiet_of_same (less_any _ _ _)))
                      go_wp2
                      go_region
                      go_wp2
                      refine ⟨⟨r + 1, swp x (r + 1) r, by go_num, by omega, ?_, ?_⟩, ?_⟩
                      · have := (hx.out.1.drawn nq).swapG hGx.out hrN hrN2
                        exact this
                      · rw [← hx.out.2, shiftUp_go _ b (r + 1) x hj1 (by rw [← hGx.out, Nat.add_sub_cancel, ← hGx.out, hl]), Nat.add_sub_cancel]
                      · simp [intOf]; omega
                    · have hl : ltInt (Gx (r + 1)) (Gx r) = false := by simpa using hl'
                      clear hl'
                      go_wp2
                      go_quiet (first | (go_at_call 88; refine Calls.quiet_of_same (less_any _ _ _)))
                      go_wp2
                      refine ⟨⟨q + 1, k + 1, y2, by go_num, by go_num, by omega, by omega, by omega, ?_, by rw [HS2.out, HE.out]⟩, by simp [intOf]; omega⟩
                      have e : x = y2 := by rw [← hx.out.2, shiftUp_stop _ b (r + 1) x (.inr (by rw [← hGx.out, Nat.add_sub_cancel, ← hGx.out, hl]))]
                      rw [← e]; exact hx.out.1.drawn nq
                  · have hj1i : ¬ (r : Int) + 1 < (b : Int) := by omega
                    go_wp2
                    refine ⟨⟨q + 1, k + 1, y2, by go_num, by go_num, by omega, by omega, by omega, ?_, by rw [HS2.out, HE.out]⟩, by simp [intOf]; omega⟩
                    have e : x = y2 := by rw [← hx.out.2, shiftUp_stop _ b (r + 1) x (.inl hj1)]
                    rw [← e]; exact hx.out.1
              · have h2i : ¬ (2 : Int) ≤ (b : Int) - ((q : Int) + 1) := by omega
                have HY : Hid (y1 = y2) := by show _ = _; rw [← HY2.out, if_neg h2]
                go_wp2
                refine ⟨⟨q + 1, k + 1, y2, by go_num, by go_num, by omega, by omega, by omega, ?_, by rw [HS2.out, HE.out]⟩, by simp [intOf]; omega⟩
                rw [← HY.out]; exact HRa.out
    · have hki : ¬ (k : Int) < 5 := by omega
      have HE : Hid (R = (z, false)) := by
        show _ = _
        rw [← hz.out.2, show 5 - k = 0 by omega]; rfl
      go_wp2
      go_ret
      exact ⟨by rw [HE.out]; rfl, by rw [HE.out]; exact hz.out.1⟩
end Go.Proofs.Ytkpijoogaicodaa
