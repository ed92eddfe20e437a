import Derived.Test.YtkpijoogaicodaaHd
namespace Go.Proofs.Ytkpijoogaicodaa
open Go.RowKit Go.Sort
set_option linter.unusedVariables false
set_option linter.unusedSimpArgs false
section
variable {w wr : World} {blk off N : Nat} {d : Array Int}
theorem Rw.holds (r : Rw w blk off N d wr) {d0 : Array Int} (h : Holds (Value.int .u32) w blk off d0) (hN : d0.size = N) : Holds (Value.int .u32) wr blk off d :=
  fun t ht => ⟨r.cell h hN t (by rw [← r.size]; exact ht), r.froz h hN t (by rw [← r.size]; exact ht)⟩
theorem Rw.trans (r : Rw w blk off N d wr) {d' : Array Int} {w' : World} (r' : Rw wr blk off N d' w') : Rw w blk off N d' w' := by
  obtain ⟨hs, n, rfl⟩ := r
  obtain ⟨hs', m, rfl⟩ := r'
  refine ⟨hs', n + m, ?_⟩
  rw [putRow_ahead (Value.int .u32) w n, ahead_ahead, ← putRow_ahead, putRow_putRow _ _ _ _ _ _ (by omega)]
end
set_option maxRecDepth 100000 in
set_option maxHeartbeats 8000000 in
theorem heap_any (blk off cap a b : Nat) (d : Array Int) (w : World) (h : Holds (Value.int .u32) w blk off d) (hab : a ≤ b) (hb : b ≤ d.size) (hsz : d.size < 2305843009213693952) :
    Calls Try.prog 83 #[.slice (some ⟨blk, off, none⟩) d.size cap, .int .i64 a, .int .i64 b] w fun e w' => e = .returned (.tuple #[]) ∧ Rw w blk off d.size (Sort.heapSort ltInt d a b) w' := by
  obtain ⟨N, hN⟩ : ∃ N, Hid (N = d.size) := ⟨_, rfl⟩
  have h0 : Hid (Holds (Value.int .u32) w blk off d) := h
  have r0 : Rw w blk off N d w := hN.out ▸ Rw.start h
  rw [← hN.out] at hb hsz ⊢
  clear h
  obtain ⟨n, hn⟩ : ∃ n : Nat, (b : Int) - (a : Int) = (n : Int) := ⟨b - a, by omega⟩
  have hm : ((n : Int) - 1).tdiv 2 = (((n - 1) / 2 : Nat) : Int) := by
    cases n with
    | zero => rfl
    | succ m => rw [show ((m + 1 : Nat) : Int) - 1 = (m : Int) by omega]; rfl
  obtain ⟨m, hm2⟩ : ∃ m, m = (n - 1) / 2 := ⟨_, rfl⟩
  rw [← hm2] at hm
  have hE : Hid (Sort.heapSort ltInt d a b = heapPop ltInt a n (heapBuild ltInt n a (m + 1) d)) := by
    have e : b - a = n := by omega
    show Sort.heapSort ltInt d a b = _
    unfold Sort.heapSort; rw [e, hm2]
  go_enter Try.func83, Try.ntmps83
  go_wp2
  (try simp only [hn, hm])
  go_loopw [9] (fun vi wr => ∃ (k : Nat) (y : Array Int), vi = .int .i64 ((k : Int) - 1) ∧ k ≤ m + 1 ∧ Hid (Rw w blk off N y wr ∧ heapBuild ltInt n a k y = heapBuild ltInt n a (m + 1) d)) (fun vi _ => (intOf vi + 1).toNat)
  case atStart => exact ⟨m + 1, d, by go_num, by omega, r0, rfl⟩
  case round =>
    obtain ⟨k, y, rfl, hk, hy⟩ := hrel
    rcases k with _ | k
    · go_wp2
      (try simp only [hn, hm])
      obtain ⟨W0, rfl⟩ : ∃ W0, W0 = wr := ⟨_, rfl⟩
      go_loopw [10] (fun vi wr => ∃ (k : Nat) (z : Array Int), vi = .int .i64 ((k : Int) - 1) ∧ k ≤ n ∧ Hid (Rw w blk off N z wr ∧ heapPop ltInt a k z = Sort.heapSort ltInt d a b)) (fun vi _ => (intOf vi + 1).toNat)
      case atStart => exact ⟨n, y, by go_num, by omega, hy.out.1, by rw [hE.out, ← hy.out.2]; rfl⟩
      case round =>
        obtain ⟨k, z, rfl, hk, hz⟩ := hrel
        rcases k with _ | k
        · go_wp2
          go_end0
          exact ⟨rfl, hz.out.2 ▸ hz.out.1⟩
        · obtain ⟨G, hG⟩ : ∃ G : Nat → Int, Hid (∀ t, G t = z[t]!) := ⟨fun t => z[t]!, fun _ => rfl⟩
          have hc : ∀ t, t < N → wr.cell? ⟨blk, off + t, none⟩ = some (.int .u32 (G t)) := fun t ht => by rw [hG.out]; exact hz.out.1.cell h0.out hN.out.symm t ht
          have hf : ∀ t, t < N → wr.frozen? ⟨blk, off + t, none⟩ = false := hz.out.1.froz h0.out hN.out.symm
          have r2 : Rw w blk off N (swp z a (a + k)) ((wr.setCell ⟨blk, off + a, none⟩ (.int .u32 (G (a + k)))).setCell ⟨blk, off + (a + k), none⟩ (.int .u32 (G a))).drew := by
            rw [hG.out, hG.out]
            exact hz.out.1.swap 1 (by omega) (by omega)
          have R2 : Hid _ := r2
          clear r2
          have hS := sift_any blk off cap 0 k a (swp z a (a + k)) _ (R2.out.holds h0.out hN.out.symm) (by rw [R2.out.size]; omega) (by rw [R2.out.size]; omega) (by rw [R2.out.size]; omega)
          have z0 : ((0 : Nat) : Int) = 0 := rfl
          rw [R2.out.size, z0] at hS
          have HS : Hid _ := hS
          clear hS
          rcases Nat.eq_zero_or_pos k with hk0 | hk0
          · subst hk0
            have HS2 := HS.out
            have R3 := R2.out
            simp only [Nat.add_zero, z0] at HS2 R3
            have H3 : Hid _ := HS2
            have R4 : Hid _ := R3
            clear HS2 R3 HS R2
            go_wp2
            go_region
            all_goals go_wp2_with (go_at_call 94; refine Calls.mono H3.out ?_; rintro e w' ⟨rfl, r'⟩)
            refine ⟨?_, ?measure⟩
            (repeat apply Exists.intro)
            refine ⟨?rel, ?fr⟩
            case fr => rfl
            case rel => exact ⟨0, _, by go_num, by omega, R4.out.trans r', hz.out.2⟩
            case measure => simp [intOf] <;> omega
          · have hne : off + (a + k) ≠ off + a := by omega
            have hne2 : ¬ (a + k = a) := by omega
            have hne3 : a ≠ a + k := by omega
            go_wp2
            go_region
            all_goals go_wp2_with (go_at_call 94; refine Calls.mono HS.out ?_; rintro e w' ⟨rfl, r'⟩)
            refine ⟨?_, ?measure⟩
            (repeat apply Exists.intro)
            refine ⟨?rel, ?fr⟩
            case fr => rfl
            case rel => exact ⟨k, _, by go_num, by omega, R2.out.trans r', hz.out.2⟩
            case measure => simp [intOf] <;> omega
    · have hS := sift_any blk off cap k n a y wr (hy.out.1.holds h0.out hN.out.symm) (by rw [hy.out.1.size]; omega) (by rw [hy.out.1.size]; omega) (by rw [hy.out.1.size]; omega)
      rw [hy.out.1.size] at hS
      go_wp2_with (go_at_call 94; refine hS.mono ?_; rintro e w' ⟨rfl, r'⟩)
      go_roundw
      case rel => exact ⟨k, _, by go_num, by omega, hy.out.1.trans r', hy.out.2⟩
      case measure => simp [intOf] <;> omega
end Go.Proofs.Ytkpijoogaicodaa
