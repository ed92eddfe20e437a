/-
  The sort at uint32: bits.Len, nextPowerOfTwo, the xorshift, breakPatterns (at most 65535 elements).
  The sort at uint32: median, medianAdjacent, choosePivot.
-/
import Derived.Test.YtkpijoogaicodaaHi
import Derived.Laws.BitsAllLaws
import Derived.Test.YtkpijoogaicodaaHh
namespace Go.Proofs.Ytkpijoogaicodaa
open Go.RowKit Go.Sort
set_option linter.unusedVariables false
set_option linter.unusedSimpArgs false
theorem bitsLen_small : ∀ t : Fin 256, Sort.bitsLen t.1 ≤ 8 := by decide +kernel
theorem wrap64_small (x : Nat) (h : x < 1000000) : wrap64 (x : Int) = x := by unfold wrap64; omega
theorem tab_val (T : ByteArray) (hT : T.data.toList = (List.range 256).map fun t => UInt8.ofNat (Sort.bitsLen t)) (x : Nat) (h : x < T.size) (hx : x < 256) : T[x].toNat = Sort.bitsLen x := by
  have e : T[x] = T.data.toList[x]'(by simpa using h) := rfl
  have b := bitsLen_small ⟨x, hx⟩
  rw [e]
  simp only [hT, List.getElem_map, List.getElem_range]
  simp
  simp at b
  omega
theorem tab_w (T : ByteArray) (hT : T.data.toList = (List.range 256).map fun t => UInt8.ofNat (Sort.bitsLen t)) (x : Nat) (h : x < T.size) (hx : x < 256) : wrap64 (wrap64 (T[x].toNat : Int)) = (Sort.bitsLen x : Int) := by
  have b := bitsLen_small ⟨x, hx⟩
  simp only at b
  rw [tab_val T hT x h hx, wrap64_small _ (by omega), wrap64_small _ (by omega)]
theorem tab_w8 (T : ByteArray) (hT : T.data.toList = (List.range 256).map fun t => UInt8.ofNat (Sort.bitsLen t)) (x : Nat) (h : x < T.size) (hx : x < 256) : wrap64 (8 + wrap64 (T[x].toNat : Int)) = (Sort.bitsLen x : Int) + 8 := by
  have b := bitsLen_small ⟨x, hx⟩
  simp only at b
  rw [tab_val T hT x h hx, wrap64_small _ (by omega)]
  unfold wrap64; omega
theorem ret_i64 {a b : Int} (h : a = b) : Ending.returned (.int .i64 a) = .returned (.int .i64 b) := by rw [h]
set_option maxRecDepth 100000 in
set_option maxHeartbeats 2000000 in
theorem len64_small (x : Nat) (w : World) (hx : x < 256) : Calls Try.prog 92 #[.int .u64 x] w fun e w' => e = .returned (.int .i64 (Sort.bitsLen x)) ∧ w' = w := by
  have h1 : ¬ (4294967296 : Int) ≤ (x : Int) := by omega
  have h2 : ¬ (65536 : Int) ≤ (x : Int) := by omega
  have h3 : ¬ (256 : Int) ≤ (x : Int) := by omega
  go_enter Try.func92, Try.ntmps92
  go_wp2
  go_ret
  exact ⟨ret_i64 (tab_w _ (by kernel_rfl) x _ hx), rfl⟩
theorem bitsLen_256 (x : Nat) (h : 256 ≤ x) : Sort.bitsLen x = Sort.bitsLen (x / 256) + 8 := by
  have hy : x / 256 ≠ 0 := by omega
  obtain ⟨k, hk⟩ : ∃ k, Nat.log2 (x / 256) = k := ⟨_, rfl⟩
  have hb := (Nat.log2_eq_iff hy).1 hk
  have h1 : 2 ^ (k + 8) = 2 ^ k * 256 := by rw [Nat.pow_add]
  have h2 : 2 ^ (k + 1) = 2 ^ k * 2 := by rw [Nat.pow_succ]
  have h3 : 2 ^ (k + 8 + 1) = 2 ^ k * 512 := by rw [Nat.pow_succ, h1, Nat.mul_assoc]
  have hx : Nat.log2 x = k + 8 := (Nat.log2_eq_iff (by omega)).2 (by rw [h1, h3]; rw [h2] at hb; omega)
  unfold Sort.bitsLen
  rw [if_neg (by omega), if_neg hy, hx, hk]
set_option maxRecDepth 100000 in
set_option maxHeartbeats 2000000 in
theorem len64_any (x : Nat) (w : World) (hx : x < 65536) : Calls Try.prog 92 #[.int .u64 x] w fun e w' => e = .returned (.int .i64 (Sort.bitsLen x)) ∧ w' = w := by
  by_cases h : x < 256
  · exact len64_small x w h
  · obtain ⟨X, hX⟩ : ∃ X : Int, (x : Int) = X := ⟨_, rfl⟩
    rw [hX]
    have h1 : X < 4294967296 := by omega
    have h2 : X < 65536 := by omega
    have h3 : 256 ≤ X := by omega
    obtain ⟨y, hy⟩ : ∃ y : Nat, y = x / 256 := ⟨_, rfl⟩
    have hyi : X / 256 = (y : Int) := by omega
    have hy2 : y < 256 := by omega
    have HB : Hid (Sort.bitsLen x = Sort.bitsLen y + 8) := by show _ = _; rw [hy]; exact bitsLen_256 x (by omega)
    clear hy hx h hX
    go_enter Try.func92, Try.ntmps92
    go_wp2
    go_ret
    exact ⟨ret_i64 (by rw [tab_w8 _ (by kernel_rfl) y _ hy2, HB.out]; omega), rfl⟩
set_option maxRecDepth 100000 in
theorem blen_any (x : Nat) (w : World) (hx : x < 65536) : Calls Try.prog 79 #[.int .u64 x] w fun e w' => e = .returned (.int .i64 (Sort.bitsLen x)) ∧ w' = w := by
  have H := len64_any x
  have HH : Hid (∀ W, Calls Try.prog 92 #[.int .u64 x] W fun e w' => e = .returned (.int .i64 (Sort.bitsLen x)) ∧ w' = W) := fun W => H W hx
  clear H hx
  go_enter Try.func79, Try.ntmps79
  go_wp2_with (go_at_call 92; refine (HH.out _).mono ?_; rintro e w3 ⟨rfl, hw3⟩; have hw4 := hw3.symm; subst hw4; clear hw3)
  go_ret
  exact ⟨rfl, rfl⟩
theorem bitsLen_le (x : Nat) (hx : x < 65536) : Sort.bitsLen x ≤ 16 := by
  by_cases h : x < 256
  · have := bitsLen_small ⟨x, h⟩; simp only at this; omega
  · rw [bitsLen_256 x (by omega)]
    have := bitsLen_small ⟨x / 256, by omega⟩; simp only at this; omega
set_option maxRecDepth 100000 in
theorem pow2_any (x : Nat) (w : World) (hx : x < 65536) : Calls Try.prog 95 #[.int .i64 x] w fun e w' => e = .returned (.int .u64 ((2 ^ Sort.bitsLen x : Nat) : Int)) ∧ w' = w := by
  have H := blen_any x
  have HH : Hid (∀ W, Calls Try.prog 79 #[.int .u64 x] W fun e w' => e = .returned (.int .i64 (Sort.bitsLen x)) ∧ w' = W) := fun W => H W hx
  have hl := bitsLen_le x hx
  obtain ⟨L, hL⟩ : ∃ L, Sort.bitsLen x = L := ⟨_, rfl⟩
  rw [hL] at HH hl ⊢
  have h0 : (x : Int) < 18446744073709551616 := by omega
  obtain ⟨X, hX⟩ : ∃ X : Int, (x : Int) = X := ⟨_, rfl⟩
  have hX0 : 0 ≤ X := by omega
  have hX1 : X < 65536 := by omega
  rw [hX] at HH ⊢
  clear H hx hL hX h0
  go_enter Try.func95, Try.ntmps95
  go_wp2_with (go_at_call 79; refine (HH.out _).mono ?_; rintro e w3 ⟨rfl, hw3⟩; have hw4 := hw3.symm; subst hw4; clear hw3)
  go_ret
  refine ⟨?_, rfl⟩
  have e : IntKind.u64.wrap ((2 : Int) ^ L) = ((2 ^ L : Nat) : Int) := by
    have h1 : (2 ^ L : Nat) ≤ 2 ^ 16 := Nat.pow_le_pow_right (by omega) hl
    have h2 : ((2 : Int) ^ L) = ((2 ^ L : Nat) : Int) := by simp
    rw [h2, IntKind.wrap_u64]
    generalize (2 ^ L : Nat) = z at h1 ⊢
    omega
  show Ending.returned (.int .u64 (IntKind.u64.wrap ((2 : Int) ^ L))) = _
  rw [e]
/-- One step of the xorshift, in the program's own words. -/
def xo (X : Int) : Int :=
  let A := bits .xor .u64 X (IntKind.u64.wrap (X * 8192))
  let B := bits .xor .u64 A (A / 128)
  bits .xor .u64 B (IntKind.u64.wrap (B * 131072))
theorem xo_eq (r : UInt64) : xo (r.toNat : Int) = ((Sort.xorNext r).toNat : Int) := by
  have hb : ∀ s : UInt64, s.toNat < 18446744073709551616 := fun s => s.toNat_lt
  have e1 : ∀ s : UInt64, bits .xor .u64 (s.toNat : Int) (IntKind.u64.wrap ((s.toNat : Int) * 8192)) = ((s ^^^ (s <<< 13)).toNat : Int) := fun s => by
    rw [IntKind.wrap_u64, show ((s.toNat : Int) * 8192 % 18446744073709551616) = ((s.toNat * 8192 % 18446744073709551616 : Nat) : Int) by omega, bits_xor_u64_nat _ _ (hb s) (by omega)]
    rw [UInt64.toNat_xor, UInt64.toNat_shiftLeft, Nat.shiftLeft_eq]; rfl
  have e2 : ∀ s : UInt64, bits .xor .u64 (s.toNat : Int) ((s.toNat : Int) / 128) = ((s ^^^ (s >>> 7)).toNat : Int) := fun s => by
    have := hb s
    rw [show ((s.toNat : Int) / 128) = ((s.toNat / 128 : Nat) : Int) by omega, bits_xor_u64_nat _ _ (hb s) (by omega)]
    rw [UInt64.toNat_xor, UInt64.toNat_shiftRight, Nat.shiftRight_eq_div_pow]; rfl
  have e3 : ∀ s : UInt64, bits .xor .u64 (s.toNat : Int) (IntKind.u64.wrap ((s.toNat : Int) * 131072)) = ((s ^^^ (s <<< 17)).toNat : Int) := fun s => by
    rw [IntKind.wrap_u64, show ((s.toNat : Int) * 131072 % 18446744073709551616) = ((s.toNat * 131072 % 18446744073709551616 : Nat) : Int) by omega, bits_xor_u64_nat _ _ (hb s) (by omega)]
    rw [UInt64.toNat_xor, UInt64.toNat_shiftLeft, Nat.shiftLeft_eq]; rfl
  unfold xo Sort.xorNext
  simp only [e1, e2, e3]
end Go.Proofs.Ytkpijoogaicodaa
namespace Go.Proofs.Ytkpijoogaicodaa
open Go.RowKit Go.Sort
set_option linter.unusedVariables false
set_option linter.unusedSimpArgs false
set_option maxRecDepth 100000 in
set_option maxHeartbeats 4000000 in
theorem order_any (blk off cap a b s n : Nat) (d : Array Int) (w : World) (h : Holds (Value.int .u32) w blk off d) (ha : a < d.size) (hb : b < d.size) (hsz : d.size < 2305843009213693952) (hs : w.cell? ⟨s, 0, none⟩ = some (.int .i64 n)) (hfz : w.frozen? ⟨s, 0, none⟩ = false) (hn : n < 100) :
    Calls Try.prog 101 #[.slice (some ⟨blk, off, none⟩) d.size cap, .int .i64 a, .int .i64 b, .pointer (some ⟨s, 0, none⟩)] w fun e w' =>
      e = .returned (.tuple #[.int .i64 (Sort.order2 ltInt d a b n).1, .int .i64 (Sort.order2 ltInt d a b n).2.1]) ∧ ∃ q, w' = if ltInt d[b]! d[a]! then (w.drewN q).setCell ⟨s, 0, none⟩ (.int .i64 ((n : Int) + 1)) else w.drewN q := by
  obtain ⟨N, hN⟩ : ∃ N, Hid (N = d.size) := ⟨_, rfl⟩
  obtain ⟨G, hG⟩ : ∃ G : Nat → Int, Hid (∀ t, G t = d[t]!) := ⟨fun t => d[t]!, fun _ => rfl⟩
  rw [← hN.out] at ha hb hsz ⊢
  have hc : ∀ t, t < N → w.cell? ⟨blk, off + t, none⟩ = some (.int .u32 (G t)) := fun t ht => by rw [hG.out]; exact (h t (hN.out ▸ ht)).1
  have hf : ∀ t, t < N → w.frozen? ⟨blk, off + t, none⟩ = false := fun t ht => (h t (hN.out ▸ ht)).2
  have hO : Sort.order2 ltInt d a b n = if ltInt (G b) (G a) then (b, a, n + 1) else (a, b, n) := by rw [hG.out, hG.out]; rfl
  rw [hO, ← hG.out, ← hG.out]
  clear hO h
  go_enter Try.func101, Try.ntmps101
  go_wp2
  go_quiet (first | (go_at_call 88; refine Calls.quiet_of_same (less_any _ _ _)))
  go_wp2
  all_goals
    go_ret2
    exact ⟨rfl, nq, rfl⟩
end Go.Proofs.Ytkpijoogaicodaa
namespace Go.Proofs.Ytkpijoogaicodaa
open Go.RowKit Go.Sort
set_option linter.unusedVariables false
set_option linter.unusedSimpArgs false

theorem order_rel (blk off cap a b s n : Nat) (d : Array Int) (w : World) (h : Holds (Value.int .u32) w blk off d) (hne : blk ≠ s) (ha : a < d.size) (hb : b < d.size) (hsz : d.size < 2305843009213693952) (hs : w.cell? ⟨s, 0, none⟩ = some (.int .i64 n)) (hfz : w.frozen? ⟨s, 0, none⟩ = false) (hn : n < 100) :
    Calls Try.prog 101 #[.slice (some ⟨blk, off, none⟩) d.size cap, .int .i64 a, .int .i64 b, .pointer (some ⟨s, 0, none⟩)] w fun e w' =>
      e = .returned (.tuple #[.int .i64 (Sort.order2 ltInt d a b n).1, .int .i64 (Sort.order2 ltInt d a b n).2.1]) ∧ w'.cell? ⟨s, 0, none⟩ = some (.int .i64 (Sort.order2 ltInt d a b n).2.2) ∧ w'.frozen? ⟨s, 0, none⟩ = false ∧ Holds (Value.int .u32) w' blk off d ∧ w.grownBy w' (some s) := by
  refine (order_any blk off cap a b s n d w h ha hb hsz hs hfz hn).mono fun e w' ⟨he, q, hw⟩ => ⟨he, ?_⟩
  have hg0 : w.grownBy (w.drewN q) (some s) := ⟨rfl, rfl, rfl, Nat.le_refl _, fun _ _ _ => rfl⟩
  unfold Sort.order2
  by_cases hl : ltInt d[b]! d[a]! = true
  · rw [if_pos hl] at hw
    subst hw
    rw [if_pos hl]
    refine ⟨?_, ?_, fun t ht => ?_, ?_⟩
    · rw [World.cell?_setCell_same' _ _ _ (by simp [hs])]; rfl
    · rw [World.frozen?_setCell]; simpa using hfz
    · rw [World.cell?_setCell_other _ _ _ _ (by simp <;> omega), World.frozen?_setCell]
      simpa using h t ht
    · exact ⟨rfl, rfl, rfl, by simp [World.setCell], fun k hk hk2 => (Below.heap_setCell _ _ _ _ (fun e => hk2 (by rw [e]))).trans rfl⟩
  · rw [if_neg hl] at hw
    subst hw
    rw [if_neg hl]
    exact ⟨by simpa using hs, by simpa using hfz, fun t ht => by simpa using h t ht, hg0⟩
theorem order_lt {d : Array Int} {a b n N : Nat} (ha : a < N) (hb : b < N) : (Sort.order2 ltInt d a b n).1 < N ∧ (Sort.order2 ltInt d a b n).2.1 < N ∧ (Sort.order2 ltInt d a b n).2.2 ≤ n + 1 := by
  unfold Sort.order2; split <;> simp <;> omega
set_option maxRecDepth 100000 in
set_option maxHeartbeats 2000000 in
theorem median_rel (blk off cap a b c s n : Nat) (d : Array Int) (w : World) (h : Holds (Value.int .u32) w blk off d) (hne : blk ≠ s) (ha : a < d.size) (hb : b < d.size) (hc : c < d.size) (hsz : d.size < 2305843009213693952) (hs : w.cell? ⟨s, 0, none⟩ = some (.int .i64 n)) (hfz : w.frozen? ⟨s, 0, none⟩ = false) (hn : n < 50) :
    Calls Try.prog 98 #[.slice (some ⟨blk, off, none⟩) d.size cap, .int .i64 a, .int .i64 b, .int .i64 c, .pointer (some ⟨s, 0, none⟩)] w fun e w' =>
      e = .returned (.int .i64 (Sort.median ltInt d a b c n).1) ∧ w'.cell? ⟨s, 0, none⟩ = some (.int .i64 (Sort.median ltInt d a b c n).2) ∧ w'.frozen? ⟨s, 0, none⟩ = false ∧ Holds (Value.int .u32) w' blk off d ∧ w.grownBy w' (some s) := by
  obtain ⟨r1, hr1⟩ : ∃ r, Sort.order2 ltInt d a b n = r := ⟨_, rfl⟩
  have l1 := order_lt (d := d) (n := n) ha hb
  rw [hr1] at l1
  obtain ⟨r2, hr2⟩ : ∃ r, Sort.order2 ltInt d r1.2.1 c r1.2.2 = r := ⟨_, rfl⟩
  have l2 := order_lt (d := d) (n := r1.2.2) l1.2.1 hc
  rw [hr2] at l2
  obtain ⟨r3, hr3⟩ : ∃ r, Sort.order2 ltInt d r1.1 r2.1 r2.2.2 = r := ⟨_, rfl⟩
  have HM : Hid (Sort.median ltInt d a b c n = (r3.2.1, r3.2.2)) := by
    show _ = _
    simp only [Sort.median, hr1, hr2, hr3]
  have HO1 : Hid (∀ W, Holds (Value.int .u32) W blk off d → W.cell? ⟨s, 0, none⟩ = some (.int .i64 n) → W.frozen? ⟨s, 0, none⟩ = false → Calls Try.prog 101 #[.slice (some ⟨blk, off, none⟩) d.size cap, .int .i64 a, .int .i64 b, .pointer (some ⟨s, 0, none⟩)] W fun e w' => e = .returned (.tuple #[.int .i64 r1.1, .int .i64 r1.2.1]) ∧ w'.cell? ⟨s, 0, none⟩ = some (.int .i64 r1.2.2) ∧ w'.frozen? ⟨s, 0, none⟩ = false ∧ Holds (Value.int .u32) w' blk off d ∧ W.grownBy w' (some s)) := fun W h1 h2 h3 => by
    have := order_rel blk off cap a b s n d W h1 hne ha hb hsz h2 h3 (by omega); rw [hr1] at this; exact this
  have HO2 : Hid (∀ W, Holds (Value.int .u32) W blk off d → W.cell? ⟨s, 0, none⟩ = some (.int .i64 r1.2.2) → W.frozen? ⟨s, 0, none⟩ = false → Calls Try.prog 101 #[.slice (some ⟨blk, off, none⟩) d.size cap, .int .i64 r1.2.1, .int .i64 c, .pointer (some ⟨s, 0, none⟩)] W fun e w' => e = .returned (.tuple #[.int .i64 r2.1, .int .i64 r2.2.1]) ∧ w'.cell? ⟨s, 0, none⟩ = some (.int .i64 r2.2.2) ∧ w'.frozen? ⟨s, 0, none⟩ = false ∧ Holds (Value.int .u32) w' blk off d ∧ W.grownBy w' (some s)) := fun W h1 h2 h3 => by
    have := order_rel blk off cap r1.2.1 c s r1.2.2 d W h1 hne l1.2.1 hc hsz h2 h3 (by omega); rw [hr2] at this; exact this
  have HO3 : Hid (∀ W, Holds (Value.int .u32) W blk off d → W.cell? ⟨s, 0, none⟩ = some (.int .i64 r2.2.2) → W.frozen? ⟨s, 0, none⟩ = false → Calls Try.prog 101 #[.slice (some ⟨blk, off, none⟩) d.size cap, .int .i64 r1.1, .int .i64 r2.1, .pointer (some ⟨s, 0, none⟩)] W fun e w' => e = .returned (.tuple #[.int .i64 r3.1, .int .i64 r3.2.1]) ∧ w'.cell? ⟨s, 0, none⟩ = some (.int .i64 r3.2.2) ∧ w'.frozen? ⟨s, 0, none⟩ = false ∧ Holds (Value.int .u32) w' blk off d ∧ W.grownBy w' (some s)) := fun W h1 h2 h3 => by
    have := order_rel blk off cap r1.1 r2.1 s r2.2.2 d W h1 hne l1.1 l2.1 hsz h2 h3 (by omega); rw [hr3] at this; exact this
  rw [HM.out]
  have H0 : Hid (Holds (Value.int .u32) w blk off d) := h
  have HS : Hid (w.cell? ⟨s, 0, none⟩ = some (.int .i64 n)) := hs
  clear hr1 hr2 hr3 l1 l2 h hs
  obtain ⟨x1, y1, n1⟩ := r1
  obtain ⟨x2, y2, n2⟩ := r2
  obtain ⟨x3, y3, n3⟩ := r3
  dsimp only at *
  generalize d.size = N at *
  go_enter Try.func98, Try.ntmps98
  go_wp2_with (first
    | (go_at_call 101; refine (HO3.out _ h2 c2 f2).mono ?_; rintro e w3 ⟨rfl, c3, f3, h3, g3⟩)
    | (go_at_call 101; refine (HO2.out _ h1 c1 f1).mono ?_; rintro e w2 ⟨rfl, c2, f2, h2, g2⟩)
    | (go_at_call 101; refine (HO1.out _ H0.out HS.out hfz).mono ?_; rintro e w1 ⟨rfl, c1, f1, h1, g1⟩))
  go_ret
  exact ⟨rfl, c3, f3, h3, (g1.trans g2).trans g3⟩
end Go.Proofs.Ytkpijoogaicodaa
