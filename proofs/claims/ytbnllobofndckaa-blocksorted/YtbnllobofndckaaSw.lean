/-
  The law BlockSorted.
-/
import Derived.Test.YtbnllobofndckaaGt
import Derived.BigQuiet
import Derived.Deep.RegionHeldLaw
namespace Go.Proofs.Ytbnllobofndckaa
open Go.RowKit
set_option linter.unusedVariables false
set_option linter.unusedSimpArgs false
theorem elem22 : Try.prog.elem 22 = 48 := by kernel_rfl
theorem slc22 : Try.prog.underlying 22 = some (.slice (Try.prog.elem 22)) := by rw [elem22]; exact Try.underlying22
/-- Where a slice of entries begins behind its first m. -/
def cutQ (a : Option Addr) (cap m : Nat) : Option Addr := if cap = m then a else a.map (·.add (m * 4))
theorem ecut_lo (a : Option Addr) (n cap m : Nat) (h : m ≤ n) (W : World) : (Instr.sliceAt 22 (.slice a n cap) (some (.int .i64 m)) none none).run Try.prog W = .ok (.slice (cutQ a cap m) (n - m) (cap - m)) W := by
  have hs : (sizeOf 48).run Try.prog W = .ok 4 W := by kernel_rfl
  have hr := run_slice_l (P := Try.prog) W 22 a n cap slc22 .i64 (m : Int) (by omega) (by omega)
  rw [elem22, hs] at hr
  simp only [Result.andThen, sliced, Int.toNat_natCast] at hr
  rw [run_sliceAt_slice _ _ _ _ _ _ slc22, hr]
  unfold cutQ
  cases a <;> split <;> simp
theorem rde_drop {w : World} {a : Option Addr} {l : List Ent} {cap : Nat} (h : RdE w a l) (hc : l.length ≤ cap) (p : Nat) : RdE w (cutQ a cap p) (l.drop p) := by
  by_cases hp : l.length ≤ p
  · exact .inl (List.drop_eq_nil_of_le hp)
  · rcases h with h | ⟨b, off, rfl, hlt, hat⟩
    · rw [h] at hp; simp at hp
    · refine .inr ⟨b, off + p * 4, ?_, hlt, fun j e he => ?_⟩
      · unfold cutQ; rw [if_neg (by omega)]; simp [G.add_at]
      · rw [List.getElem?_drop] at he
        have := hat (p + j) e he
        rw [show off + (p + j) * 4 = off + p * 4 + j * 4 by omega] at this
        exact this
/-- A block of these entries, whatever its restarts. -/
def BlX (W : World) (xb : Nat) (how : Int) (l : List Ent) : Prop := ∃ r ba LB bcap pa PN pc N, Bl W xb how r l ba LB bcap pa PN pc N ∧ 1 ≤ r ∧ PN ≤ 100000
theorem BlX.below {W W' : World} {xb : Nat} {how : Int} {l : List Ent} (h : BlX W xb how l) (hb : Below W.heap.size W W') : BlX W' xb how l := by
  obtain ⟨r, ba, LB, bcap, pa, PN, pc, N, h1, h2, h3⟩ := h
  exact ⟨r, ba, LB, bcap, pa, PN, pc, N, h1.below hb, h2, h3⟩
theorem plc_le (r : Nat) (l : List Ent) : (plc r l).length ≤ l.length + 1 := by
  unfold plc
  split
  · simp
  · rw [pI_len]; have := wn_le r l.length; omega
theorem openX {W : World} {how : Int} {a : Option Addr} {LEN cap : Nat} {r : Nat} {l : List Ent} (hA : Arg W a LEN cap (wr8 r l)) (hcap : LEN ≤ cap) (hS : Srt how l) (hr : 1 ≤ r) (hL : LEN ≤ 4194304) :
    Calls Try.prog 15 #[.int .i64 how, .slice a LEN cap] W fun e w' => ∃ xb, e = .returned (.tuple #[ptr xb, .int .i64 0]) ∧ BlX w' xb how l ∧ Below W.heap.size W w' := by
  refine (open_any hA hcap hS hr hL).mono ?_
  rintro e w' ⟨xb, ba, LB, bcap, pa, PN, pc, N, rfl, h1, h2⟩
  refine ⟨xb, rfl, ⟨r, ba, LB, bcap, pa, PN, pc, N, h1, hr, ?_⟩, h2⟩
  have h3 := plc_le r l
  have h4 := hS.len
  rw [h1.pl] at h3
  omega
theorem argX {W : World} {base : Nat} {v : Value} {r : Nat} {l : List Ent} {LEN : Nat} (h : OwnB W base v (wr8 r l)) (hf : Fit l) (hl : (wr8 r l).length = LEN) (hL : LEN ≤ 4194304) : ∃ av cv, v = .slice av LEN cv ∧ Arg W av LEN cv (wr8 r l) := by
  obtain ⟨av, cv, e1, h1⟩ := h.arg (wr8_bd hf) (by omega)
  rw [hl] at e1 h1
  exact ⟨av, cv, e1, h1⟩
set_option maxRecDepth 100000 in
set_option maxHeartbeats 2000000 in
theorem sorted_walk {w : World} {a : Option Addr} {l : List Ent} (hl : RdE w a l) (hs : ∀ e ∈ l, 0 ≤ e.s) (how : Int) (c : Nat) (hc : l.length ≤ c) (hN : l.length * 48 ≤ 140737488355328) (u : ByteArray) (s k : Int) (rr : Nat) (hrr : rr < 65536) :
    Calls Try.prog 6 #[.int .i64 how, .slice a l.length c, .agg #[.string u, .int .u64 s, .int .i64 k], .int .u16 rr] w fun e w' => e = .returned (.bool true) ∧ Below w.heap.size w w' := by
  obtain ⟨N, hNN⟩ : ∃ N, Hid (l.length = N) := ⟨_, rfl⟩
  obtain ⟨q, hq⟩ : ∃ q, rr % 1024 = q := ⟨_, rfl⟩
  have hq1 : q < 1024 := by omega
  have hrem : (rr : Int).tmod 1024 = (q : Int) := by
    have : (1024 : Int) = ((1024 : Nat) : Int) := rfl
    rw [this, ← Int.ofNat_tmod, hq]
  have hrem2 : IntKind.u16.wrap (q : Int) = q := by rw [IntKind.wrap_u16]; omega
  obtain ⟨R, hR⟩ : ∃ R : Nat, 1 + q = R := ⟨_, rfl⟩
  have hadd : (1 : Int) + (q : Int) = (R : Int) := by omega
  have HL : Hid (RdE w a l) := hl
  obtain ⟨E1, hE1⟩ : ∃ E, Hid (bldE how R l = E) := ⟨_, rfl⟩
  obtain ⟨E2, hE2⟩ : ∃ E, Hid (bldE how 1 l = E) := ⟨_, rfl⟩
  have HLv : Hid (∀ W, Calls Try.prog 17 #[] W fun e w' => e = .returned (.bool true) ∧ Below W.heap.size W w') := fun W => lives_any W
  have HB1 : Hid (∀ W, RdE W a l → Calls Try.prog 7 #[.int .i64 how, .int .i64 R, .slice a N c] W fun e w' => ∃ v, e = .returned (.tuple #[v, .int .i64 E1]) ∧ OwnB w' W.heap.size v (bldB how R l) ∧ Below W.heap.size W w') := fun W h => by
    have := build_any h hs how R c (by omega)
    rw [hNN.out, hE1.out] at this; exact this
  have HB2 : Hid (∀ W, RdE W a l → Calls Try.prog 7 #[.int .i64 how, .int .i64 1, .slice a N c] W fun e w' => ∃ v, e = .returned (.tuple #[v, .int .i64 E2]) ∧ OwnB w' W.heap.size v (bldB how 1 l) ∧ Below W.heap.size W w') := fun W h => by
    have := build_any h hs how 1 c (by omega)
    rw [hNN.out, hE2.out] at this; exact this
  have hb0 : Below w.heap.size w (w.alloc (.cells #[.string u, .int .u64 s, .int .i64 k] 33)) := (Below.refl _ _).alloc (Nat.le_refl _) _
  have hK0 : Blk (w.alloc (.cells #[.string u, .int .u64 s, .int .i64 k] 33)) w.heap.size 33 [.string u, .int .u64 s, .int .i64 k] := Blk.new w 33 _
  obtain ⟨W0, hW0⟩ : ∃ W0, Hid (w.alloc (.cells #[.string u, .int .u64 s, .int .i64 k] 33) = W0) := ⟨_, rfl⟩
  rw [hW0.out] at hb0 hK0
  have hX0 : w.heap.size < W0.heap.size := hK0.lt
  have HKc : Hid (∀ W, Below W0.heap.size W0 W → W.cell? ⟨w.heap.size, 0, none⟩ = some (.string u) ∧ W.cell? ⟨w.heap.size, 1, none⟩ = some (.int .u64 s) ∧ W.cell? ⟨w.heap.size, 2, none⟩ = some (.int .i64 k)) := fun W hW => by
    have := hK0.upd (S := Non) (Upd.ofBelow hW) id
    exact ⟨this.cell1 0 _ rfl, this.cell1 1 _ rfl, this.cell1 2 _ rfl⟩
  have HW0 : Hid (Below w.heap.size w W0 ∧ RdE W0 a l) := ⟨hb0, hl.below hb0⟩
  by_cases hz : E1 = 0 ∧ E2 = 0
  · obtain ⟨rfl, rfl⟩ := hz
    obtain ⟨hS, hr1, hr2, hln1, hBB1⟩ := srt_of hE1.out hs
    obtain ⟨_, _, _, hln2, hBB2⟩ := srt_of hE2.out hs
    rw [Int.toNat_natCast] at hln1 hBB1
    have e1 : (1 : Int).toNat = 1 := rfl
    rw [e1] at hln2 hBB2
    have hNb : N ≤ 65536 := by rw [← hNN.out]; exact hS.len
    obtain ⟨LEN1, hL1⟩ : ∃ L, (wr8 R l).length = L := ⟨_, rfl⟩
    obtain ⟨LEN2, hL2⟩ : ∃ L, (wr8 1 l).length = L := ⟨_, rfl⟩
    rw [hL1] at hln1
    rw [hL2] at hln2
    rw [hBB1] at HB1
    rw [hBB2] at HB2
    obtain ⟨K, hKK⟩ : ∃ K : Ent, K = ⟨u, s, k, ⟨#[]⟩⟩ := ⟨_, rfl⟩
    obtain ⟨S, hSe⟩ : ∃ S, Hid (skE how l K = S) := ⟨_, rfl⟩
    obtain ⟨sb, hSb⟩ : ∃ sb, Hid (skB how l K = sb) := ⟨_, rfl⟩
    obtain ⟨p, hp⟩ : ∃ p, Hid (ahd how l K = p) := ⟨_, rfl⟩
    have hpN : p ≤ N := by rw [← hp.out, ← hNN.out]; exact ahd_le how l K
    have HAs : Hid (∀ (i : Nat) (x : Ent), l[i]? = some x → decide (0 ≤ ordE how x K) = decide (p ≤ i)) := fun i x hx => by rw [← hp.out]; exact ahd_spec hS K hx
    have HA1 : Hid (∀ W base v, OwnB W base v (wr8 R l) → ∃ av cv, v = .slice av LEN1 cv ∧ Arg W av LEN1 cv (wr8 R l)) := fun W base v h => argX h hS.fit hL1 hln1
    have HA2 : Hid (∀ W base v, OwnB W base v (wr8 1 l) → ∃ av cv, v = .slice av LEN2 cv ∧ Arg W av LEN2 cv (wr8 1 l)) := fun W base v h => argX h hS.fit hL2 hln2
    have HO1 : Hid (∀ W av cv, Arg W av LEN1 cv (wr8 R l) → Calls Try.prog 12 #[.slice av LEN1 cv] W fun e w' => ∃ av' cv', e = .returned (.slice av' LEN1 cv') ∧ LEN1 ≤ cv' ∧ Arg w' av' LEN1 cv' (wr8 R l) ∧ Below W.heap.size W w') := fun W av cv h => own_any h hln1
    have HO2 : Hid (∀ W av cv, Arg W av LEN2 cv (wr8 1 l) → Calls Try.prog 12 #[.slice av LEN2 cv] W fun e w' => ∃ av' cv', e = .returned (.slice av' LEN2 cv') ∧ LEN2 ≤ cv' ∧ Arg w' av' LEN2 cv' (wr8 1 l) ∧ Below W.heap.size W w') := fun W av cv h => own_any h hln2
    have HP1 : Hid (∀ W av cv, Arg W av LEN1 cv (wr8 R l) → LEN1 ≤ cv → Calls Try.prog 15 #[.int .i64 how, .slice av LEN1 cv] W fun e w' => ∃ xb, e = .returned (.tuple #[ptr xb, .int .i64 0]) ∧ BlX w' xb how l ∧ Below W.heap.size W w') := fun W av cv h hc => openX h hc hS (by omega) hln1
    have HP2 : Hid (∀ W av cv, Arg W av LEN2 cv (wr8 1 l) → LEN2 ≤ cv → Calls Try.prog 15 #[.int .i64 how, .slice av LEN2 cv] W fun e w' => ∃ xb, e = .returned (.tuple #[ptr xb, .int .i64 0]) ∧ BlX w' xb how l ∧ Below W.heap.size W w') := fun W av cv h hc => openX h hc hS (by omega) hln2
    have HSk : Hid (∀ W xb, BlX W xb how l → Calls Try.prog 20 #[ptr xb, .agg #[.string u, .int .u64 s, .int .i64 k]] W fun e w' => e = .returned (.tuple #[.agg #[.string S.u, .int .u64 S.s, .int .i64 S.k, .string S.v], .bool sb]) ∧ Below W.heap.size W w') := fun W xb h => by
      obtain ⟨r, ba, LB, bcap, pa, PN, pc, N', h1, h2, h3⟩ := h
      have := seek_any h1 hS h2 h3 K
      rw [hSe.out, hSb.out, hKK] at this
      exact this
    have HGt : Hid (∀ W xb (i : Nat) (e : Ent), BlX W xb how l → l[i]? = some e → Calls Try.prog 21 #[ptr xb, .agg #[.string e.u, .int .u64 e.s, .int .i64 e.k]] W fun x w' => x = .returned (.tuple #[.string e.v, .bool true]) ∧ Below W.heap.size W w') := fun W xb i e h he => by
      obtain ⟨r, ba, LB, bcap, pa, PN, pc, N', h1, h2, h3⟩ := h
      exact get_any h1 hS h2 h3 he
    have HOr : Hid (∀ (e : Ent) W, Calls Try.prog 22 #[.int .i64 how, .agg #[.string e.u, .int .u64 e.s, .int .i64 e.k], .agg #[.string u, .int .u64 s, .int .i64 k]] W fun x w' => x = .returned (.int .i64 (ordE how e K)) ∧ Below W.heap.size W w') := fun e W => by
      have := cord_bel how e K W
      rw [hKK] at this ⊢
      exact this
    have HAl : Hid (∀ W z, Calls Try.prog 24 #[ptr z, .agg #[.string u, .int .u64 s, .int .i64 k]] W (Mde z K W)) := fun W z => by
      have := all_made (w := W) z K
      rw [hKK] at this ⊢
      exact this
    have HGo : Hid (∀ W xb B1 B2, BlX W xb how l → RdE W a l → W.cell? ⟨B1, 0, none⟩ = some (ptr xb) → Blk W B2 33 [.string K.u, .int .u64 K.s, .int .i64 K.k] → Calls Try.prog 23 #[.func (.func 51) #[] #[ptr B1, ptr B2], .slice (cutQ a c p) (N - p) (c - p), .int .i64 0] W fun e w' => e = .returned (.bool true) ∧ Below W.heap.size W w') := fun W xb B1 B2 h hrd m1 m2 => by
      obtain ⟨r, ba, LB, bcap, pa, PN, pc, N', h1, h2, h3⟩ := h
      have hsq := all_seq 4 (by omega) h1 hS h2 h3 K m1 m2
      rw [hp.out] at hsq
      have := goes_any (l.drop p) hsq (rde_drop hrd hc p) (c - p) (by rw [List.length_drop]; omega)
      rw [List.length_drop, hNN.out] at this
      exact this
    have HSp : Hid ((sb = true ∧ p < N ∧ l[p]? = some S) ∨ (sb = false ∧ p = N)) := by
      have hsb := hSb.out
      have hse := hSe.out
      unfold skB at hsb
      unfold skE at hse
      rw [hp.out, hNN.out] at hsb
      rw [hp.out] at hse
      rcases Nat.lt_or_ge p N with h9 | h9
      · left
        rw [decide_eq_true h9] at hsb
        refine ⟨hsb.symm, h9, ?_⟩
        have h10 : p < l.length := by rw [hNN.out]; exact h9
        rw [List.getElem?_eq_getElem h10] at hse ⊢
        simp only at hse
        rw [hse]
      · right
        rw [decide_eq_false (by omega)] at hsb
        exact ⟨hsb.symm, by omega⟩
    obtain ⟨mp, hmp⟩ : ∃ mp : Nat → Nat, Hid (∀ i, mp i = min i p) := ⟨fun i => min i p, fun _ => rfl⟩
    have hcu := fun W => ecut_lo a N c p hpN W
    have hSS := fun W => by
      have := eq_ent W S S
      rw [decide_eq_true ⟨rfl, rfl, rfl, rfl⟩] at this
      exact (this : (binOp .neq 48 (.agg #[.string S.u, .int .u64 S.s, .int .i64 S.k, .string S.v]) (.agg #[.string S.u, .int .u64 S.s, .int .i64 S.k, .string S.v])).run Try.prog W = .ok (.bool false) W)
    rw [hNN.out]
    clear hl hs hS hL1 hL2 hln1 hln2 hBB1 hBB2 hr1 hr2 hK0 hN hc hq hR hKK
    go_enter Try.func6, Try.ntmps6
    go_upto_region 1 with fail
    rw [hW0.out]
    go_wp2_with (first
      | (go_at_call 17; refine (HLv.out _).mono ?_; rintro e w1 ⟨rfl, b1⟩)
      | (go_at_call 20; have hq := b8; clear hq; refine (HSk.out _ _ y8).mono ?_; rintro e w9 ⟨rfl, b89⟩
         have bB : Below (w8.alloc (.cells #[.string S.u, .int .u64 S.s, .int .i64 S.k, .string S.v] 48)).heap.size (w8.alloc (.cells #[.string S.u, .int .u64 S.s, .int .i64 S.k, .string S.v] 48)) (w9.alloc (.cells #[.string S.u, .int .u64 S.s, .int .i64 S.k, .string S.v] 48)) := b89.alloc b89.size _
         have b9 := b8.trans (bB.mono b8.size)
         have q9 := Blk.new w9 48 S.c
         have p9 := p8.upd (S := Non) (Upd.ofBelow bB) id
         have x9 := x8.below bB
         have y9 := y8.below bB
         have s0 := p9.cell1 0 _ rfl; have s1 := p9.cell1 1 _ rfl; have s2 := p9.cell1 2 _ rfl; have s3 := p9.cell1 3 _ rfl
         have t0 := q9.cell1 0 _ rfl; have t1 := q9.cell1 1 _ rfl; have t2 := q9.cell1 2 _ rfl; have t3 := q9.cell1 3 _ rfl
         have H9 : Hid (BlX (w9.alloc (.cells #[.string S.u, .int .u64 S.s, .int .i64 S.k, .string S.v] 48)) xb how l ∧ BlX (w9.alloc (.cells #[.string S.u, .int .u64 S.s, .int .i64 S.k, .string S.v] 48)) yb how l ∧ Blk (w9.alloc (.cells #[.string S.u, .int .u64 S.s, .int .i64 S.k, .string S.v] 48)) w8.heap.size 48 S.c ∧ Below W0.heap.size W0 (w9.alloc (.cells #[.string S.u, .int .u64 S.s, .int .i64 S.k, .string S.v] 48))) := ⟨x9, y9, p9, b9⟩
         clear bB b9 q9 p9 x9 y9)
      | (go_at_call 20; have hq := b7; clear hq; refine (HSk.out _ _ x7).mono ?_; rintro e w8 ⟨rfl, b78⟩
         have bA : Below w7.heap.size w7 (w8.alloc (.cells #[.string S.u, .int .u64 S.s, .int .i64 S.k, .string S.v] 48)) := b78.alloc b78.size _
         have b8 := b7.trans (bA.mono b7.size)
         have x8 := x7.below bA
         have y8 := y7.below bA
         have p8 := Blk.new w8 48 S.c
         obtain ⟨k3, k4, k5⟩ := HKc.out _ b8)
      | (go_at_call 15; have hq := b6; clear hq; refine (HP2.out _ _ _ o6 c6).mono ?_; rintro e w7 ⟨yb, rfl, y7, b67⟩; have b7 := b6.trans (b67.mono b6.size); have x7 := x6.below b67; obtain ⟨k0, k1, k2⟩ := HKc.out _ b7)
      | (go_at_call 15; have hq := b4; clear hq; refine (HP1.out _ _ _ o4 c4).mono ?_; rintro e w5 ⟨xb, rfl, x5, b45⟩; have b5 := b4.trans (b45.mono b4.size); have z5 := z4.below b45)
      | (go_at_call 12; have hq := b5; clear hq; refine (HO2.out _ _ _ z5).mono ?_; rintro e w6 ⟨av6, cv6, rfl, c6, o6, b56⟩; have b6 := b5.trans (b56.mono b5.size); have x6 := x5.below b56)
      | (go_at_call 12; have hq := b3; clear hq; refine (HO1.out _ _ _ A1).mono ?_; rintro e w4 ⟨av4, cv4, rfl, c4, o4, b34⟩; have b4 := b3.trans (b34.mono b3.size); have z4 := A2.below b34)
      | (go_at_call 7; have hq := b2; clear hq; refine (HB2.out _ (HW0.out.2.below b2)).mono ?_; rintro e w3 ⟨v3, rfl, o3, b23⟩; have b3 := b2.trans (b23.mono b2.size)
         obtain ⟨av1, cv1, rfl, A0⟩ := HA1.out _ _ _ o2
         have A1 := A0.below b23
         obtain ⟨av2, cv2, rfl, A2⟩ := HA2.out _ _ _ o3)
      | (go_at_call 7; have hq := b1; clear hq; refine (HB1.out _ (HW0.out.2.below b1)).mono ?_; rintro e w2 ⟨v2, rfl, o2, b12⟩; have b2 := b1.trans (b12.mono b1.size)))
    obtain ⟨W9, hW9⟩ : ∃ W9, w9.alloc (.cells #[.string S.u, .int .u64 S.s, .int .i64 S.k, .string S.v] 48) = W9 := ⟨_, rfl⟩
    clear t0 t1 t2 t3 s0 s1 s2 s3
    rw [hW9] at H9 ⊢
    clear hW9
    obtain ⟨X8, hX8⟩ : ∃ X, w8.heap.size = X := ⟨_, rfl⟩
    rw [hX8] at H9 ⊢
    have HRd : Hid (∀ W, Below W9.heap.size W9 W → RdE W a l ∧ BlX W xb how l ∧ BlX W yb how l ∧ Blk W X8 48 S.c ∧ Below W0.heap.size W0 W) := fun W hW => by
      have hb := H9.out.2.2.2.trans (hW.mono H9.out.2.2.2.size)
      exact ⟨HW0.out.2.below hb, H9.out.1.below hW, H9.out.2.1.below hW, H9.out.2.2.1.upd (S := Non) (Upd.ofBelow hW) id, hb⟩
    clear hX8 k0 k1 k2 k3 k4 k5 p8 x8 y8 b8 b78 b89 bA
    go_loopw [21, 22] (fun s21 s22 wr => ∃ i : Nat, i ≤ N ∧ s21 = .int .i64 (mp i) ∧ s22 = .int .i64 i ∧ Hid (Below W9.heap.size W9 wr)) (fun _ s22 _ => N - (intOf s22).toNat)
    case atStart => exact ⟨0, Nat.zero_le _, by have := hmp.out 0; rw [this, Nat.zero_min]; rfl, rfl, Below.refl _ _⟩
    case round =>
      obtain ⟨i, hiN, rfl, rfl, HB⟩ := hrel
      have hD := HRd.out wr HB.out
      rcases Nat.lt_or_ge i N with hlt | hge
      · have hil : i < l.length := by rw [hNN.out]; exact hlt
        obtain ⟨e, he⟩ : ∃ e, l[i]? = some e := ⟨_, List.getElem?_eq_getElem hil⟩
        obtain ⟨b, off, rfl, hbl, hat⟩ := hD.1.get (Below.refl _ _) he
        obtain ⟨y0, y1, y2, y3⟩ := hat i e he
        have HG := HGt.out wr xb i e hD.2.1 he
        obtain ⟨od, hod⟩ : ∃ od, Hid (ordE how e K = od) := ⟨_, rfl⟩
        have HO := HOr.out e
        have HAe := HAs.out i e he
        rw [hod.out] at HO HAe
        have hlz : (i : Int) < (N : Int) := by omega
        have hvs : (e.v.toList != e.v.toList) = false := by simp
        have hvs2 : (e.v.toList == e.v.toList) = true := by simp
        have HYc : Hid (∀ W, Below wr.heap.size wr W → W.cell? ⟨b, off + i * 4, none⟩ = some (.string e.u) ∧ W.cell? ⟨b, off + i * 4 + 1, none⟩ = some (.int .u64 e.s) ∧ W.cell? ⟨b, off + i * 4 + 2, none⟩ = some (.int .i64 e.k) ∧ W.cell? ⟨b, off + i * 4 + 3, none⟩ = some (.string e.v)) := fun W hW => ⟨by rw [hW.cell (p := ⟨b, off + i * 4, none⟩) hbl]; exact y0, by rw [hW.cell (p := ⟨b, off + i * 4 + 1, none⟩) hbl]; exact y1, by rw [hW.cell (p := ⟨b, off + i * 4 + 2, none⟩) hbl]; exact y2, by rw [hW.cell (p := ⟨b, off + i * 4 + 3, none⟩) hbl]; exact y3⟩
        have HB0 : Hid (Below W0.heap.size W0 wr) := hD.2.2.2.2
        clear hD hat he hil hbl
        go_upto_region 22 with (go_at_call 21; refine HG.mono ?_; rintro x w10 ⟨rfl, b10⟩
                                obtain ⟨z0, z1, z2, z3⟩ := HYc.out w10 b10
                                have HB10 : Hid (Below wr.heap.size wr w10) := b10
                                obtain ⟨k0, k1, k2⟩ := HKc.out w10 (HB0.out.trans (b10.mono HB0.out.size))
                                clear b10)
        have HKp : Hid (∀ W, Below w10.drew.heap.size w10.drew W → (W.cell? ⟨b, off + i * 4, none⟩ = some (.string e.u) ∧ W.cell? ⟨b, off + i * 4 + 1, none⟩ = some (.int .u64 e.s) ∧ W.cell? ⟨b, off + i * 4 + 2, none⟩ = some (.int .i64 e.k)) ∧ W.cell? ⟨w.heap.size, 0, none⟩ = some (.string u) ∧ W.cell? ⟨w.heap.size, 1, none⟩ = some (.int .u64 s) ∧ W.cell? ⟨w.heap.size, 2, none⟩ = some (.int .i64 k)) := fun W hW => by
          have h1 : Below w10.heap.size w10 W := ((Below.refl _ _).drew).trans hW
          have h2 : Below wr.heap.size wr W := HB10.out.trans (h1.mono HB10.out.size)
          have h3 := HYc.out W h2
          exact ⟨⟨h3.1, h3.2.1, h3.2.2.1⟩, HKc.out W (HB0.out.trans (h2.mono HB0.out.size))⟩
        clear y0 y1 y2 y3
        go_region_held_law (fun w' => (w'.cell? ⟨b, off + i * 4, none⟩ = some (.string e.u) ∧ w'.cell? ⟨b, off + i * 4 + 1, none⟩ = some (.int .u64 e.s) ∧ w'.cell? ⟨b, off + i * 4 + 2, none⟩ = some (.int .i64 e.k)) ∧ w'.cell? ⟨w.heap.size, 0, none⟩ = some (.string u) ∧ w'.cell? ⟨w.heap.size, 1, none⟩ = some (.int .u64 s) ∧ w'.cell? ⟨w.heap.size, 2, none⟩ = some (.int .i64 k))
          (first | (go_keep; done) | exact HKp.out _ hb5)
          ((go_at_call 22; refine (HO _).mono ?_; rintro x w11 ⟨rfl, hb5⟩))
        have HB11 : Hid (Below W9.heap.size W9 w11) := HB.out.trans ((HB10.out.trans ((((Below.refl _ _).drew).trans hb5).mono HB10.out.size)).mono HB.out.size)
        clear hb5
        rcases Nat.lt_or_ge i p with hip | hip
        · have ho : od < 0 := by
            have h1 : decide (0 ≤ od) = false := by rw [HAe]; exact decide_eq_false (by omega)
            have h2 : ¬ 0 ≤ od := by simpa using h1
            omega
          have hm : ((mp i : Nat) : Int) + 1 = (mp (i + 1) : Nat) := by rw [hmp.out, hmp.out]; omega
          have hmb : mp i ≤ 65536 := by rw [hmp.out]; omega
          clear HAe
          go_wp2
          go_roundw
          case rel => exact ⟨i + 1, by omega, by first | rfl | go_num, by go_num, HB11.out⟩
          case measure => simp [intOf]; omega
        · have ho : ¬ od < 0 := by
            have h1 : decide (0 ≤ od) = true := by rw [HAe]; exact decide_eq_true hip
            have h2 : 0 ≤ od := by simpa using h1
            omega
          have hm : mp (i + 1) = mp i := by rw [hmp.out, hmp.out]; omega
          have HMe : Hid (mp (i + 1) = mp i) := hm
          clear HAe hm
          go_wp2
          go_roundw
          case rel => exact ⟨i + 1, by omega, by rw [HMe.out], by go_num, HB11.out⟩
          case measure => simp [intOf]; omega
      · obtain rfl : i = N := by omega
        have hmN : mp i = p := by rw [hmp.out]; omega
        rw [hmN]
        have HDr : Hid _ := hD
        clear hmN hge
        have hpb : p ≤ 65536 := by omega
        have HB0r : Hid (Below W9.heap.size W9 wr) := HB.out
        clear HB hD
        rcases HSp.out with ⟨rfl, hpl, hpS⟩ | ⟨rfl, hpl⟩
        · obtain ⟨b, off, rfl, hbl, hat⟩ := HDr.out.1.get (Below.refl _ _) hpS
          obtain ⟨y0, y1, y2, y3⟩ := hat p S hpS
          have s0 := HDr.out.2.2.2.1.cell1 0 _ rfl
          have s1 := HDr.out.2.2.2.1.cell1 1 _ rfl
          have s2 := HDr.out.2.2.2.1.cell1 2 _ rfl
          have s3 := HDr.out.2.2.2.1.cell1 3 _ rfl
          have hpz : (p : Int) < (i : Int) := by omega
          have hpd : decide ((p : Int) < (i : Int)) = true := decide_eq_true hpz
          clear hat hpS hbl HSp
          go_wp2
          first | go_quiet (fail) | go_big_quiet (fail)
          clear y0 y1 y2 y3 s0 s1 s2 s3
          go_wp2
          have bq : Below W9.heap.size wr (wr.drewN nq) := ⟨rfl, rfl, rfl, Nat.le_refl _, fun _ _ => rfl⟩
          have bdr : Below W9.heap.size W9 (wr.drewN nq).drew := (HB0r.out.trans bq).drew
          have HBD : Hid (Below W9.heap.size W9 (wr.drewN nq).drew) := bdr
          obtain ⟨k0, k1, k2⟩ := HKc.out (wr.drewN nq) (HRd.out (wr.drewN nq) (HB0r.out.trans bq)).2.2.2.2
          clear bdr bq
          go_region_held_law (fun w' => w'.cell? ⟨w.heap.size, 0, none⟩ = some (.string u) ∧ w'.cell? ⟨w.heap.size, 1, none⟩ = some (.int .u64 s) ∧ w'.cell? ⟨w.heap.size, 2, none⟩ = some (.int .i64 k))
            (first | (go_keep; done) | exact ⟨k0, k1, k2⟩ | exact HKc.out _ (HRd.out _ bg2).2.2.2.2 | exact HKc.out _ (HRd.out _ ba2).2.2.2.2 | exact HKc.out _ (HRd.out _ bg1).2.2.2.2 | exact HKc.out _ (HRd.out _ ba1).2.2.2.2)
            (first
              | (go_at_call 23; have hq := ba2; clear hq; refine (HGo.out _ yb _ _ (HRd.out _ ba2).2.2.1 (HRd.out _ ba2).1 m3 m4).mono ?_; rintro x wg2 ⟨rfl, hb2⟩; have bg2 := ba2.trans (hb2.mono ba2.size))
              | (go_at_call 24; have hq := bg1; clear hq; refine (HAl.out _ yb).mono ?_; rintro x wa2 ⟨B3, B4, rfl, m3, m4, hb2⟩; have ba2 := bg1.trans (hb2.mono bg1.size))
              | (go_at_call 23; have hq := ba1; clear hq; refine (HGo.out _ xb _ _ (HRd.out _ ba1).2.1 (HRd.out _ ba1).1 m1 m2).mono ?_; rintro x wg1 ⟨rfl, hb1⟩; have bg1 := ba1.trans (hb1.mono ba1.size))
              | (go_at_call 24; refine (HAl.out _ xb).mono ?_; rintro x wa1 ⟨B1, B2, rfl, m1, m2, hb1⟩; have ba1 := HBD.out.trans (hb1.mono HBD.out.size)))
          go_wp2
          go_ret
          exact ⟨rfl, HW0.out.1.trans ((HRd.out _ bg2).2.2.2.2.mono HW0.out.1.size)⟩
        · have hpz : ¬ (p : Int) < (i : Int) := by omega
          have hpd : decide ((p : Int) < (i : Int)) = false := decide_eq_false hpz
          have HPl : Hid (p = i) := hpl
          have hpf : ((p : Int) < (i : Int)) = False := eq_false hpz
          have hpn : ¬ p < i := by omega
          have hpnf : (p < i) = False := eq_false hpn
          have hpnd : decide (p < i) = false := decide_eq_false hpn
          clear hpl HSp hpz hpn
          go_wp2
          first | go_quiet (fail) | go_big_quiet (fail)
          go_wp2
          have bq : Below W9.heap.size wr (wr.drewN nq) := ⟨rfl, rfl, rfl, Nat.le_refl _, fun _ _ => rfl⟩
          have bdr : Below W9.heap.size W9 (wr.drewN nq).drew := (HB0r.out.trans bq).drew
          have HBD : Hid (Below W9.heap.size W9 (wr.drewN nq).drew) := bdr
          obtain ⟨k0, k1, k2⟩ := HKc.out (wr.drewN nq) (HRd.out (wr.drewN nq) (HB0r.out.trans bq)).2.2.2.2
          clear bdr bq
          go_region_held_law (fun w' => w'.cell? ⟨w.heap.size, 0, none⟩ = some (.string u) ∧ w'.cell? ⟨w.heap.size, 1, none⟩ = some (.int .u64 s) ∧ w'.cell? ⟨w.heap.size, 2, none⟩ = some (.int .i64 k))
            (first | (go_keep; done) | exact ⟨k0, k1, k2⟩ | exact HKc.out _ (HRd.out _ bg2).2.2.2.2 | exact HKc.out _ (HRd.out _ ba2).2.2.2.2 | exact HKc.out _ (HRd.out _ bg1).2.2.2.2 | exact HKc.out _ (HRd.out _ ba1).2.2.2.2)
            (first
              | (go_at_call 23; have hq := ba2; clear hq; refine (HGo.out _ yb _ _ (HRd.out _ ba2).2.2.1 (HRd.out _ ba2).1 m3 m4).mono ?_; rintro x wg2 ⟨rfl, hb2⟩; have bg2 := ba2.trans (hb2.mono ba2.size))
              | (go_at_call 24; have hq := bg1; clear hq; refine (HAl.out _ yb).mono ?_; rintro x wa2 ⟨B3, B4, rfl, m3, m4, hb2⟩; have ba2 := bg1.trans (hb2.mono bg1.size))
              | (go_at_call 23; have hq := ba1; clear hq; refine (HGo.out _ xb _ _ (HRd.out _ ba1).2.1 (HRd.out _ ba1).1 m1 m2).mono ?_; rintro x wg1 ⟨rfl, hb1⟩; have bg1 := ba1.trans (hb1.mono ba1.size))
              | (go_at_call 24; refine (HAl.out _ xb).mono ?_; rintro x wa1 ⟨B1, B2, rfl, m1, m2, hb1⟩; have ba1 := HBD.out.trans (hb1.mono HBD.out.size)))
          go_wp2
          go_ret
          exact ⟨rfl, HW0.out.1.trans ((HRd.out _ bg2).2.2.2.2.mono HW0.out.1.size)⟩
  · rw [hNN.out]
    have hz2 : ¬ E1 = 0 ∨ (E1 = 0 ∧ ¬ E2 = 0) := by
      by_cases h : E1 = 0
      · exact .inr ⟨h, fun h2 => hz ⟨h, h2⟩⟩
      · exact .inl h
    clear hl hs hN hz hb0 hK0 hX0 HKc hc hq hR
    rcases hz2 with hz2 | ⟨rfl, hz2⟩
    all_goals
      go_enter Try.func6, Try.ntmps6
      go_upto_region 1 with fail
      rw [hW0.out]
      go_wp2_with (first
        | (go_at_call 17; refine (HLv.out _).mono ?_; rintro e w1 ⟨rfl, b1⟩)
        | (go_at_call 7; have hq := b2; clear hq; refine (HB2.out _ (HW0.out.2.below b2)).mono ?_; rintro e w3 ⟨v3, rfl, o3, b23⟩; have b3 := b2.trans (b23.mono b2.size))
        | (go_at_call 7; have hq := b1; clear hq; refine (HB1.out _ (HW0.out.2.below b1)).mono ?_; rintro e w2 ⟨v2, rfl, o2, b12⟩; have b2 := b1.trans (b12.mono b1.size)))
      go_ret
      exact ⟨rfl, HW0.out.1.trans (b3.mono HW0.out.1.size)⟩
end Go.Proofs.Ytbnllobofndckaa
