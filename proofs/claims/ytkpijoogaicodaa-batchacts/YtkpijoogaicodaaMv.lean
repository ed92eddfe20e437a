import Derived.Test.YtkpijoogaicodaaBa
import Derived.Test.YtkpijoogaicodaaEb
import Derived.Test.YtkpijoogaicodaaCb
namespace Go.Proofs.Ytkpijoogaicodaa
open Go.RowKit
set_option linter.unusedVariables false
set_option linter.unusedSimpArgs false

def cutBA (a : Option Addr) (cap n : Nat) : Option Addr := if cap = n then a else a.map (·.add (n * 1))
theorem elem24 : Try.prog.elem 24 = 5 := by kernel_rfl
theorem slc24 : Try.prog.underlying 24 = some (.slice (Try.prog.elem 24)) := by rw [elem24]; exact Try.underlying24
theorem bcut_lo (a : Option Addr) (len cap n : Nat) (h : n ≤ len) (W : World) : (Instr.sliceAt 24 (.slice a len cap) (some (.int .i64 n)) none none).run Try.prog W = .ok (.slice (cutBA a cap n) (len - n) (cap - n)) W := by
  have hs : (sizeOf 5).run Try.prog W = .ok 1 W := by kernel_rfl
  have hr := run_slice_l (P := Try.prog) W 24 a len cap slc24 .i64 (n : Int) (by omega) (by omega)
  rw [elem24, hs] at hr
  simp only [Result.andThen, sliced, Int.toNat_natCast] at hr
  rw [run_sliceAt_slice _ _ _ _ _ _ slc24, hr]
  rfl
theorem bcut_hi (a : Option Addr) (len cap n : Nat) (h : n ≤ cap) (W : World) : (Instr.sliceAt 24 (.slice a len cap) none (some (.int .i64 n)) none).run Try.prog W = .ok (.slice a n cap) W := by
  have hs : (sizeOf 5).run Try.prog W = .ok 1 W := by kernel_rfl
  have hr := run_slice_h (P := Try.prog) W 24 a len cap slc24 .i64 (n : Int) (by omega) (by omega)
  rw [elem24, hs] at hr
  simp only [Result.andThen, sliced, Int.toNat_natCast] at hr
  rw [run_sliceAt_slice _ _ _ _ _ _ slc24, hr]
  cases a <;> simp [Addr.add]
theorem Arg.take {w : World} {a : Option Addr} {len cap : Nat} {l : List Int} (h : Arg w a len cap l) (n : Nat) (hn : n ≤ len) : Arg w a n cap (l.take n) := by
  obtain ⟨h1, h2, h3, h4⟩ := h
  refine ⟨by rw [List.length_take]; omega, fun x hx => h2 x (List.mem_of_mem_take hx), by omega, ?_⟩
  rcases h4 with rfl | ⟨b, off, rfl, hb, hc⟩
  · exact .inl (by simp)
  · refine .inr ⟨b, off, rfl, hb, fun j hj => ?_⟩
    rw [List.length_take] at hj
    rw [List.getElem_take]
    exact hc j (by omega)
theorem Arg.drop {w : World} {a : Option Addr} {len cap : Nat} {l : List Int} (h : Arg w a len cap l) (n : Nat) (hn : n ≤ len) (hcap : len ≤ cap) : Arg w (cutBA a cap n) (len - n) (cap - n) (l.drop n) := by
  obtain ⟨h1, h2, h3, h4⟩ := h
  refine ⟨by rw [List.length_drop]; omega, fun x hx => h2 x (List.mem_of_mem_drop hx), by omega, ?_⟩
  by_cases hz : l.drop n = []
  · exact .inl hz
  · have hlt : n < len := by
      rcases Nat.lt_or_ge n len with h | h
      · exact h
      · exact absurd (List.drop_eq_nil_of_le (by omega)) hz
    rcases h4 with rfl | ⟨b, off, rfl, hb, hc⟩
    · simp at hz
    · refine .inr ⟨b, off + n, ?_, hb, fun j hj => ?_⟩
      · unfold cutBA
        rw [if_neg (by omega)]
        simp [add_at]
      · rw [List.length_drop] at hj
        rw [List.getElem_drop, Nat.add_assoc]
        exact hc (n + j) (by omega)
theorem cutBA_own (a : Option Addr) (cap n x y z t : Nat) : Value.ownBlock (.slice (cutBA a cap n) x y) = Value.ownBlock (.slice a z t) := by
  unfold cutBA
  split
  · cases a <;> rfl
  · cases a with
    | none => rfl
    | some p => simp only [Option.map_some, Value.ownBlock]; congr 1; unfold Addr.add; split <;> rfl
theorem Arg.upd {S : Nat → Prop} {w w' : World} {a : Option Addr} {len cap : Nat} {l : List Int} (h : Arg w a len cap l) (u : Upd S w w') (hS : ∀ k, Value.ownBlock (.slice a len cap) = some k → ¬ S k) : Arg w' a len cap l := by
  obtain ⟨h1, h2, h3, h4⟩ := h
  refine ⟨h1, h2, h3, ?_⟩
  rcases h4 with h4 | ⟨b, off, rfl, hlt, hc⟩
  · exact .inl h4
  · refine .inr ⟨b, off, rfl, Nat.lt_of_lt_of_le hlt u.size, fun j hj => ?_⟩
    rw [World.cell?_of_block (a := ⟨b, off + j, none⟩) (u.block b hlt (hS b rfl))]; exact hc j hj

/-- Block rb is a reader of these bytes. -/
def Rdr (w : World) (rb : Nat) (l : List Int) : Prop := ∃ a cap, Blk w rb 85 [.slice a l.length cap] ∧ Arg w a l.length cap l ∧ l.length ≤ cap ∧ ∀ k, Value.ownBlock (.slice a l.length cap) = some k → k + 3 < rb
def At (rb : Nat) : Nat → Prop := fun k => k = rb
theorem Rdr.below {w w' : World} {rb : Nat} {l : List Int} (h : Rdr w rb l) (hb : Below w.heap.size w w') : Rdr w' rb l := by
  obtain ⟨a, cap, h1, h2, h3, h4⟩ := h
  exact ⟨a, cap, h1.upd (S := Non) (Upd.ofBelow hb) (fun hh => hh), h2.below hb, h3, h4⟩
/-- An ending by a panic with an error. -/
abbrev pnk (c : Int) : Ending := .panicked [{ v := .iface 25 (.int .i64 c), recovered := false }]

set_option maxRecDepth 100000 in
set_option maxHeartbeats 1000000 in
theorem must_yes (w : World) : Calls Try.prog 73 #[.bool true] w fun e w' => e = .returned (.tuple #[]) ∧ w' = w := by
  go_enter Try.func73, Try.ntmps73
  go_wp2
  go_end0
  exact ⟨rfl, rfl⟩
set_option maxRecDepth 100000 in
set_option maxHeartbeats 1000000 in
theorem must_no (w : World) : Calls Try.prog 73 #[.bool false] w fun e w' => e = pnk 3 ∧ w' = w := by
  go_enter Try.func73, Try.ntmps73
  go_wp2
  exact ⟨rfl, rfl, rfl⟩
set_option maxRecDepth 100000 in
set_option maxHeartbeats 1000000 in
theorem take_no {w : World} {rb : Nat} {l : List Int} (h : Rdr w rb l) (n : Nat) (hn : l.length < n) :
    Calls Try.prog 72 #[ptr rb, .int .i64 n] w fun e w' => e = pnk 4 ∧ w' = w := by
  obtain ⟨a, cap, hB, hA, hcap, hlt⟩ := h
  have c0 := hB.cell1 0 _ rfl
  have hn' : (l.length : Int) < (n : Int) := by omega
  go_enter Try.func72, Try.ntmps72
  go_wp2
  exact ⟨rfl, rfl, rfl⟩
set_option maxRecDepth 100000 in
set_option maxHeartbeats 1000000 in
theorem take_yes {w : World} {rb : Nat} {l : List Int} (h : Rdr w rb l) (n : Nat) (hn : n ≤ l.length) :
    Calls Try.prog 72 #[ptr rb, .int .i64 n] w fun e w' => ∃ a cap, e = .returned (.slice a n cap) ∧ Arg w' a n cap (l.take n) ∧ n ≤ cap ∧ Rdr w' rb (l.drop n) ∧ Upd (At rb) w w' := by
  obtain ⟨a, cap, hB, hA, hcap, hlt⟩ := h
  have c0 := hB.cell1 0 _ rfl
  have f0 := hB.frozen 0
  have hn' : (n : Int) ≤ (l.length : Int) := by omega
  have h1 := bcut_lo a l.length cap n hn
  have h2 := bcut_hi a l.length cap n (by omega)
  go_enter Try.func72, Try.ntmps72
  go_wp2
  go_ret
  have U : Upd (At rb) w (w.setCell ⟨rb, 0, none⟩ (.slice (cutBA a cap n) (l.length - n) (cap - n))) := Upd.setCell (p := ⟨rb, 0, none⟩) (Upd.refl (At rb) w) (fun _ => rfl) _
  have hS : ∀ k, Value.ownBlock (.slice a l.length cap) = some k → ¬ At rb k := fun k hk e => by have := hlt k hk; unfold At at e; omega
  refine ⟨a, cap, rfl, (hA.take n hn).upd U (fun k hk => hS k (by cases a <;> exact hk)), by omega, ⟨cutBA a cap n, cap - n, ?_, ?_, by rw [List.length_drop]; omega, ?_⟩, U⟩
  · rw [List.length_drop]; exact hB.set 0 _
  · rw [List.length_drop]; exact (hA.drop n hn hcap).upd U (fun k hk => hS k (by rw [cutBA_own _ _ _ _ _ l.length cap] at hk; exact hk))
  · intro k hk
    rw [cutBA_own _ _ _ _ _ l.length cap] at hk
    exact hlt k hk
end Go.Proofs.Ytkpijoogaicodaa
namespace Go.Proofs.Ytkpijoogaicodaa
set_option linter.unusedVariables false
set_option linter.unusedSimpArgs false

theorem p7 (i : Nat) : (2 : Int) ^ (7 * (i + 1)) = 128 * 2 ^ (7 * i) := by
  rw [Nat.mul_add, Int.pow_add, Int.mul_comm]; rfl
theorem p7_pos (i : Nat) : (1 : Int) ≤ 2 ^ (7 * i) := by
  have : (0 : Int) < 2 ^ (7 * i) := Int.pow_pos (by decide)
  omega
theorem p7_9 : (2 : Int) ^ (7 * 9) = 9223372036854775808 := by decide
theorem p7_mono (i : Nat) (h : i ≤ 9) : (2 : Int) ^ (7 * i) ≤ 9223372036854775808 := by
  have : i = 0 ∨ i = 1 ∨ i = 2 ∨ i = 3 ∨ i = 4 ∨ i = 5 ∨ i = 6 ∨ i = 7 ∨ i = 8 ∨ i = 9 := by omega
  rcases this with h | h | h | h | h | h | h | h | h | h <;> subst h <;> decide
theorem p7_le8 (i : Nat) (h : i ≤ 8) : (2 : Int) ^ (7 * i) ≤ 72057594037927936 := by
  have : i = 0 ∨ i = 1 ∨ i = 2 ∨ i = 3 ∨ i = 4 ∨ i = 5 ∨ i = 6 ∨ i = 7 ∨ i = 8 := by omega
  rcases this with h | h | h | h | h | h | h | h | h <;> subst h <;> decide
theorem grp_bd (n c : Int) (i : Nat) : 0 ≤ grp n c i ∧ grp n c i < 18446744073709551616 := by
  simp only [grp, bits, IntKind.wrap_u64]; omega
/-- A group is joined on. -/
theorem grp_add (n c : Int) (i : Nat) (n0 : 0 ≤ n) (n1 : n < 2 ^ (7 * i)) (c0 : 0 ≤ c) (h : c % 128 * 2 ^ (7 * i) < 18446744073709551616) (hi : i ≤ 9) : grp n c i = n + c % 128 * 2 ^ (7 * i) := by
  have hp := p7_pos i
  have hp9 := p7_mono i hi
  have hx0 : 0 ≤ c % 128 * 2 ^ (7 * i) := Int.mul_nonneg (by omega) (by omega)
  unfold grp
  rw [show IntKind.u64.wrap (c % 128 * 2 ^ (7 * i)) = c % 128 * 2 ^ (7 * i) by rw [IntKind.wrap_u64]; omega]
  exact bits_join_low .u64 64 (by decide) wraps_u64 (7 * i) n _ n0 n1 (by omega) hx0 (Int.mul_emod_left _ _) (by omega)
/-- What is written is read. -/
theorem rvG_vL (rest : List Int) : ∀ (f : Nat) (m : Int) (i : Nat) (n : Int), i + f = 10 → 0 ≤ m → m < 128 ^ (f + 1) → 0 ≤ n → n < 2 ^ (7 * i) → n + m * 2 ^ (7 * i) < 18446744073709551616 → (i = 0 ∨ 0 < m) → i ≤ 9 →
    rvG (vL f m ++ rest) i n = (n + m * 2 ^ (7 * i), (i : Int) + (vL f m).length, 0)
  | 0, m, i, n, hf, _, _, _, _, _, _, h9 => by omega
  | f + 1, m, i, n, hf, m0, m1, n0, n1, hs, hz, h9 => by
    have hp := p7_pos i
    have hmp : 0 ≤ m * 2 ^ (7 * i) := Int.mul_nonneg m0 (by omega)
    by_cases hm : m < 128
    · rw [vL_last _ m hm]
      have hmm : m % 128 = m := by omega
      have h9c : ¬ (i = 9 ∧ 1 < m) := by
        rintro ⟨rfl, hm1⟩
        rw [p7_9] at hs
        omega
      have hgrp := grp_add n m i n0 n1 m0 (by rw [hmm]; omega) h9
      rw [hmm] at hgrp
      show rvG (m :: rest) i n = _
      unfold rvG
      rw [if_neg h9c, if_neg (by omega), if_pos hm, hgrp]
      simp
    · rw [vL_more f m (by omega)]
      have hi8 : i ≤ 8 := by
        rcases Nat.lt_or_ge i 9 with h | h
        · omega
        · have : i = 9 := by omega
          subst this
          rw [p7_9] at hs
          omega
      have h8 := p7_le8 i hi8
      have hc : (m % 128 + 128) % 128 = m % 128 := by omega
      have hlow0 : 0 ≤ m % 128 * 2 ^ (7 * i) := Int.mul_nonneg (by omega) (by omega)
      have hlow : m % 128 * 2 ^ (7 * i) ≤ 127 * 2 ^ (7 * i) := Int.mul_le_mul_of_nonneg_right (by omega) (by omega)
      have hgrp := grp_add n (m % 128 + 128) i n0 n1 (by omega) (by rw [hc]; omega) h9
      rw [hc] at hgrp
      have hsplit : m * 2 ^ (7 * i) = m % 128 * 2 ^ (7 * i) + m / 128 * 2 ^ (7 * (i + 1)) := by
        rw [p7, ← Int.mul_assoc, ← Int.add_mul]
        congr 1
        omega
      have ih := rvG_vL rest f (m / 128) (i + 1) (n + m % 128 * 2 ^ (7 * i)) (by omega) (by omega) (by rw [Int.pow_succ] at m1; omega) (by omega) (by rw [p7]; omega) (by omega) (.inr (by omega)) (by omega)
      show rvG ((m % 128 + 128) :: (vL f (m / 128) ++ rest)) i n = _
      unfold rvG
      rw [if_neg (by omega), if_neg (by omega), if_neg (by omega), hgrp, ih, hsplit]
      simp only [List.length_cons, Prod.mk.injEq, and_true]
      constructor <;> omega
theorem rvG_enc (m : Int) (rest : List Int) (m0 : 0 ≤ m) (m1 : m < 18446744073709551616) : rvG (vL 10 m ++ rest) 0 0 = (m, ((vL 10 m).length : Int), 0) := by
  have h := rvG_vL rest 10 m 0 0 rfl m0 (by show m < 128 ^ 11; omega) (by decide) (by decide) (by simpa using m1) (.inl rfl) (by decide)
  rw [h]; simp
/-- What is read was written so. -/
theorem rvG_dec : ∀ (l : List Int) (i : Nat) (n v : Int) (t : Int), (∀ c ∈ l, 0 ≤ c ∧ c < 256) → i ≤ 9 → 0 ≤ n → n < 2 ^ (7 * i) → rvG l i n = (v, t, 0) →
    ∃ (m : Int) (s : Nat), t = (i : Int) + s ∧ v = n + m * 2 ^ (7 * i) ∧ 0 ≤ m ∧ (i = 0 ∨ 0 < m) ∧ s ≤ l.length ∧ vL (10 - i) m = l.take s
  | [], i, n, v, t, _, _, _, _, h => by simp [rvG] at h
  | c :: l, i, n, v, t, hb, h9, n0, n1, h => by
    have hc := hb c (by simp)
    have hp := p7_pos i
    unfold rvG at h
    split at h
    · simp at h
    · rename_i h1
      split at h
      · simp at h
      · rename_i h2
        split at h
        · rename_i h3
          have hcm : c % 128 = c := by omega
          have hfit : c * 2 ^ (7 * i) < 18446744073709551616 := by
            rcases Nat.lt_or_ge i 9 with h | h
            · have := p7_le8 i (by omega)
              have : c * 2 ^ (7 * i) ≤ 127 * 2 ^ (7 * i) := Int.mul_le_mul_of_nonneg_right (by omega) (by omega)
              omega
            · have : i = 9 := by omega
              subst this
              rw [p7_9]
              omega
          have hgrp := grp_add n c i n0 n1 hc.1 (by rw [hcm]; exact hfit) h9
          rw [hcm] at hgrp
          simp only [Prod.mk.injEq, and_true] at h
          refine ⟨c, 1, by omega, by rw [← h.1, hgrp], hc.1, by omega, by simp, ?_⟩
          rw [vL_last _ c h3]; simp
        · rename_i h3
          have hi8 : i ≤ 8 := by omega
          have h8 := p7_le8 i hi8
          have hlow0 : 0 ≤ c % 128 * 2 ^ (7 * i) := Int.mul_nonneg (by omega) (by omega)
          have hlow : c % 128 * 2 ^ (7 * i) ≤ 127 * 2 ^ (7 * i) := Int.mul_le_mul_of_nonneg_right (by omega) (by omega)
          have hgrp := grp_add n c i n0 n1 hc.1 (by omega) h9
          rw [hgrp] at h
          obtain ⟨m, s, ht, hv, m0, hz, hs, hvl⟩ := rvG_dec l (i + 1) (n + c % 128 * 2 ^ (7 * i)) v t (fun x hx => hb x (by simp [hx])) (by omega) (by omega) (by rw [p7]; omega) h
          refine ⟨c % 128 + 128 * m, s + 1, by omega, ?_, by omega, by omega, by simpa using hs, ?_⟩
          · rw [hv, p7, Int.add_mul, Int.mul_comm 128 m, ← Int.mul_assoc, Int.mul_assoc m 128]
            omega
          · have e : 10 - i = (10 - (i + 1)) + 1 := by omega
            rw [e, vL_more _ _ (by omega)]
            have e1 : (c % 128 + 128 * m) % 128 + 128 = c := by omega
            have e2 : (c % 128 + 128 * m) / 128 = m := by omega
            rw [e1, e2, hvl]; simp
theorem rvG_canon {l : List Int} {v t : Int} (hb : ∀ c ∈ l, 0 ≤ c ∧ c < 256) (h : rvG l 0 0 = (v, t, 0)) : ∃ s : Nat, t = s ∧ s ≤ l.length ∧ vL 10 v = l.take s ∧ 0 ≤ v := by
  obtain ⟨m, s, ht, hv, m0, _, hs, hvl⟩ := rvG_dec l 0 0 v t hb (by decide) (by decide) (by decide) h
  have : v = m := by rw [hv]; simp
  subst this
  exact ⟨s, by simpa using ht, hs, hvl, m0⟩
/-- Fixed numbers, there and back. -/
theorem byts_leV : ∀ (l : List Int), (∀ c ∈ l, 0 ≤ c ∧ c < 256) → byts l.length (leV l) = l
  | [], _ => rfl
  | c :: l, h => by
    have hc := h c (by simp)
    rw [List.length_cons, byts_succ]
    simp only [leV]
    have e1 : (c + 256 * leV l) % 256 = c := by omega
    have e2 : (c + 256 * leV l) / 256 = leV l := by omega
    rw [e1, e2, byts_leV l (fun x hx => h x (by simp [hx]))]
end Go.Proofs.Ytkpijoogaicodaa
