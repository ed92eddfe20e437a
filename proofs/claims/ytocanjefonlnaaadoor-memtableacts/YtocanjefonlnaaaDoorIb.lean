/-
  The reference's First and Behind.
-/
import Derived.Test.YtocanjefonlnaaaDoorIa
import Derived.Test.YtocanjefonlnaaaDoorHe
import Derived.Test.YtocanjefonlnaaaDoorY
import Derived.BigQuiet
import Derived.Deep.RegionHeldLaw
namespace Go.Proofs.YtocanjefonlnaaaDoor
open Go.RowKit
set_option linter.unusedVariables false
set_option linter.unusedSimpArgs false
theorem tw_stop {α : Type} (f : α → Bool) : ∀ (l : List α) (a : α), l[(l.takeWhile f).length]? = some a → f a = false
  | [], a, h => by simp at h
  | x :: l, a, h => by
    rw [List.takeWhile_cons] at h
    split at h
    · rw [List.length_cons, List.getElem?_cons_succ] at h
      exact tw_stop f l a h
    · next hx =>
      simp at h
      subst h
      simpa using hx
/-- How many entries are not behind a key. -/
def posB (how : Int) (E : List Ent) (U : ByteArray) (S K : Int) : Nat := (E.takeWhile fun e => decide (okey how e U S K ≤ 0)).length
set_option maxRecDepth 100000 in
set_option maxHeartbeats 1000000 in
theorem rfirst_any {w : World} {a : Option Addr} {E : List Ent} (h : RdE w a E) (how : Int) (c : Nat) (U : ByteArray) (S K : Int) (hN : E.length ≤ 100000) :
    Calls Tryd.prog 25 #[.int .i64 how, .slice a E.length c, .agg #[.string U, .int .u64 S, .int .i64 K]] w fun e w' => e = .returned (.int .i64 (posE how E U S K)) ∧ Below w.heap.size w w' := by
  obtain ⟨N, hNN⟩ : ∃ N, Hid (E.length = N) := ⟨_, rfl⟩
  obtain ⟨p, hp⟩ : ∃ p, Hid (posE how E U S K = p) := ⟨_, rfl⟩
  have hpN : p ≤ N := by rw [← hp.out, ← hNN.out]; exact tw_le _ _
  have HLo : Hid (∀ i x, i < p → E[i]? = some x → okey how x U S K < 0) := fun i x hi hx => by
    have := tw_lo (fun e => decide (okey how e U S K < 0)) E i x (by have h9 := hp.out; unfold posE at h9; rw [h9]; exact hi) hx
    simpa using this
  have HHi : Hid (∀ x, E[p]? = some x → ¬ okey how x U S K < 0) := fun x hx => by
    have := tw_stop (fun e => decide (okey how e U S K < 0)) E x (by have h9 := hp.out; unfold posE at h9; rw [h9]; exact hx)
    simpa using this
  have hK0 : Blk (w.alloc (.cells #[.string U, .int .u64 S, .int .i64 K] 38)) w.heap.size 38 [.string U, .int .u64 S, .int .i64 K] := Blk.new w 38 _
  have hb0 : Below w.heap.size w (w.alloc (.cells #[.string U, .int .u64 S, .int .i64 K] 38)) := (Below.refl _ _).alloc (Nat.le_refl _) _
  obtain ⟨W0, hW0⟩ : ∃ W0, Hid (w.alloc (.cells #[.string U, .int .u64 S, .int .i64 K] 38) = W0) := ⟨_, rfl⟩
  rw [hW0.out] at hK0 hb0
  have H0 : Hid (Blk W0 w.heap.size 38 [.string U, .int .u64 S, .int .i64 K] ∧ Below w.heap.size w W0) := ⟨hK0, hb0⟩
  have HR : Hid (RdE w a E) := h
  rw [hNN.out] at hN ⊢
  rw [hp.out]
  clear h hK0 hb0
  go_enter Tryd.func25, Tryd.ntmps25
  go_upto_region 1 with fail
  rw [hW0.out]
  go_wp2_with fail
  go_loopw [7] (fun i wr => ∃ k : Nat, k ≤ p ∧ i = .int .i64 k ∧ Hid (Below W0.heap.size W0 wr)) (fun i _ => ((N : Int) - intOf i).toNat)
  case atStart => exact ⟨0, Nat.zero_le _, rfl, Below.refl _ _⟩
  case round =>
    obtain ⟨k, hk, rfl, HB⟩ := hrel
    have hbw : Below w.heap.size w wr := H0.out.2.trans (HB.out.mono H0.out.2.size)
    rcases Nat.lt_or_ge k N with hkN | hkN
    · have hkz : (k : Int) < N := by omega
      obtain ⟨x, hx⟩ : ∃ x, E[k]? = some x := ⟨_, List.getElem?_eq_getElem (by rw [hNN.out]; exact hkN)⟩
      obtain ⟨b, off, rfl, hat⟩ : ∃ b off, a = some ⟨b, off, none⟩ ∧ ∀ (j : Nat) (e : Ent), E[j]? = some e → EAt w b (off + j * 4) e := by
        rcases HR.out with h | h
        · rw [h] at hx; simp at hx
        · exact h
      obtain ⟨y0, y1, y2, y3⟩ := hat k x hx
      have HC : Hid (∀ W, Below W0.heap.size W0 W → (W.cell? ⟨b, off + k * 4, none⟩ = some (.string x.u) ∧ W.cell? ⟨b, off + k * 4 + 1, none⟩ = some (.int .u64 x.s) ∧ W.cell? ⟨b, off + k * 4 + 2, none⟩ = some (.int .i64 x.k)) ∧ W.cell? ⟨w.heap.size, 0, none⟩ = some (.string U) ∧ W.cell? ⟨w.heap.size, 1, none⟩ = some (.int .u64 S) ∧ W.cell? ⟨w.heap.size, 2, none⟩ = some (.int .i64 K)) := fun W hW => by
        have hb := H0.out.2.trans (hW.mono H0.out.2.size)
        have hq := H0.out.1.upd (S := Non) (Upd.ofBelow hW) (fun h => h)
        exact ⟨⟨keepc hb y0, keepc hb y1, keepc hb y2⟩, hq.cell1 0 _ rfl, hq.cell1 1 _ rfl, hq.cell1 2 _ rfl⟩
      obtain ⟨⟨z0, z1, z2⟩, k0, k1, k2⟩ := HC.out wr HB.out
      obtain ⟨o, ho⟩ : ∃ o, Hid (okey how x U S K = o) := ⟨_, rfl⟩
      have HO : Hid (∀ W, Calls Tryd.prog 43 #[.int .i64 how, .agg #[.string x.u, .int .u64 x.s, .int .i64 x.k], .agg #[.string U, .int .u64 S, .int .i64 K]] W fun e w' => e = .returned (.int .i64 o) ∧ Below W.heap.size W w') := fun W => by
        rw [← ho.out]
        refine (rord_any how x.u x.s x.k U S K W).mono ?_
        rintro e w' ⟨rfl, rfl⟩
        exact ⟨rfl, ((Below.refl _ _).alloc (Nat.le_refl _) _).alloc (by simp) _⟩
      have hLo : k < p → o < 0 := fun hh => by rw [← ho.out]; exact HLo.out k x hh hx
      have hHi : k = p → ¬ o < 0 := fun hh => by have h9 := HHi.out x (by rw [← hh]; exact hx); rw [← ho.out]; omega
      have HKp : Hid (∀ W, Below wr.drew.heap.size wr.drew W → (W.cell? ⟨b, off + k * 4, none⟩ = some (.string x.u) ∧ W.cell? ⟨b, off + k * 4 + 1, none⟩ = some (.int .u64 x.s) ∧ W.cell? ⟨b, off + k * 4 + 2, none⟩ = some (.int .i64 x.k)) ∧ W.cell? ⟨w.heap.size, 0, none⟩ = some (.string U) ∧ W.cell? ⟨w.heap.size, 1, none⟩ = some (.int .u64 S) ∧ W.cell? ⟨w.heap.size, 2, none⟩ = some (.int .i64 K)) := fun W hW => HC.out W (HB.out.trans ((((Below.refl _ _).drew).trans hW).mono HB.out.size))
      have hq1 : ((k : Int) < N) = True := eq_true hkz
      have hq4 : (k < N) = True := eq_true hkN
      have hd1 : decide ((k : Int) < N) = true := decide_eq_true hkz
      have hd2 : decide (k < N) = true := decide_eq_true hkN
      clear hat y0 y1 y2 y3 hx hbw
      go_wp2
      go_region_held_law (fun w' => (w'.cell? ⟨b, off + k * 4, none⟩ = some (.string x.u) ∧ w'.cell? ⟨b, off + k * 4 + 1, none⟩ = some (.int .u64 x.s) ∧ w'.cell? ⟨b, off + k * 4 + 2, none⟩ = some (.int .i64 x.k)) ∧ w'.cell? ⟨w.heap.size, 0, none⟩ = some (.string U) ∧ w'.cell? ⟨w.heap.size, 1, none⟩ = some (.int .u64 S) ∧ w'.cell? ⟨w.heap.size, 2, none⟩ = some (.int .i64 K))
        (first | (go_keep; done) | exact HKp.out _ hb5)
        ((go_at_call 43; refine (HO.out _).mono ?_; rintro e w5 ⟨rfl, hb5⟩))
      have HB6 : Hid (Below W0.heap.size W0 w5) := HB.out.trans ((((Below.refl _ _).drew).trans hb5).mono HB.out.size)
      clear hb5
      rcases Nat.lt_or_ge k p with hkp | hkp
      · have ho1 := hLo hkp
        clear hLo hHi
        go_wp2
        go_roundw
        case rel => exact ⟨k + 1, hkp, by go_num, HB6.out⟩
        case measure => simp [intOf]; omega
      · obtain rfl : k = p := by omega
        have ho1 := hHi rfl
        clear hLo hHi
        go_wp2
        go_ret
        exact ⟨rfl, H0.out.2.trans (HB6.out.mono H0.out.2.size)⟩
    · obtain rfl : k = p := by omega
      have hkz : ¬ (k : Int) < N := by omega
      have hq1 : ((k : Int) < N) = False := eq_false hkz
      have hd1 : decide ((k : Int) < N) = false := decide_eq_false hkz
      have hd2 : decide (k < N) = false := decide_eq_false (by omega)
      have hq2 : (k < N) = False := eq_false (by omega)
      have HBw : Hid (Below w.heap.size w wr) := hbw
      clear hbw hkz
      go_wp2
      first | go_quiet (fail) | go_big_quiet (fail)
      go_wp2
      go_ret
      exact ⟨rfl, belN HBw.out _⟩
set_option maxRecDepth 100000 in
set_option maxHeartbeats 1000000 in
theorem rbehind_any {w : World} {a : Option Addr} {E : List Ent} (h : RdE w a E) (how : Int) (c : Nat) (U : ByteArray) (S K : Int) (hN : E.length ≤ 100000) :
    Calls Tryd.prog 27 #[.int .i64 how, .slice a E.length c, .agg #[.string U, .int .u64 S, .int .i64 K]] w fun e w' => e = .returned (.int .i64 (posB how E U S K)) ∧ Below w.heap.size w w' := by
  obtain ⟨N, hNN⟩ : ∃ N, Hid (E.length = N) := ⟨_, rfl⟩
  obtain ⟨p, hp⟩ : ∃ p, Hid (posB how E U S K = p) := ⟨_, rfl⟩
  have hpN : p ≤ N := by rw [← hp.out, ← hNN.out]; exact tw_le _ _
  have HLo : Hid (∀ i x, i < p → E[i]? = some x → okey how x U S K ≤ 0) := fun i x hi hx => by
    have := tw_lo (fun e => decide (okey how e U S K ≤ 0)) E i x (by have h9 := hp.out; unfold posB at h9; rw [h9]; exact hi) hx
    simpa using this
  have HHi : Hid (∀ x, E[p]? = some x → ¬ okey how x U S K ≤ 0) := fun x hx => by
    have := tw_stop (fun e => decide (okey how e U S K ≤ 0)) E x (by have h9 := hp.out; unfold posB at h9; rw [h9]; exact hx)
    simpa using this
  have hK0 : Blk (w.alloc (.cells #[.string U, .int .u64 S, .int .i64 K] 38)) w.heap.size 38 [.string U, .int .u64 S, .int .i64 K] := Blk.new w 38 _
  have hb0 : Below w.heap.size w (w.alloc (.cells #[.string U, .int .u64 S, .int .i64 K] 38)) := (Below.refl _ _).alloc (Nat.le_refl _) _
  obtain ⟨W0, hW0⟩ : ∃ W0, Hid (w.alloc (.cells #[.string U, .int .u64 S, .int .i64 K] 38) = W0) := ⟨_, rfl⟩
  rw [hW0.out] at hK0 hb0
  have H0 : Hid (Blk W0 w.heap.size 38 [.string U, .int .u64 S, .int .i64 K] ∧ Below w.heap.size w W0) := ⟨hK0, hb0⟩
  have HR : Hid (RdE w a E) := h
  rw [hNN.out] at hN ⊢
  rw [hp.out]
  clear h hK0 hb0
  go_enter Tryd.func27, Tryd.ntmps27
  go_upto_region 1 with fail
  rw [hW0.out]
  go_wp2_with fail
  go_loopw [7] (fun i wr => ∃ k : Nat, k ≤ p ∧ i = .int .i64 k ∧ Hid (Below W0.heap.size W0 wr)) (fun i _ => ((N : Int) - intOf i).toNat)
  case atStart => exact ⟨0, Nat.zero_le _, rfl, Below.refl _ _⟩
  case round =>
    obtain ⟨k, hk, rfl, HB⟩ := hrel
    have hbw : Below w.heap.size w wr := H0.out.2.trans (HB.out.mono H0.out.2.size)
    rcases Nat.lt_or_ge k N with hkN | hkN
    · have hkz : (k : Int) < N := by omega
      obtain ⟨x, hx⟩ : ∃ x, E[k]? = some x := ⟨_, List.getElem?_eq_getElem (by rw [hNN.out]; exact hkN)⟩
      obtain ⟨b, off, rfl, hat⟩ : ∃ b off, a = some ⟨b, off, none⟩ ∧ ∀ (j : Nat) (e : Ent), E[j]? = some e → EAt w b (off + j * 4) e := by
        rcases HR.out with h | h
        · rw [h] at hx; simp at hx
        · exact h
      obtain ⟨y0, y1, y2, y3⟩ := hat k x hx
      have HC : Hid (∀ W, Below W0.heap.size W0 W → (W.cell? ⟨b, off + k * 4, none⟩ = some (.string x.u) ∧ W.cell? ⟨b, off + k * 4 + 1, none⟩ = some (.int .u64 x.s) ∧ W.cell? ⟨b, off + k * 4 + 2, none⟩ = some (.int .i64 x.k)) ∧ W.cell? ⟨w.heap.size, 0, none⟩ = some (.string U) ∧ W.cell? ⟨w.heap.size, 1, none⟩ = some (.int .u64 S) ∧ W.cell? ⟨w.heap.size, 2, none⟩ = some (.int .i64 K)) := fun W hW => by
        have hb := H0.out.2.trans (hW.mono H0.out.2.size)
        have hq := H0.out.1.upd (S := Non) (Upd.ofBelow hW) (fun h => h)
        exact ⟨⟨keepc hb y0, keepc hb y1, keepc hb y2⟩, hq.cell1 0 _ rfl, hq.cell1 1 _ rfl, hq.cell1 2 _ rfl⟩
      obtain ⟨⟨z0, z1, z2⟩, k0, k1, k2⟩ := HC.out wr HB.out
      obtain ⟨o, ho⟩ : ∃ o, Hid (okey how x U S K = o) := ⟨_, rfl⟩
      have HO : Hid (∀ W, Calls Tryd.prog 43 #[.int .i64 how, .agg #[.string x.u, .int .u64 x.s, .int .i64 x.k], .agg #[.string U, .int .u64 S, .int .i64 K]] W fun e w' => e = .returned (.int .i64 o) ∧ Below W.heap.size W w') := fun W => by
        rw [← ho.out]
        refine (rord_any how x.u x.s x.k U S K W).mono ?_
        rintro e w' ⟨rfl, rfl⟩
        exact ⟨rfl, ((Below.refl _ _).alloc (Nat.le_refl _) _).alloc (by simp) _⟩
      have hLo : k < p → o ≤ 0 := fun hh => by rw [← ho.out]; exact HLo.out k x hh hx
      have hHi : k = p → ¬ o ≤ 0 := fun hh => by have h9 := HHi.out x (by rw [← hh]; exact hx); rw [← ho.out]; omega
      have HKp : Hid (∀ W, Below wr.drew.heap.size wr.drew W → (W.cell? ⟨b, off + k * 4, none⟩ = some (.string x.u) ∧ W.cell? ⟨b, off + k * 4 + 1, none⟩ = some (.int .u64 x.s) ∧ W.cell? ⟨b, off + k * 4 + 2, none⟩ = some (.int .i64 x.k)) ∧ W.cell? ⟨w.heap.size, 0, none⟩ = some (.string U) ∧ W.cell? ⟨w.heap.size, 1, none⟩ = some (.int .u64 S) ∧ W.cell? ⟨w.heap.size, 2, none⟩ = some (.int .i64 K)) := fun W hW => HC.out W (HB.out.trans ((((Below.refl _ _).drew).trans hW).mono HB.out.size))
      have hq1 : ((k : Int) < N) = True := eq_true hkz
      have hq4 : (k < N) = True := eq_true hkN
      have hd1 : decide ((k : Int) < N) = true := decide_eq_true hkz
      have hd2 : decide (k < N) = true := decide_eq_true hkN
      clear hat y0 y1 y2 y3 hx hbw
      go_wp2
      go_region_held_law (fun w' => (w'.cell? ⟨b, off + k * 4, none⟩ = some (.string x.u) ∧ w'.cell? ⟨b, off + k * 4 + 1, none⟩ = some (.int .u64 x.s) ∧ w'.cell? ⟨b, off + k * 4 + 2, none⟩ = some (.int .i64 x.k)) ∧ w'.cell? ⟨w.heap.size, 0, none⟩ = some (.string U) ∧ w'.cell? ⟨w.heap.size, 1, none⟩ = some (.int .u64 S) ∧ w'.cell? ⟨w.heap.size, 2, none⟩ = some (.int .i64 K))
        (first | (go_keep; done) | exact HKp.out _ hb5)
        ((go_at_call 43; refine (HO.out _).mono ?_; rintro e w5 ⟨rfl, hb5⟩))
      have HB6 : Hid (Below W0.heap.size W0 w5) := HB.out.trans ((((Below.refl _ _).drew).trans hb5).mono HB.out.size)
      clear hb5
      rcases Nat.lt_or_ge k p with hkp | hkp
      · have ho1 := hLo hkp
        clear hLo hHi
        go_wp2
        go_roundw
        case rel => exact ⟨k + 1, hkp, by go_num, HB6.out⟩
        case measure => simp [intOf]; omega
      · obtain rfl : k = p := by omega
        have ho1 := hHi rfl
        clear hLo hHi
        go_wp2
        go_ret
        exact ⟨rfl, H0.out.2.trans (HB6.out.mono H0.out.2.size)⟩
    · obtain rfl : k = p := by omega
      have hkz : ¬ (k : Int) < N := by omega
      have hq1 : ((k : Int) < N) = False := eq_false hkz
      have hd1 : decide ((k : Int) < N) = false := decide_eq_false hkz
      have hd2 : decide (k < N) = false := decide_eq_false (by omega)
      have hq2 : (k < N) = False := eq_false (by omega)
      have HBw : Hid (Below w.heap.size w wr) := hbw
      clear hbw hkz
      go_wp2
      first | go_quiet (fail) | go_big_quiet (fail)
      go_wp2
      go_ret
      exact ⟨rfl, belN HBw.out _⟩
end Go.Proofs.YtocanjefonlnaaaDoor
