import Derived.Test.YtbnllobofndckaaCp
namespace Go.Proofs.Ytbnllobofndckaa
open Go.RowKit
set_option linter.unusedVariables false
set_option linter.unusedSimpArgs false
/-- A pointer to a block. -/
abbrev ptr (b : Nat) : Value := .pointer (some ⟨b, 0, none⟩)
/-- A reader's cells. -/
abbrev rdC (ra : Option Addr) (n rc : Nat) (kv : Value) (u : ByteArray) (s k : Int) (vv : Value) : List Value := [.slice ra n rc, kv, .string u, .int .u64 s, .int .i64 k, vv]
/-- Block rb is a reader: l is what is still to be read, ky the bytes of the key that was read last. -/
structure Rst (os bs : Nat) (w : World) (rb : Nat) (l ky : List Int) (ra : Option Addr) (rc : Nat) (kv : Value) (u : ByteArray) (s k : Int) (vv : Value) : Prop where
  blk : Blk w rb 88 (rdC ra l.length rc kv u s k vv)
  arg : Arg w ra l.length rc l
  cap : l.length ≤ rc
  row : w.ownsRow bs 5 1 kv ky.length (bc ky)
  nr : l ≠ [] → ∀ b o, ra = some ⟨b, o, none⟩ → b ≠ rb ∧ kv.ownBlock ≠ some b
  nk : kv.ownBlock ≠ some rb
  ge : bs ≤ rb
  old : l ≠ [] → ∀ b o, ra = some ⟨b, o, none⟩ → b < os
  osle : os ≤ bs
/-- An ending by a panic with an error. -/
abbrev pnk (c : Int) : Ending := .panicked [{ v := .iface 24 (.int .i64 c), recovered := false }]
theorem must_yes (w : World) : Calls Try.prog 83 #[.bool true] w fun e w' => e = .returned (.tuple #[]) ∧ w' = w := by
  go_enter Try.func83, Try.ntmps83
  go_wp2
  go_end0
  exact ⟨rfl, rfl⟩
theorem must_no (w : World) : Calls Try.prog 83 #[.bool false] w fun e w' => e = pnk 3 ∧ w' = w := by
  go_enter Try.func83, Try.ntmps83
  go_wp2
  exact ⟨rfl, rfl, rfl⟩
theorem row_upd5 {bs : Nat} {S : Nat → Prop} {w w' : World} {v : Value} {n : Nat} {xs : List Value} (h : w.ownsRow bs 5 1 v n xs) (u : Upd S w w') (hS : ∀ k, v.ownBlock = some k → ¬ S k) : w'.ownsRow bs 5 1 v n xs := row_upd h u hS
theorem Rst.upd {os bs : Nat} {w w' : World} {rb : Nat} {l ky : List Int} {ra : Option Addr} {rc : Nat} {kv : Value} {u : ByteArray} {s k : Int} {vv : Value} (h : Rst os bs w rb l ky ra rc kv u s k vv) {S : Nat → Prop} (up : Upd S w w') (h1 : ¬ S rb) (h2 : l ≠ [] → ∀ b o, ra = some ⟨b, o, none⟩ → ¬ S b) (h3 : ∀ j, kv.ownBlock = some j → ¬ S j) : Rst os bs w' rb l ky ra rc kv u s k vv := by
  refine ⟨h.blk.upd up h1, ?_, h.cap, row_upd5 h.row up h3, h.nr, h.nk, h.ge, h.old, h.osle⟩
  by_cases hl : l = []
  · obtain ⟨a1, a2, a3, _⟩ := h.arg
    exact ⟨a1, a2, a3, .inl hl⟩
  · exact h.arg.upd up (h2 hl)
theorem Rst.below {os bs : Nat} {w w' : World} {rb : Nat} {l ky : List Int} {ra : Option Addr} {rc : Nat} {kv : Value} {u : ByteArray} {s k : Int} {vv : Value} (h : Rst os bs w rb l ky ra rc kv u s k vv) (hb : Below w.heap.size w w') : Rst os bs w' rb l ky ra rc kv u s k vv :=
  h.upd (S := Non) (Upd.ofBelow hb) id (fun _ _ _ _ => id) (fun _ _ => id)
/-- The rest moves on. -/
theorem Rst.adv {os bs : Nat} {w : World} {rb : Nat} {l ky : List Int} {ra : Option Addr} {rc : Nat} {kv : Value} {u : ByteArray} {s k : Int} {vv : Value} (h : Rst os bs w rb l ky ra rc kv u s k vv) {n : Nat} (hn : n ≤ l.length) :
    Rst os bs (w.setCell ⟨rb, 0, none⟩ (.slice (cutA ra rc n) (l.length - n) (rc - n))) rb (l.drop n) ky (cutA ra rc n) (rc - n) kv u s k vv ∧ Upd (fun j => j = rb) w (w.setCell ⟨rb, 0, none⟩ (.slice (cutA ra rc n) (l.length - n) (rc - n))) := by
  have up : Upd (fun j => j = rb) w (w.setCell ⟨rb, 0, none⟩ (.slice (cutA ra rc n) (l.length - n) (rc - n))) := (Upd.refl (fun j => j = rb) w).setCell (p := ⟨rb, 0, none⟩) (fun _ => rfl) _
  have hcut : l.drop n ≠ [] → ∀ b o, cutA ra rc n = some ⟨b, o, none⟩ → b ≠ rb ∧ kv.ownBlock ≠ some b := fun hl b o e => by
    have hl' : l ≠ [] := fun e => hl (by rw [e]; simp)
    rcases h.arg.2.2.2 with hh | ⟨b2, o2, e2, _, _⟩
    · exact absurd hh hl'
    · rw [e2] at e
      have := cutA_blk e
      subst this
      exact h.nr hl' _ _ e2
  have hold : l.drop n ≠ [] → ∀ b o, cutA ra rc n = some ⟨b, o, none⟩ → b < os := fun hl b o e => by
    have hl' : l ≠ [] := fun e => hl (by rw [e]; simp)
    rcases h.arg.2.2.2 with hh | ⟨b2, o2, e2, _, _⟩
    · exact absurd hh hl'
    · rw [e2] at e
      have := cutA_blk e
      subst this
      exact h.old hl' _ _ e2
  refine ⟨⟨?_, ?_, by rw [List.length_drop]; have := h.cap; omega, row_upd5 h.row up (fun j hj e => h.nk (by rw [← e]; exact hj)), hcut, h.nk, h.ge, hold, h.osle⟩, up⟩
  · rw [List.length_drop]; exact h.blk.set 0 _
  · have hlo := h.arg.lo hn h.cap
    by_cases hl : l.drop n = []
    · obtain ⟨a1, a2, a3, _⟩ := hlo
      exact ⟨by rw [List.length_drop], a2, by rw [List.length_drop]; exact a3, .inl hl⟩
    · rw [List.length_drop]
      exact hlo.upd up (fun b o e => (hcut hl b o e).1)
theorem more_any {os bs : Nat} {w : World} {rb : Nat} {l ky : List Int} {ra : Option Addr} {rc : Nat} {kv : Value} {u : ByteArray} {s k : Int} {vv : Value} (h : Rst os bs w rb l ky ra rc kv u s k vv) :
    Calls Try.prog 53 #[ptr rb] w fun e w' => e = .returned (.bool (decide (0 < l.length))) ∧ w' = w := by
  have c0 := h.blk.cell1 0 _ rfl
  go_enter Try.func53, Try.ntmps53
  go_wp2
  go_ret
  refine ⟨?_, rfl⟩
  simp
theorem take_yes {os bs : Nat} {w : World} {rb : Nat} {l ky : List Int} {ra : Option Addr} {rc : Nat} {kv : Value} {u : ByteArray} {s k : Int} {vv : Value} (h : Rst os bs w rb l ky ra rc kv u s k vv) {n : Nat} (hn : n ≤ l.length) :
    Calls Try.prog 81 #[ptr rb, .int .i64 n] w fun e w' => e = .returned (.slice ra n rc) ∧ Rst os bs w' rb (l.drop n) ky (cutA ra rc n) (rc - n) kv u s k vv ∧ Upd (fun j => j = rb) w w' := by
  have c0 := h.blk.cell1 0 _ rfl
  have f0 := h.blk.frozen 0
  have HY : Hid (∀ W, Calls Try.prog 83 #[.bool true] W fun e w' => e = .returned (.tuple #[]) ∧ w' = W) := fun W => must_yes W
  obtain ⟨L, hL⟩ : ∃ L, Hid (l.length = L) := ⟨_, rfl⟩
  have hA := h.adv hn
  rw [hL.out] at c0 hA hn
  have hn' : (n : Int) ≤ (L : Int) := by omega
  have hd : decide ((n : Int) ≤ (L : Int)) = true := decide_eq_true hn'
  have h1 := fun W => bcut_lo2 ra L rc n hn W
  have h2 := fun W => bcut_hi ra L rc n (by have := h.cap; rw [hL.out] at this; omega) W
  have HA : Hid _ := hA
  clear hA h
  go_enter Try.func81, Try.ntmps81
  go_wp2_with (go_at_call 83; refine (HY.out _).mono ?_; rintro e w1 ⟨rfl, hw⟩; have hw1 := hw.symm; subst hw1; clear hw)
  go_ret
  exact ⟨rfl, HA.out.1, HA.out.2⟩
theorem take_no {os bs : Nat} {w : World} {rb : Nat} {l ky : List Int} {ra : Option Addr} {rc : Nat} {kv : Value} {u : ByteArray} {s k : Int} {vv : Value} (h : Rst os bs w rb l ky ra rc kv u s k vv) {n : Nat} (hn : l.length < n) :
    Calls Try.prog 81 #[ptr rb, .int .i64 n] w fun e w' => e = pnk 3 ∧ w' = w := by
  have c0 := h.blk.cell1 0 _ rfl
  have HY : Hid (∀ W, Calls Try.prog 83 #[.bool false] W fun e w' => e = pnk 3 ∧ w' = W) := fun W => must_no W
  obtain ⟨L, hL⟩ : ∃ L, Hid (l.length = L) := ⟨_, rfl⟩
  rw [hL.out] at c0 hn
  have hn' : ¬ (n : Int) ≤ (L : Int) := by omega
  have hd : decide ((n : Int) ≤ (L : Int)) = false := decide_eq_false hn'
  clear h
  go_enter Try.func81, Try.ntmps81
  go_wp2_with (go_at_call 83; refine (HY.out _).mono ?_; rintro e w1 ⟨rfl, hw⟩; have hw1 := hw.symm; subst hw1; clear hw)
  exact ⟨rfl, rfl, rfl⟩
end Go.Proofs.Ytbnllobofndckaa
