/-
  slices.IndexFunc and slices.DeleteFunc over pieces: those that have no number go.
-/
import Derived.Test.YtagnnocecfoggaaCl
import Derived.Laws.CopyRow
import Derived.Lib.AppendZeros
namespace Go.Proofs.Ytagnnocecfoggaa
open Go.RowKit
set_option linter.unusedVariables false
set_option linter.unusedSimpArgs false
def pn (p : Pc) : Bool := decide (p.n = 0)
abbrev pnv : Value := .func (.func 56) #[] #[]
/-- The first piece that has none: its number, or -1. -/
def idxZ (l : List Pc) : Int := if l.findIdx pn < l.length then (l.findIdx pn : Int) else -1
set_option maxRecDepth 100000 in
set_option maxHeartbeats 1000000 in
theorem index_any {w : World} {a : Option Addr} {cap : Nat} {l : List Pc} (hr : Rd Pc.c 3 w a l) (hl : l.length ≤ 10000) :
    Calls Try.prog 68 #[.slice a l.length cap, pnv] w fun e w' => e = .returned (.int .i64 (idxZ l)) ∧ Below w.heap.size w w' := by
  have HR : Hid (Rd Pc.c 3 w a l) := hr
  obtain ⟨R, hR⟩ : ∃ R, Hid (idxZ l = R) := ⟨_, rfl⟩
  rw [hR.out]
  obtain ⟨N, hN⟩ : ∃ N, Hid (N = l.length) := ⟨_, rfl⟩
  rw [← hN.out] at hl ⊢
  clear hr
  go_enter Try.func68, Try.ntmps68
  go_wp2_with fail
  go_loopw [8] (fun i wr => ∃ k : Nat, k ≤ N ∧ i = .int .i64 k ∧ Hid (Below w.heap.size w wr ∧ ∀ j t, j < k → l[j]? = some t → pn t = false)) (fun i _ => ((N : Int) - intOf i).toNat)
  case atStart => exact ⟨0, Nat.zero_le _, rfl, Below.refl _ _, fun j t h => absurd h (Nat.not_lt_zero _)⟩
  case round =>
    obtain ⟨k, hk, rfl, HB⟩ := hrel
    rcases Nat.lt_or_ge k N with hkN | hkN
    · have hkz : (k : Int) < N := by omega
      obtain ⟨t, ht⟩ : ∃ t, l[k]? = some t := ⟨l[k]'(by rw [← hN.out]; omega), List.getElem?_eq_getElem _⟩
      obtain ⟨g, o, rfl, hat⟩ := (HR.out.below HB.out.1).at_ ht
      obtain ⟨t0, t1, t2⟩ := hat.p
      have HT : Hid (l[k]? = some t) := ht
      have HC : Hid (∀ W, Calls Try.prog 56 #[t.v] W fun e w' => e = .returned (.bool (pn t)) ∧ Below W.heap.size W w') := fun W => (isnone_any W t).mono fun e w' ⟨h1, h2⟩ => ⟨h1, by rw [h2]; exact (Below.refl _ _).alloc (Nat.le_refl _) _⟩
      clear ht hat
      cases hp : pn t
      · rw [hp] at HC
        go_wp2_with (go_at_call 56; refine (HC.out _).mono ?_; rintro e w1 ⟨rfl, hb1⟩; have HI2 : Hid (Below w.heap.size w w1) := HB.out.1.trans (hb1.mono HB.out.1.size); clear hb1)
        go_roundw
        case rel => 
          refine ⟨k + 1, by omega, by go_num, HI2.out, fun j t' hj ht' => ?_⟩
          by_cases e : j = k
          · subst e; rw [HT.out] at ht'; cases ht'; exact hp
          · exact HB.out.2 j t' (by omega) ht'
        case measure => simp [intOf]; omega
      · rw [hp] at HC
        go_wp2_with (go_at_call 56; refine (HC.out _).mono ?_; rintro e w1 ⟨rfl, hb1⟩; have HI2 : Hid (Below w.heap.size w w1) := HB.out.1.trans (hb1.mono HB.out.1.size); clear hb1)
        go_ret
        refine ⟨?_, HI2.out⟩
        rw [← hR.out]
        have hf : l.findIdx pn = k := by
          rw [List.findIdx_eq (by rw [← hN.out]; exact hkN)]
          obtain ⟨h1, h2⟩ := List.getElem?_eq_some_iff.1 HT.out
          refine ⟨by rw [h2]; exact hp, fun j hj => ?_⟩
          exact HB.out.2 j _ hj (List.getElem?_eq_getElem (by rw [← hN.out]; omega))
        unfold idxZ
        rw [hf, if_pos (by rw [← hN.out]; exact hkN)]
        rfl
    · obtain rfl : k = N := by omega
      have hz : ¬ ((k : Int) < k) := by omega
      go_wp2_with fail
      go_ret
      refine ⟨?_, HB.out.1⟩
      rw [← hR.out]
      unfold idxZ
      rw [if_neg]
      · rfl
      · rw [List.findIdx_lt_length]
        rintro ⟨x, hx, hpx⟩
        obtain ⟨j, hj, rfl⟩ := List.getElem_of_mem hx
        have := HB.out.2 j _ (by rw [hN.out]; exact hj) (List.getElem?_eq_getElem hj)
        rw [this] at hpx; cases hpx
end Go.Proofs.Ytagnnocecfoggaa
