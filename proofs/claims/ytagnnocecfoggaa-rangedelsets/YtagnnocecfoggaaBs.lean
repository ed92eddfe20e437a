/-
  slices.BinarySearchFunc over pieces, by their beginnings.
-/
import Derived.Test.YtagnnocecfoggaaCl
import Derived.Deep.LoopGhost
namespace Go.Proofs.Ytagnnocecfoggaa
open Go.RowKit
set_option linter.unusedVariables false
set_option linter.unusedSimpArgs false
/-- The first piece that does not begin ahead of x is number p. -/
structure PCut (how : Int) (l : List Pc) (x : ByteArray) (p : Nat) : Prop where
  le : p ≤ l.length
  lo : ∀ i t, i < p → l[i]? = some t → cmpH how t.b x < 0
  hi : ∀ i t, p ≤ i → l[i]? = some t → ¬ cmpH how t.b x < 0
set_option maxRecDepth 100000 in
set_option maxHeartbeats 2000000 in
theorem bs_any {w : World} {B C : Nat} {how : Int} (hB : w.cell? ⟨B, 0, none⟩ = some (.int .i64 how)) (hC : w.cell? ⟨C, 0, none⟩ = some (bkv B)) {a : Option Addr} {cap : Nat} {l : List Pc} (hr : Rd Pc.c 3 w a l) (x : ByteArray) (p : Nat) (hc : PCut how l x p) (hl : l.length ≤ 10000) :
    Calls Try.prog 52 #[.slice a l.length cap, .string x, .func (.func 53) #[] #[ptr C]] w fun e w' => ∃ r, e = .returned (.tuple #[.int .i64 p, .bool r]) ∧ Below w.heap.size w w' := by
  have hp := hc.le
  have HC : Hid (PCut how l x p) := hc
  have HR : Hid (Rd Pc.c 3 w a l) := hr
  have HO : Hid (∀ (W : World), Below w.heap.size w W → ∀ t : Pc, Calls Try.prog 53 #[t.v, .string x, ptr C] W fun e w' => e = .returned (.int .i64 (cmpH how t.b x)) ∧ Below W.heap.size W w') := fun W hb t => bybegin_any (cell_below hb hB) (cell_below hb hC) t x
  obtain ⟨N, hN⟩ : ∃ N, Hid (N = l.length) := ⟨_, rfl⟩
  rw [← hN.out] at hp hl ⊢
  clear hc hr hB hC
  go_enter Try.func52, Try.ntmps52
  go_wp2_with fail
  go_loopg [9, 10] N (fun k s9 s10 wr => ∃ i j : Nat, k = j - i ∧ s9 = .int .i64 i ∧ s10 = .int .i64 j ∧ i ≤ p ∧ p ≤ j ∧ j ≤ N ∧ Hid (Below w.heap.size w wr))
  case atStart => exact ⟨0, N, rfl, rfl, rfl, Nat.zero_le _, hp, Nat.le_refl _, Below.refl _ _⟩
  case round =>
    obtain ⟨i, j, rfl, rfl, rfl, hip, hpj, hjN, HI⟩ := hrel
    by_cases hij : i < j
    · have hijz : (i : Int) < (j : Int) := by omega
      obtain ⟨m, hm⟩ : ∃ m, (i + j) / 2 = m := ⟨_, rfl⟩
      have hm1 : i ≤ m ∧ m < j := by omega
      have hw1 : IntKind.i64.wrap ((i : Int) + j) = (i : Int) + j := by rw [IntKind.wrap_i64]; omega
      have hw2 : IntKind.u64.wrap ((i : Int) + j) = (i : Int) + j := by rw [IntKind.wrap_u64]; omega
      have hdv : ((i : Int) + j) / 2 = m := by omega
      have hw3 : IntKind.i64.wrap (m : Int) = m := by rw [IntKind.wrap_i64]; omega
      have hmN : (m : Int) < (N : Int) := by omega
      obtain ⟨t, ht⟩ : ∃ t, l[m]? = some t := ⟨l[m]'(by rw [← hN.out]; omega), List.getElem?_eq_getElem _⟩
      obtain ⟨g, o, rfl, hat⟩ := (HR.out.below HI.out).at_ ht
      obtain ⟨t0, t1, t2⟩ := hat.p
      have hlt : (if m < p then cmpH how t.b x < 0 else ¬ cmpH how t.b x < 0) := by
        split
        · exact HC.out.lo m t ‹_› ht
        · exact HC.out.hi m t (by omega) ht
      have HCall : Hid (Calls Try.prog 53 #[t.v, .string x, ptr C] wr fun e w' => e = .returned (.int .i64 (cmpH how t.b x)) ∧ Below wr.heap.size wr w') := HO.out wr HI.out t
      clear hm hat ht
      generalize cmpH how t.b x = O at *
      rcases Nat.lt_or_ge m p with hmp | hmp
      · rw [if_pos hmp] at hlt
        go_wp2_with (go_at_call 53; refine HCall.out.mono ?_; rintro e w1 ⟨rfl, hb1⟩; have HI2 : Hid (Below w.heap.size w w1) := HI.out.trans (hb1.mono HI.out.size); clear hb1)
        go_roundg (j - (m + 1))
        case rel => exact ⟨m + 1, j, rfl, by go_num, rfl, by omega, hpj, hjN, HI2.out⟩
        case measure => omega
      · rw [if_neg (by omega)] at hlt
        go_wp2_with (go_at_call 53; refine HCall.out.mono ?_; rintro e w1 ⟨rfl, hb1⟩; have HI2 : Hid (Below w.heap.size w w1) := HI.out.trans (hb1.mono HI.out.size); clear hb1)
        go_roundg (m - i)
        case rel => exact ⟨i, m, rfl, rfl, rfl, hip, hmp, by omega, HI2.out⟩
        case measure => omega
    · obtain rfl : i = p := by omega
      obtain rfl : j = i := by omega
      have hjj : ¬ ((j : Int) < (j : Int)) := by omega
      rcases Nat.lt_or_ge j N with hlt | hge
      · have hmN : (j : Int) < (N : Int) := by omega
        obtain ⟨t, ht⟩ : ∃ t, l[j]? = some t := ⟨l[j]'(by rw [← hN.out]; omega), List.getElem?_eq_getElem _⟩
        obtain ⟨g, o, rfl, hat⟩ := (HR.out.below HI.out).at_ ht
        obtain ⟨t0, t1, t2⟩ := hat.p
        have HCall : Hid (Calls Try.prog 53 #[t.v, .string x, ptr C] wr fun e w' => e = .returned (.int .i64 (cmpH how t.b x)) ∧ Below wr.heap.size wr w') := HO.out wr HI.out t
        clear hat ht
        go_wp2_with (go_at_call 53; refine HCall.out.mono ?_; rintro e w1 ⟨rfl, hb1⟩; have HI2 : Hid (Below w.heap.size w w1) := HI.out.trans (hb1.mono HI.out.size); clear hb1)
        go_ret2
        exact ⟨_, rfl, HI2.out⟩
      · obtain rfl : N = j := by omega
        go_wp2_with fail
        go_ret2
        exact ⟨.inl rfl, HI.out⟩
end Go.Proofs.Ytagnnocecfoggaa
