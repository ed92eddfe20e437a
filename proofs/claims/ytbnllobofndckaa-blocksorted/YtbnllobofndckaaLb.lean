import Derived.Test.YtbnllobofndckaaLa
namespace Go.Proofs.Ytbnllobofndckaa
open Go.RowKit
set_option linter.unusedVariables false
set_option linter.unusedSimpArgs false
set_option maxHeartbeats 1000000 in
theorem rcommon_any {w : World} {a1 a2 : Option Addr} {n1 n2 c1 c2 : Nat} {A B : List Int} (h1 : Arg w a1 n1 c1 A) (h2 : Arg w a2 n2 c2 B) :
    Calls Try.prog 63 #[.slice a1 n1 c1, .slice a2 n2 c2] w fun e w' => e = .returned (.int .i64 (com A B)) ∧ Below w.heap.size w w' := by
  have e1 := h1.1
  have e2 := h2.1
  have m1 := h1.2.2.1
  have m2 := h2.2.2.1
  have H1 : Hid (Arg w a1 n1 c1 A) := h1
  have H2 : Hid (Arg w a2 n2 c2 B) := h2
  have E1 : Hid (A.length = n1) := e1
  have E2 : Hid (B.length = n2) := e2
  clear h1 h2 e1 e2
  go_enter Try.func63, Try.ntmps63
  go_wp2
  go_loopw [5] (fun i wr => ∃ k : Nat, k ≤ n1 ∧ k ≤ n2 ∧ i = .int .i64 k ∧ Hid (∀ j, j < k → A[j]? = B[j]?) ∧ Below w.heap.size w wr) (fun i _ => ((n1 : Int) - intOf i).toNat)
  case atStart => exact ⟨0, Nat.zero_le _, Nat.zero_le _, rfl, fun j hj => by omega, Below.refl _ _⟩
  case round =>
    obtain ⟨k, hk, hk', rfl, HA, hb⟩ := hrel
    rcases Nat.lt_or_ge k n1 with hk1 | hk1
    · have hz1 : (k : Int) < n1 := by omega
      have d1 : decide ((k : Int) < n1) = true := decide_eq_true hz1
      rcases Nat.lt_or_ge k n2 with hk2 | hk2
      · have hz2 : (k : Int) < n2 := by omega
        have d2 : decide ((k : Int) < n2) = true := decide_eq_true hz2
        obtain ⟨b1, o1, rfl, x, hx, cx⟩ : ∃ b o, a1 = some ⟨b, o, none⟩ ∧ ∃ x, A[k]? = some x ∧ wr.cell? ⟨b, o + k, none⟩ = some (.int .u8 x) := by
          rcases (H1.out.below hb).2.2.2 with h | ⟨b, o, e, _, h⟩
          · have := E1.out; rw [h] at this; simp at this; omega
          · exact ⟨b, o, e, A[k]'(by rw [E1.out]; exact hk1), List.getElem?_eq_getElem _, h k (by rw [E1.out]; exact hk1)⟩
        obtain ⟨b2, o2, rfl, y, hy, cy⟩ : ∃ b o, a2 = some ⟨b, o, none⟩ ∧ ∃ x, B[k]? = some x ∧ wr.cell? ⟨b, o + k, none⟩ = some (.int .u8 x) := by
          rcases (H2.out.below hb).2.2.2 with h | ⟨b, o, e, _, h⟩
          · have := E2.out; rw [h] at this; simp at this; omega
          · exact ⟨b, o, e, B[k]'(by rw [E2.out]; exact hk2), List.getElem?_eq_getElem _, h k (by rw [E2.out]; exact hk2)⟩
        have HX : Hid (A[k]? = some x) := hx
        have HY : Hid (B[k]? = some y) := hy
        have HB : Hid (Below w.heap.size w wr) := hb
        clear hx hy hb
        by_cases hxy : x = y
        · have hne : (x == y) = true := by simp [hxy]
          have HXY : Hid (x = y) := hxy
          clear hxy
          go_wp2
          first | go_quiet (fail) | go_big_quiet (fail)
          have hbn : Hid (Below w.heap.size w (wr.drewN nq)) := HB.out.trans ⟨rfl, rfl, rfl, Nat.le_refl _, fun _ _ => rfl⟩
          go_wp2
          go_roundw
          case rel =>
            refine ⟨k + 1, by omega, by omega, by go_num, fun j hj => ?_, hbn.out⟩
            rcases Nat.lt_or_ge j k with h | h
            · exact HA.out j h
            · obtain rfl : j = k := by omega
              rw [HX.out, HY.out, HXY.out]
          case measure => simp [intOf]; omega
        · have hne : (x == y) = false := by simp [hxy]
          have HXY : Hid (¬ x = y) := hxy
          clear hxy
          go_wp2
          first | go_quiet (fail) | go_big_quiet (fail)
          have hbn : Hid (Below w.heap.size w (wr.drewN nq)) := HB.out.trans ⟨rfl, rfl, rfl, Nat.le_refl _, fun _ _ => rfl⟩
          go_wp2
          go_ret
          refine ⟨ret_ii ?_, hbn.out⟩
          rw [com_here k A B HA.out (by rw [E1.out]; omega) (by rw [E2.out]; omega) (.inr (.inr (by rw [HX.out, HY.out]; intro e; exact HXY.out (Option.some.inj e))))]
      · have hz2 : ¬ (k : Int) < n2 := by omega
        have d2 : decide ((k : Int) < n2) = false := decide_eq_false hz2
        have HB : Hid (Below w.heap.size w wr) := hb
        clear hb
        go_wp2
        have hp2 : ((k : Int) < n2) = False := eq_false (by omega)
        have d3 : decide ((k : Int) < n2) = false := decide_eq_false (by omega)
        first | go_quiet (fail) | go_big_quiet (fail)
        have hbn : Hid (Below w.heap.size w (wr.drewN nq)) := HB.out.trans ⟨rfl, rfl, rfl, Nat.le_refl _, fun _ _ => rfl⟩
        go_wp2
        go_ret
        refine ⟨ret_ii ?_, hbn.out⟩
        rw [com_here k A B HA.out (by rw [E1.out]; omega) (by rw [E2.out]; omega) (by rw [E1.out, E2.out]; omega)]
    · have hz1 : ¬ (k : Int) < n1 := by omega
      have d1 : decide ((k : Int) < n1) = false := decide_eq_false hz1
      have HB : Hid (Below w.heap.size w wr) := hb
      clear hb
      go_wp2
      have hp1 : ((k : Int) < n1) = False := eq_false (by omega)
      have d3 : decide ((k : Int) < n1) = false := decide_eq_false (by omega)
      first | go_quiet (fail) | go_big_quiet (fail)
      have hbn : Hid (Below w.heap.size w (wr.drewN nq)) := HB.out.trans ⟨rfl, rfl, rfl, Nat.le_refl _, fun _ _ => rfl⟩
      go_wp2
      go_ret
      refine ⟨ret_ii ?_, hbn.out⟩
      rw [com_here k A B HA.out (by rw [E1.out]; omega) (by rw [E2.out]; omega) (by rw [E1.out, E2.out]; omega)]
end Go.Proofs.Ytbnllobofndckaa
