import Derived.Test.YtocanjefonlnaaaDoorM
namespace Go.Proofs.YtocanjefonlnaaaDoor
open Go.RowKit
set_option linter.unusedVariables false
set_option linter.unusedSimpArgs false
/-- The greatest number up to seq of the tombstones over a key, as the walk finds it. -/
def ovr (how : Int) (key : ByteArray) (seq : Int) : List Tm → Int × Bool → Int × Bool
  | [], a => a
  | t :: r, a => if 0 < cmpH how t.b key then a else ovr how key seq r (if t.s ≤ seq ∧ cmpH how key t.e < 0 then (max a.1 t.s, true) else a)
theorem ovr_end (how : Int) (key : ByteArray) (seq : Int) {l : List Tm} {k : Nat} (h : l.length ≤ k) (a : Int × Bool) : ovr how key seq (l.drop k) a = a := by
  rw [List.drop_eq_nil_of_le h]; rfl
theorem ovr_step (how : Int) (key : ByteArray) (seq : Int) {l : List Tm} {k : Nat} {t : Tm} (h : l[k]? = some t) (a : Int × Bool) :
    ovr how key seq (l.drop k) a = if 0 < cmpH how t.b key then a else ovr how key seq (l.drop (k + 1)) (if t.s ≤ seq ∧ cmpH how key t.e < 0 then (max a.1 t.s, true) else a) := by
  obtain ⟨hk, rfl⟩ := List.getElem?_eq_some_iff.1 h
  rw [List.drop_eq_getElem_cons hk, ovr]
theorem val_u {a b : Int} (h : a = b) : (Value.int .u64 a) = .int .u64 b := by rw [h]
set_option maxRecDepth 100000 in
set_option maxHeartbeats 2000000 in
theorem over_any {w : World} {T : Nat} {how : Int} {rv : Value} (h17 : w.cell? ⟨T, 17, none⟩ = some (.int .i64 how)) (h18 : w.cell? ⟨T, 18, none⟩ = some rv) {l : List Tm} (hr : RdT w rv l) (key : ByteArray) (seq : Int) (hl : l.length ≤ 10000) :
    Calls Tryd.prog 35 #[rptr T, .string key, .int .u64 seq] w fun e w' => e = .returned (.tuple #[.int .u64 (ovr how key seq l (0, false)).1, .bool (ovr how key seq l (0, false)).2]) ∧ Below w.heap.size w w' := by
  have HR : Hid (RdT w rv l) := hr
  have H17 : Hid (w.cell? ⟨T, 17, none⟩ = some (.int .i64 how)) := h17
  obtain ⟨a, c, hrv⟩ : ∃ a c, rv = .slice a l.length c := by
    rcases hr with ⟨rfl, rfl⟩ | ⟨g, cap, rfl, _⟩
    · exact ⟨_, _, rfl⟩
    · exact ⟨_, _, rfl⟩
  obtain ⟨N, hN⟩ : ∃ N, Hid (N = l.length) := ⟨_, rfl⟩
  rw [← hN.out] at hrv hl
  subst hrv
  obtain ⟨R, hR⟩ : ∃ R, ovr how key seq l (0, false) = R := ⟨_, rfl⟩
  rw [hR]
  have HRR : Hid (ovr how key seq (l.drop 0) (0, false) = R) := hR
  clear hr h17 hR
  go_enter Tryd.func35, Tryd.ntmps35
  go_wp2_with fail
  go_loopw [8, 9, 17] (fun s8 s9 s17 wr => ∃ (k : Nat) (m : Int) (b : Bool), k ≤ N ∧ s8 = .int .u64 m ∧ s9 = .bool b ∧ s17 = .int .i64 k ∧ Hid (ovr how key seq (l.drop k) (m, b) = R) ∧ Hid (Below w.heap.size w wr)) (fun _ _ s17 _ => ((N : Int) - intOf s17).toNat)
  case atStart => exact ⟨0, 0, false, Nat.zero_le _, rfl, rfl, rfl, HRR, Below.refl _ _⟩
  case round =>
    obtain ⟨k, m, b, hk, rfl, rfl, rfl, HV, HB⟩ := hrel
    rcases Nat.lt_or_ge k N with hkN | hkN
    · have hkz : (k : Int) < (N : Int) := by omega
      obtain ⟨g, rfl, hat⟩ : ∃ g, a = some ⟨g, 0, none⟩ ∧ ∀ j t, l[j]? = some t → TAt w g (j * 3) t := by
        rcases HR.out with ⟨h1, h2⟩ | ⟨g, cap, h1, h2⟩
        · have := hN.out; rw [h2] at this; simp at this; omega
        · cases h1; exact ⟨g, rfl, h2⟩
      obtain ⟨t, ht⟩ : ∃ t, l[k]? = some t := ⟨l[k]'(by rw [← hN.out]; omega), List.getElem?_eq_getElem _⟩
      have TA := (hat k t ht).below HB.out
      have t0 := TA.1
      have t1 := TA.2.1
      have t2 := TA.2.2
      have h17 := keepc HB.out H17.out
      have HS : Hid _ := ovr_step how key seq ht (m, b)
      have hT17 := block_lt_of_cell h17
      -- the box
      have BX : Blk (wr.alloc (.cells #[.string t.b, .string t.e, .int .u64 t.s] 81)) wr.heap.size 81 t.c := Blk.new wr 81 t.c
      have HB1 : Hid (Below w.heap.size w (wr.alloc (.cells #[.string t.b, .string t.e, .int .u64 t.s] 81))) := HB.out.alloc HB.out.size _
      have e17 : (wr.alloc (.cells #[.string t.b, .string t.e, .int .u64 t.s] 81)).cell? ⟨T, 17, none⟩ = some (.int .i64 how) := keepc HB1.out H17.out
      have e0 := BX.cell1 0 _ rfl
      have e1 := BX.cell1 1 _ rfl
      have e2 := BX.cell1 2 _ rfl
      have C1 := ccmp_any how t.b key
      have C2 := ccmp_any how key t.e
      obtain ⟨c1, hc1⟩ : ∃ c1, Hid (cmpH how t.b key = c1) := ⟨_, rfl⟩
      obtain ⟨c2, hc2⟩ : ∃ c2, Hid (cmpH how key t.e = c2) := ⟨_, rfl⟩
      rw [hc1.out] at C1 HS
      rw [hc2.out] at C2 HS
      clear TA hat BX
      go_upto_region 5 with fail
      clear t0 t1 t2 h17
      generalize wr.alloc (.cells #[.string t.b, .string t.e, .int .u64 t.s] 81) = W1 at *
      generalize wr.heap.size = X at *
      by_cases g1 : 0 < c1
      · have HS1 := HS.out
        rw [if_pos g1, HV.out] at HS1
        have HS2 : Hid ((m, b) = R) := HS1.symm
        clear HS HS1
        go_big_quiet ((go_at_call 51; exact Calls.quiet_of_same (C1 _)))
        go_wp2_with fail
        go_ret2
        rw [← HS2.out]
        exact ⟨rfl, belN HB1.out _⟩
      · have HS1 := HS.out
        rw [if_neg g1, HV.out] at HS1
        have HS2 : Hid _ := HS1.symm
        clear HS HS1
        go_big_quiet ((go_at_call 51; exact Calls.quiet_of_same (C1 _)))
        go_wp2_with fail
        have HB2 : Hid (Below w.heap.size w (W1.drewN nq)) := belN HB1.out _
        have i17 : (W1.drewN nq).cell? ⟨T, 17, none⟩ = some (.int .i64 how) := e17
        have i1 : (W1.drewN nq).cell? ⟨X, 1, none⟩ = some (.string t.e) := e1
        have i2 : (W1.drewN nq).cell? ⟨X, 2, none⟩ = some (.int .u64 t.s) := e2
        clear e17 e0 e1 e2 HB1
        generalize W1.drewN nq = W2 at *
        by_cases g2 : t.s ≤ seq
        · by_cases g3 : c2 < 0
          · have HS3 : Hid (ovr how key seq (l.drop (k + 1)) (max m t.s, true) = R) := by
              have := HS2.out; rw [if_pos ⟨g2, g3⟩] at this; exact this
            clear HS2
            go_big_quiet ((go_at_call 51; exact Calls.quiet_of_same (C2 _)))
            go_wp2_with fail
            all_goals
              go_roundw
              case rel => exact ⟨k + 1, max m t.s, true, by omega, val_u (by omega), rfl, by go_num, HS3, belN HB2.out _⟩
              case measure => simp [intOf]; omega
          · have HS3 : Hid (ovr how key seq (l.drop (k + 1)) (m, b) = R) := by
              have := HS2.out; rw [if_neg (fun h => g3 h.2)] at this; exact this
            clear HS2
            go_big_quiet ((go_at_call 51; exact Calls.quiet_of_same (C2 _)))
            go_wp2_with fail
            go_roundw
            case rel => exact ⟨k + 1, m, b, by omega, rfl, rfl, by go_num, HS3, belN HB2.out _⟩
            case measure => simp [intOf]; omega
        · have HS3 : Hid (ovr how key seq (l.drop (k + 1)) (m, b) = R) := by
            have := HS2.out; rw [if_neg (fun h => g2 h.1)] at this; exact this
          have g2d : decide (t.s ≤ seq) = false := decide_eq_false g2
          clear HS2
          first | go_quiet (fail) | go_big_quiet (fail)
          go_wp2_with fail
          go_roundw
          case rel => exact ⟨k + 1, m, b, by omega, rfl, rfl, by go_num, HS3, belN HB2.out _⟩
          case measure => simp [intOf]; omega
    · have hkz : ¬ ((k : Int) < (N : Int)) := by omega
      have HV2 : Hid ((m, b) = R) := by have := HV.out; rw [ovr_end how key seq (by rw [← hN.out]; exact hkN)] at this; exact this
      go_wp2_with fail
      go_ret2
      rw [← HV2.out]
      exact ⟨rfl, HB.out⟩
end Go.Proofs.YtocanjefonlnaaaDoor
