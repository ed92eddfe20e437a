/-
  The law BlockBack.
-/
import Derived.Test.YtbnllobofndckaaLi
import Derived.Test.YtbnllobofndckaaSm
namespace Go.Proofs.Ytbnllobofndckaa
open Go.RowKit
set_option linter.unusedVariables false
set_option linter.unusedSimpArgs false
theorem firstE_zero : ∀ {l : List Ent}, (∀ e ∈ l, e.er = 0) → firstE l = 0
  | [], _ => rfl
  | x :: l, h => by
    unfold firstE
    rw [if_pos (h x List.mem_cons_self)]
    exact firstE_zero (fun e he => h e (List.mem_cons_of_mem _ he))
theorem siz_of {how r : Int} {l : List Ent} (h : bldE how r l = 0) : sizE r l = 0 ∧ sizV r l = ((wr8 r.toNat l).length : Nat) := by
  have h0 : sizE r l = 0 := by
    unfold bldE at h
    split at h
    · cases h
    · split at h
      · next h2 => exact absurd h h2
      · next h2 =>
        split at h
        · next h3 => exact absurd h h3
        · next h3 =>
          have h2' : cntE r l.length = 0 := by simpa using h2
          have h3' : bldF how l = 0 := by simpa using h3
          unfold sizE
          rw [if_pos h2']
          refine firstE_zero fun e he => ?_
          obtain ⟨k, hk⟩ := List.mem_iff_getElem?.1 he
          have hlt := (List.getElem?_eq_some_iff.1 hk).1
          exact er_of_erB hk (frm_zero h3' k (Nat.zero_le _) (by omega))
  exact ⟨h0, by unfold sizV; rw [if_pos h0]⟩
set_option maxRecDepth 100000 in
set_option maxHeartbeats 2000000 in
theorem back_walk {w : World} {a : Option Addr} {l : List Ent} (hl : RdE w a l) (hs : ∀ e ∈ l, 0 ≤ e.s) (how r : Int) (c : Nat) (hN : l.length * 48 ≤ 140737488355328) :
    Calls Try.prog 5 #[.int .i64 how, .int .i64 r, .slice a l.length c] w fun e w' => e = .returned (.bool true) ∧ Below w.heap.size w w' := by
  obtain ⟨N, hNN⟩ : ∃ N, Hid (l.length = N) := ⟨_, rfl⟩
  have HL : Hid (RdE w a l) := hl
  obtain ⟨E, hE⟩ : ∃ E, Hid (bldE how r l = E) := ⟨_, rfl⟩
  have HLv : Hid (∀ W, Calls Try.prog 17 #[] W fun e w' => e = .returned (.bool true) ∧ Below W.heap.size W w') := fun W => lives_any W
  have HBu : Hid (∀ W a' c', RdE W a' l → Calls Try.prog 7 #[.int .i64 how, .int .i64 r, .slice a' N c'] W fun e w' => ∃ v, e = .returned (.tuple #[v, .int .i64 E]) ∧ OwnB w' W.heap.size v (bldB how r l) ∧ Below W.heap.size W w') := fun W a' c' h => by
    have := build_any h hs how r c' (by omega)
    rw [hNN.out, hE.out] at this; exact this
  by_cases hE0 : E = 0
  · subst hE0
    obtain ⟨hS, hr1, hr2, hln, hB⟩ := srt_of hE.out hs
    obtain ⟨hz1, hz2⟩ := siz_of hE.out
    obtain ⟨R, rfl⟩ : ∃ R : Nat, r = R := ⟨r.toNat, by omega⟩
    rw [Int.toNat_natCast] at hln hB hz2
    rw [hB] at HBu
    obtain ⟨LEN, hLEN⟩ : ∃ LEN, (wr8 R l).length = LEN := ⟨_, rfl⟩
    rw [hLEN] at hln hz2
    obtain ⟨PN, hPN⟩ : ∃ PN, (plc R l).length = PN := ⟨_, rfl⟩
    have hpl := plc_len R (by omega) l
    rw [hPN, hNN.out] at hpl
    have hNb : N ≤ 65536 := by rw [← hNN.out]; exact hS.len
    have HSz : Hid (∀ W a' c', RdE W a' l → Calls Try.prog 9 #[.int .i64 R, .slice a' N c'] W fun e w' => e = .returned (.tuple #[.int .i64 LEN, .int .i64 0]) ∧ Below W.heap.size W w') := fun W a' c' h => by
      have := size9_any h hs R c' (by omega)
      rw [hNN.out, hz1, hz2] at this; exact this
    have HArg : Hid (∀ W base v, OwnB W base v (wr8 R l) → ∃ av cv, v = .slice av LEN cv ∧ LEN ≤ cv ∧ Arg W av LEN cv (wr8 R l)) := fun W base v h => by
      obtain ⟨av, cv, e1, h1⟩ := h.arg (wr8_bd hS.fit) (by omega)
      subst e1
      have h2 := own_le h
      rw [hLEN] at h1 h2 ⊢
      exact ⟨av, cv, rfl, h2, h1⟩
    have HOw : Hid (∀ W av cv, Arg W av LEN cv (wr8 R l) → Calls Try.prog 12 #[.slice av LEN cv] W fun e w' => ∃ av' cv', e = .returned (.slice av' LEN cv') ∧ LEN ≤ cv' ∧ Arg w' av' LEN cv' (wr8 R l) ∧ Below W.heap.size W w') := fun W av cv h => own_any h hln
    have HOp : Hid (∀ W av cv, Arg W av LEN cv (wr8 R l) → LEN ≤ cv → Calls Try.prog 15 #[.int .i64 how, .slice av LEN cv] W fun e w' => ∃ xb ba LB bcap pa pc, e = .returned (.tuple #[ptr xb, .int .i64 0]) ∧ Bl w' xb how R l ba LB bcap pa PN pc N ∧ Below W.heap.size W w') := fun W av cv h hc => by
      refine (open_any h hc hS (by omega) hln).mono ?_
      rintro e w' ⟨xb, ba, LB, bcap, pa, PN', pc, N', rfl, h1, h2⟩
      obtain rfl : PN = PN' := by rw [← hPN]; exact h1.pl
      obtain rfl : N = N' := by rw [← hNN.out]; exact h1.n
      exact ⟨xb, ba, LB, bcap, pa, pc, rfl, h1, h2⟩
    have HEn : Hid (∀ W xb ba LB bcap pa pc, Bl W xb how R l ba LB bcap pa PN pc N → Calls Try.prog 18 #[ptr xb] W fun e w' => ∃ a' c', e = .returned (.slice a' N c') ∧ RdE w' a' l ∧ Below W.heap.size W w') := fun W xb ba LB bcap pa pc h => entries_any h hS
    have HSm : Hid (∀ W a1 a2 c1 c2, RdE W a1 l → RdE W a2 l → Calls Try.prog 11 #[.slice a1 N c1, .slice a2 N c2] W fun e w' => e = .returned (.bool true) ∧ Below W.heap.size W w') := fun W a1 a2 c1 c2 h1 h2 => by
      have := same_any h1 h2 c1 c2 (by omega)
      rw [hNN.out] at this; exact this
    obtain ⟨S, hSS⟩ : ∃ S, Hid (bstr (wr8 R l) = S) := ⟨_, rfl⟩
    have HCv : Hid (∀ (W : World) (av : Option Addr) (cv : Nat), Arg W av LEN cv (wr8 R l) → (convert 23 9 (.slice av LEN cv)).run Try.prog W = .ok (.string S) W) := fun W av cv h => by
      have := arg_str h
      rw [hSS.out] at this; exact this
    have hR1 : 1 ≤ (R : Int) := hr1
    have hne : ¬ (R : Int) = 0 := by omega
    obtain ⟨Q, hQ⟩ : ∃ Q : Nat, Hid ((N + R - 1) / R = Q) := ⟨_, rfl⟩
    rw [hQ.out] at hpl
    have hQ1 : Q ≤ 65536 := by
      rw [← hQ.out]
      have : (N + R - 1) / R ≤ N := by
        rcases Nat.eq_zero_or_pos N with h | h
        · subst h; rw [Nat.zero_add, Nat.div_eq_of_lt (by omega)]; exact Nat.le_refl _
        · rw [Nat.div_le_iff_le_mul_add_pred (by omega)]
          have h3 : N ≤ N * R := Nat.le_mul_of_pos_right N (by omega)
          have h4 : R * N = N * R := Nat.mul_comm _ _
          omega
      omega
    have hquo : (((N : Int) + (R : Int) - 1)).tdiv (R : Int) = (Q : Int) := by
      have e1 : (N : Int) + (R : Int) - 1 = ((N + R - 1 : Nat) : Int) := by omega
      rw [e1, ← hQ.out]
      exact (Int.ofNat_tdiv _ _)
    rw [hNN.out]
    clear hl hs hS hz1 hz2 hLEN hPN hB hN
    go_enter Try.func5, Try.ntmps5
    go_wp2_with (first
      | (go_at_call 17; refine (HLv.out _).mono ?_; rintro e w1 ⟨rfl, b1⟩)
      | (go_at_call 9; have hq := b2; clear hq; refine (HSz.out _ _ _ (HL.out.below b2)).mono ?_; rintro e w3 ⟨rfl, b23⟩; have b3 := b2.trans (b23.mono b2.size); have o3 := A2.below b23)
      | (go_at_call 12; have hq := b3; clear hq; refine (HOw.out _ _ _ o3).mono ?_; rintro e w4 ⟨av4, cv4, rfl, c4, o4, b34⟩; have b4 := b3.trans (b34.mono b3.size); have o5 := o3.below b34)
      | (go_at_call 15; have hq := b4; clear hq; refine (HOp.out _ _ _ o4 c4).mono ?_; rintro e w5 ⟨xb, ba, LB, bcap, pa, pc, rfl, x5, b45⟩; have b5 := b4.trans (b45.mono b4.size); have o6 := o5.below b45)
      | (go_at_call 11; have hq := b6; clear hq; refine (HSm.out _ _ _ _ _ e6 (HL.out.below b6)).mono ?_; rintro e w7 ⟨rfl, b67⟩; have b7 := b6.trans (b67.mono b6.size); have x7 := x6.below b67; have o8 := o7.below b67)
      | (go_at_call 18; have hq := b7; clear hq; refine (HEn.out _ _ _ _ _ _ _ x7).mono ?_; rintro e w8 ⟨a8, c8, rfl, e8, b78⟩; have b8 := b7.trans (b78.mono b7.size); have x8 := x7.below b78; have o9 := o8.below b78)
      | (go_at_call 18; have hq := b5; clear hq; refine (HEn.out _ _ _ _ _ _ _ x5).mono ?_; rintro e w6 ⟨a6, c6, rfl, e6, b56⟩; have b6 := b5.trans (b56.mono b5.size); have x6 := x5.below b56; have o7 := o6.below b56)
      | (go_at_call 7; have hq := b8; clear hq; refine (HBu.out _ _ _ e8).mono ?_; rintro e w9 ⟨v9, rfl, o99, b89⟩; have b9 := b8.trans (b89.mono b8.size); have x9 := x8.below b89
         obtain ⟨av9, cv9, rfl, c9, A9⟩ := HArg.out _ _ _ o99
         have hs1 := HCv.out _ _ _ A9
         have hs2 := HCv.out _ _ _ (o9.below b89)
         have HRs := restarts_any x9)
      | (go_at_call 7; have hq := b1; clear hq; refine (HBu.out _ _ _ (HL.out.below b1)).mono ?_; rintro e w2 ⟨v2, rfl, o2, b12⟩; have b2 := b1.trans (b12.mono b1.size)
         obtain ⟨av2, cv2, rfl, c2, A2⟩ := HArg.out _ _ _ o2)
      | (go_at_call 19; refine HRs.mono ?_; rintro e w5 ⟨rfl, hw⟩; have hw1 := hw.symm; subst hw1; clear hw))
    · have hq0 : ((Q : Int) == 0) = true := by assumption
      have hq1 : (Q : Int) = 0 := by simpa using hq0
      go_ret
      refine ⟨?_, b9⟩
      have h1 : ((max Q 1 : Nat) : Int) = 1 := by omega
      rw [h1]; rfl
    · have hq0 : ((Q : Int) == 0) = false := by assumption
      have hq1 : ¬ (Q : Int) = 0 := by simpa using hq0
      go_ret
      refine ⟨?_, b9⟩
      have h1 : max Q 1 = Q := by omega
      rw [h1]; simp
  · have HNil : Hid (∀ W base v, OwnB W base v (bldB how r l) → ∃ av cv, v = .slice av 0 cv) := fun W base v h => by
      have e0 : bldB how r l = [] := by unfold bldB; rw [hE.out, if_neg hE0]
      rw [e0] at h
      obtain ⟨av, cv, e1, _⟩ := h.arg (by simp) (by simp)
      exact ⟨av, cv, e1⟩
    rw [hNN.out]
    clear hl hs hN
    go_enter Try.func5, Try.ntmps5
    go_wp2_with (first
      | (go_at_call 17; refine (HLv.out _).mono ?_; rintro e w1 ⟨rfl, b1⟩)
      | (go_at_call 7; have hq := b1; clear hq; refine (HBu.out _ _ _ (HL.out.below b1)).mono ?_; rintro e w2 ⟨v2, rfl, o2, b12⟩; have b2 := b1.trans (b12.mono b1.size)
         obtain ⟨av2, cv2, rfl⟩ := HNil.out _ _ _ o2))
    go_ret
    exact ⟨rfl, b2⟩
end Go.Proofs.Ytbnllobofndckaa
