import Derived.Test.YtlkfabejecgfgaaTe
import Derived.Test.YtlkfabejecgfgaaPb
namespace Go.Proofs.Ytlkfabejecgfgaa
open Go.RowKit Go.Maps
set_option linter.unusedVariables false
set_option linter.unusedSimpArgs false
def lk : ByteArray := ⟨#[97]⟩
def lv : Value := .string ⟨#[120]⟩
def l1 : Cs := newC 1 10 false
def l2 : Cs := (putC l1 lk lv 4).2.2
def l3 : Cs := (S.getC l2 lk.data.toList).2.2.2
theorem l2_1 : (putC l1 lk lv 4).1 = 1 := by kernel_rfl
theorem l2_2 : (putC l1 lk lv 4).2.1 = 0 := by kernel_rfl
theorem l3_1 : (S.getC l2 lk.data.toList).1 = 2 := by kernel_rfl
theorem l3_2 : (S.getC l2 lk.data.toList).2.1 = lv := by kernel_rfl
theorem l3_3 : (S.getC l2 lk.data.toList).2.2.1 = true := by kernel_rfl
theorem l2_pin : l2.pin 1 = some (0, 0) := by kernel_rfl
theorem l2_ent : ∃ x e, l2.xs[0]? = some x ∧ x.ent[0]? = some e ∧ e.val = lv := ⟨_, _, rfl, rfl, rfl⟩
theorem l3_u : sumU l3.xs = 4 := by kernel_rfl
theorem l3_p : sumP l3.xs = 4 := by kernel_rfl
theorem l3_c : sumC l3.xs = 1 := by kernel_rfl
theorem l3_n : l3.xs.length = 1 := by kernel_rfl
theorem l3_t : ∀ m, m ≤ l3.xs.length → sumC (l3.xs.take m) < 9223372036854775808 := by
  intro m hm
  rw [l3_n] at hm
  have : m = 0 ∨ m = 1 := by omega
  rcases this with rfl | rfl
  · have : sumC (l3.xs.take 0) = 0 := by kernel_rfl
    omega
  · have : sumC (l3.xs.take 1) = 1 := by kernel_rfl
    omega
set_option maxRecDepth 100000 in
set_option maxHeartbeats 4000000 in
theorem lives_any (w : World) : Calls Try.prog 9 #[] w fun e w' => e = .returned (.bool true) ∧ Below w.heap.size w w' := by
  have c1 : Ci l1 := Ci.new (by omega) (by omega) (by omega)
  have c2 : Ci l2 := c1.putc lk lv 4
  have HN := S.new_any w (n := 1) (by omega) (by omega) (room := 10) (by omega) (st := false)
  have e1 : newC 1 10 false = l1 := rfl
  rw [e1] at HN
  obtain ⟨x, e, hx, he, hv⟩ := l2_ent
  go_enter Try.func9, Try.ntmps9
  go_wp2_with (first
    | (go_at_call 23; refine HN.mono ?_; rintro e' w1 ⟨L, rfl, C1, U1, hL1⟩
       have HP := S.put_cache C1 c1 (k := lk) (z := ⟨#[120]⟩) (ch := 4) (by omega) (by decide) (by decide)
       have e2 : (Value.string ⟨#[120]⟩) = lv := rfl
       rw [e2, l2_1, l2_2] at HP
       have e3 : (putC l1 lk lv 4).2.2 = l2 := rfl
       rw [e3] at HP
       clear HN e2)
    | (go_at_call 24; refine HP.mono ?_; rintro e' w2 ⟨rfl, L2, C2, U2, E2⟩
       have HV := S.value_some C2 (k := 1) (by unfold I64; omega) l2_pin hx he
       have HG := S.get_any C2 c2 (k := lk) (by unfold maxLen; decide) (by decide)
       rw [hv, E2.cb] at HV
       rw [l3_1, l3_2, l3_3, E2.cb] at HG
       unfold lv at HV HG
       clear HP)
    | (go_at_call 25; refine HV.mono ?_; rintro e' w3 ⟨rfl, hw⟩; have hw' := hw.symm; subst hw')
    | (go_at_call 26; refine HG.mono ?_; rintro e' w4 ⟨rfl, C4, U4⟩
       have e4 : (S.getC l2 lk.data.toList).2.2.2 = l3 := rfl
       rw [e4] at C4
       have H1 := S.charge_any C4 (by rw [l3_n]; omega)
       have H2 := S.pinned_any C4 (by rw [l3_n]; omega)
       have H3 := S.len_any C4 (by rw [l3_n]; omega) l3_t
       rw [l3_u, E2.cb] at H1
       rw [l3_p, E2.cb] at H2
       rw [l3_c, E2.cb] at H3
       clear HG HV)
    | (go_at_call 27; refine H1.mono ?_; rintro e' w5 ⟨rfl, hw⟩; have hw' := hw.symm; subst hw')
    | (go_at_call 28; refine H2.mono ?_; rintro e' w5 ⟨rfl, hw⟩; have hw' := hw.symm; subst hw')
    | (go_at_call 29; refine H3.mono ?_; rintro e' w5 ⟨rfl, hw⟩; have hw' := hw.symm; subst hw'))
  go_ret
  refine ⟨rfl, ?_⟩
  have b1 : Below w.heap.size w w1 := U1.below (fun k hk => hk) (fun k hk => hk.elim)
  have b2 : Below w.heap.size w1 w2 := U2.below (fun k hk => Nat.lt_of_lt_of_le hk b1.size) hL1
  have b4 : Below w.heap.size w2 w4 := U4.below (fun k hk => Nat.lt_of_lt_of_le hk (Nat.le_trans b1.size b2.size)) (fun k hk => by
    rcases E2.nw k hk with hh | hh
    · exact hL1 k hh
    · exact Nat.le_trans b1.size hh)
  exact b1.trans (b2.trans b4)
end Go.Proofs.Ytlkfabejecgfgaa
