import Derived.Test.YtlkfabejecgfgaaEb
import Derived.Deep.LoopGhost
namespace Go.Proofs.Ytlkfabejecgfgaa
open Go.RowKit Go.Maps
set_option linter.unusedVariables false
set_option linter.unusedSimpArgs false
section
variable {w : World} {rb o mb : Nat} {rc : List Value} {ad : Nat → Nat} {x : Xs}
theorem tolT_lt (u : Nat) : tolT u < 18446744073709551616 := by unfold tolT; split <;> omega
set_option maxRecDepth 100000 in
set_option maxHeartbeats 1000000 in
theorem exceeds_any (h : Sm w rb o mb rc ad x) {c r : Nat} (hc : c < 18446744073709551616) (hr : r < 18446744073709551616) :
    Calls Try.prog 40 #[.pointer (some ⟨rb, o, none⟩), .int .u64 c, .int .u64 r] w fun e w' => e = .returned (.bool (excX x c r)) ∧ w' = w := by
  have H1 := told_any h.row (o := o + 3) (h.cel 3 _ rfl) (h.cel 4 _ rfl)
  have H2 := plus_any w c (tolT x.us) hc (tolT_lt _)
  have e1 : excX x c r = decide (r < plusT c (tolT x.us)) := rfl
  rw [e1]
  clear e1
  generalize plusT c (tolT x.us) = P at *
  generalize tolT x.us = T at *
  go_enter Try.func40, Try.ntmps40
  go_wp2_with (first
    | (go_at_call 44; refine H1.mono ?_; rintro e w1 ⟨rfl, hw⟩; have hw' := hw.symm; subst hw')
    | (go_at_call 43; refine H2.mono ?_; rintro e w1 ⟨rfl, hw⟩; have hw' := hw.symm; subst hw'))
  go_ret
  exact ⟨rfl, rfl⟩
theorem roomX_stop {x : Xs} {c r n : Nat} (h : x.q = [] ∨ excX x c r = false) : roomX c r n x = x := by
  cases n with
  | zero => rfl
  | succ n =>
    unfold roomX
    rcases h with h | h
    · rw [h]
    · cases x.q with
      | nil => rfl
      | cons j t => simp [h]
theorem takeX_ent (x : Xs) (j : Nat) : (takeX x j).ent = x.ent := rfl
set_option maxRecDepth 100000 in
set_option maxHeartbeats 2000000 in
theorem makeRoom_any (h : Sm w rb o mb rc ad x) (h0 : ∀ j, j ∈ x.q → ∃ e, x.ent[j]? = some e ∧ e.pins = 0) {c r : Nat} (hc : c < 18446744073709551616) (hr : r < 18446744073709551616) :
    Calls Try.prog 39 #[.pointer (some ⟨rb, o, none⟩), .int .u64 c, .int .u64 r] w fun e w' => e = .returned (.tuple #[]) ∧
      ∃ rc', Sm w' rb o mb rc' ad (roomX c r x.q.length x) ∧ Kp o rc rc' ∧ Upd (Sb rb mb ad x.ent.length) w w' := by
  go_enter Try.func39, Try.ntmps39
  go_wp2_with fail
  go_loopg [] x.q.length (fun k wr => ∃ y rc1, Sm wr rb o mb rc1 ad y ∧ y.ent = x.ent ∧ (∀ j, j ∈ y.q → j ∈ x.q) ∧ k = y.q.length ∧ roomX c r k y = roomX c r x.q.length x ∧ Kp o rc rc1 ∧ Upd (Sb rb mb ad x.ent.length) w wr)
  case atStart => exact ⟨x, rc, h, rfl, fun _ hj => hj, rfl, rfl, Kp.refl _ _, Upd.refl _ _⟩
  case round =>
    obtain ⟨y, rc1, S, he, hsub, hk, hX, hK, hU⟩ := hrel
    have hX' : Hid _ := hX
    clear hX
    have c1 := S.row.cell1 (o + 1) _ (S.cel 1 _ rfl)
    cases hq : y.q with
    | nil =>
      rw [hq] at c1
      go_wp2_with fail
      go_end0
      refine ⟨rfl, rc1, ?_, hK, hU⟩
      rw [← hX'.out, roomX_stop (.inl hq)]
      exact S
    | cons j t =>
      obtain ⟨e, hj, hp⟩ := h0 j (hsub j (by rw [hq]; exact List.mem_cons_self))
      have hj' : y.ent[j]? = some e := by rw [he]; exact hj
      have HE := exceeds_any S hc hr
      rw [hq] at c1
      cases hx : excX y c r with
      | false =>
        rw [hx] at HE
        go_wp2_with (go_at_call 40; refine HE.mono ?_; rintro e w1 ⟨rfl, hw⟩; have hw' := hw.symm; subst hw')
        go_end0
        refine ⟨rfl, rc1, ?_, hK, hU⟩
        rw [← hX'.out, roomX_stop (.inr hx)]
        exact S
      | true =>
        rw [hx] at HE
        have HT := takeOut_any S hj' (fun _ => by rw [hq]; exact List.mem_cons_self)
        go_wp2_with (first
          | (go_at_call 40; refine HE.mono ?_; rintro e w1 ⟨rfl, hw⟩; have hw' := hw.symm; subst hw')
          | (go_at_call 47; refine HT.mono ?_; rintro e w2 ⟨rfl, rc2, S2, K2, U2⟩))
        have hq2 : (takeX y j).q = t := by
          unfold takeX; rw [at_of hj']; simp only [if_pos hp]; rw [hq]; simp
        go_roundg t.length
        case measure => rw [hk, hq]; simp
        case rel =>
          refine ⟨takeX y j, rc2, S2, he, fun i hi => hsub i (by rw [hq]; rw [hq2] at hi; exact List.mem_cons_of_mem _ hi), by rw [hq2], ?_, hK.trans K2, hU.trans (by rw [← he]; exact U2)⟩
          rw [← hX'.out, hk, hq]
          show _ = roomX c r (t.length + 1) y
          conv => rhs; unfold roomX
          rw [hq]
          simp [hx]
end
end Go.Proofs.Ytlkfabejecgfgaa
