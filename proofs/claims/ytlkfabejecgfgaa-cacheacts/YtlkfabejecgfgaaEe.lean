import Derived.Test.YtlkfabejecgfgaaEd
import Derived.LaidEqlPtr
namespace Go.Proofs.Ytlkfabejecgfgaa
open Go.RowKit Go.Maps
set_option linter.unusedVariables false
set_option linter.unusedSimpArgs false
theorem info91 : ∃ j, Try.prog.info? 91 = some j ∧ j.size ≠ 0 := by
  have h : ((Try.prog.info? 91).map (fun j => decide (j.size ≠ 0))) = some true := by kernel_rfl
  cases hj : Try.prog.info? 91 with
  | none => rw [hj] at h; cases h
  | some j => rw [hj] at h; exact ⟨j, rfl, by simpa using h⟩
theorem eq_same (W : World) (b : Nat) : (binOp .eql 60 (.pointer (some ⟨b, 0, none⟩)) (.pointer (some ⟨b, 0, none⟩))).run Try.prog W = .ok (.bool true) W := by
  obtain ⟨j, hj, _⟩ := info91
  exact run_eql_ptr_same W _ Try.underlying60 hj
theorem eq_nil (W : World) (b : Nat) : (binOp .eql 60 (.pointer none) (.pointer (some ⟨b, 0, none⟩))).run Try.prog W = .ok (.bool false) W := by
  obtain ⟨j, hj, _⟩ := info91
  have h : ∀ d : Nat, (Op.equalIn (d + 1) 60 (.pointer none) (.pointer (some ⟨b, 0, none⟩))).run Try.prog W = .ok false W := fun d => by
    simp [Op.equalIn, run_underlying Try.underlying60]
  simp only [binOp]
  simp [Op.equal, Op.maxDepth, h 9999]
theorem eq_other {W : World} {a b : Nat} {ca cb : List Value} (hne : a ≠ b) (ha : Blk W a 91 ca) (hb : Blk W b 91 cb) : (binOp .eql 60 (.pointer (some ⟨a, 0, none⟩)) (.pointer (some ⟨b, 0, none⟩))).run Try.prog W = .ok (.bool false) W := by
  obtain ⟨j, hj, hz⟩ := info91
  exact run_eql_ptr_other W Try.underlying60 hj hz (fun e => hne (by simpa using congrArg Addr.block e)) ha hb
section
variable {w : World} {rb o mb : Nat} {rc : List Value} {ad : Nat → Nat} {x : Xs}
set_option maxRecDepth 100000 in
set_option maxHeartbeats 2000000 in
theorem pin_any (h : Sm w rb o mb rc ad x) {j : Nat} {e : En} (hj : x.ent[j]? = some e) (hq : e.pins = 0 → j ∈ x.q) (hpl : e.pins + 1 < 4611686018427387904) :
    Calls Try.prog 46 #[.pointer (some ⟨rb, o, none⟩), .pointer (some ⟨ad j, 0, none⟩)] w fun r w' => r = .returned (.tuple #[]) ∧
      ∃ rc', Sm w' rb o mb rc' ad (pinX x j) ∧ Kp o rc rc' ∧ Upd (Sb rb mb ad x.ent.length) w w' := by
  obtain ⟨hk, hc, _⟩ := h.wk j e hj
  have c3 := (h.ent j e hj).cell1 3 _ rfl
  by_cases hp : e.pins = 0
  · have e1 : Hid (pinX x j = { x with ent := x.ent.set j { e with pins := e.pins + 1 }, q := x.q.erase j, pn := addT x.pn e.chg }) := by
      show pinX x j = _
      unfold pinX; rw [at_of hj]; simp only [if_pos hp]
    have HL := leave_any h (hq hp)
    rw [hp] at c3
    go_enter Try.func46, Try.ntmps46
    go_wp2_with (go_at_call 69; refine HL.mono ?_; rintro e' w2 ⟨rfl, rc2, S2, K2, U2⟩; clear c3 HL)
    have d2 := (S2.ent j e hj).cell1 2 _ rfl
    obtain ⟨rc3, S3, K3, U3⟩ := S2.drew.two' (addT_lt x.pn e.chg)
    have H3 := add_any S2.drew.row (o := o + 5) (S2.cel 5 _ rfl) (S2.cel 6 _ rfl) S2.pb e.chg hc
    obtain ⟨w3, hw3⟩ : ∃ W, two64 (addT x.pn e.chg) w2.drew rb (o + 5) = W := ⟨_, rfl⟩
    simp only [] at H3
    rw [hw3] at H3 S3 U3
    have d3 := (S3.ent j e hj).cell1 3 _ rfl
    have f3 := (S3.ent j e hj).frozen 3
    obtain ⟨S4, U4⟩ := S3.pins hj (p := e.pins + 1) (by omega)
    rw [hp] at d3 S4 U4
    have V4 : Hid (Upd (Sb rb mb ad x.ent.length) w (w3.setCell ⟨ad j, 3, none⟩ (.int .i64 ((0 + 1 : Nat) : Int)))) :=
      (U2.trans (((Upd.drew (Upd.refl _ w2)).trans U3).trans U4)).mono (fun k _ hk => .inr hk)
    have K4 : Hid (Kp o rc rc3) := K2.trans K3
    clear hw3 U2 U3 U4 K2 K3
    go_region_with (go_at_call 65; refine H3.mono ?_; rintro e' w3' ⟨rfl, hw⟩; have hw' := hw.symm; subst hw')
    go_wp2
    go_end0
    rw [e1.out, hp]
    exact ⟨rfl, rc3, S4, K4.out, V4.out⟩
  · have e1 : Hid (pinX x j = { x with ent := x.ent.set j { e with pins := e.pins + 1 } }) := by
      show pinX x j = _
      unfold pinX; rw [at_of hj]; simp only [if_neg hp]
    have hp' : (0 : Int) < (e.pins : Nat) := by omega
    have f3 := (h.ent j e hj).frozen 3
    obtain ⟨S4, U4⟩ := h.pins hj (p := e.pins + 1) hpl
    have U4' : Hid _ := U4
    have hw : IntKind.i64.wrap ((e.pins : Nat) + 1 : Int) = ((e.pins + 1 : Nat) : Int) := by
      rw [IntKind.wrap_i64] <;> omega
    clear U4
    go_enter Try.func46, Try.ntmps46
    go_wp2
    go_end0
    rw [e1.out]
    exact ⟨rfl, rc, S4, Kp.refl _ _, U4'.out.mono (fun k _ hk => .inr hk)⟩
set_option maxRecDepth 100000 in
set_option maxHeartbeats 2000000 in
theorem unpin_any (h : Sm w rb o mb rc ad x) {j : Nat} {e : En} (hj : x.ent[j]? = some e) (hp : 0 < e.pins) (hnq : j ∉ x.q) (h0 : ∀ i, i ∈ x.q → ∃ e, x.ent[i]? = some e ∧ e.pins = 0) {r : Nat} (hr : r < 18446744073709551616) :
    Calls Try.prog 45 #[.pointer (some ⟨rb, o, none⟩), .pointer (some ⟨ad j, 0, none⟩), .int .u64 r] w fun e w' => e = .returned (.tuple #[]) ∧
      ∃ rc', Sm w' rb o mb rc' ad (unpinX x j r) ∧ Kp o rc rc' ∧ Upd (Sb rb mb ad x.ent.length) w w' := by
  obtain ⟨hk, hc, hpl⟩ := h.wk j e hj
  have c3 := (h.ent j e hj).cell1 3 _ rfl
  have f3 := (h.ent j e hj).frozen 3
  obtain ⟨S1, U1⟩ := h.pins hj (p := e.pins - 1) (by omega)
  have hE1 : (x.ent.set j { e with pins := e.pins - 1 })[j]? = some { e with pins := e.pins - 1 } := List.getElem?_set_self (lt_of_get hj)
  have hL1 : (x.ent.set j { e with pins := e.pins - 1 }).length = x.ent.length := by simp
  have hsub : ((e.pins - 1 : Nat) : Int) = (e.pins : Nat) - 1 := by omega
  have hw : IntKind.i64.wrap ((e.pins : Nat) - 1 : Int) = ((e.pins - 1 : Nat) : Int) := by
    rw [IntKind.wrap_i64] <;> omega
  clear hsub
  obtain ⟨w1, hw1⟩ : ∃ W, w.setCell ⟨ad j, 3, none⟩ (.int .i64 ((e.pins - 1 : Nat) : Int)) = W := ⟨_, rfl⟩
  rw [hw1] at S1 U1
  have g3 := (S1.ent j _ hE1).cell1 3 _ rfl
  have U1' : Hid (Upd (Sb rb mb ad x.ent.length) w w1) := U1.mono (fun k _ hk => .inr hk)
  clear U1
  by_cases hp1 : 1 < e.pins
  · have e1 : Hid (unpinX x j r = { x with ent := x.ent.set j { e with pins := e.pins - 1 } }) := by
      show unpinX x j r = _
      unfold unpinX; rw [at_of hj]; simp only [if_pos hp1]
    have hp' : (0 : Int) < ((e.pins - 1 : Nat) : Int) := by omega
    go_enter Try.func45, Try.ntmps45
    go_wp2_with fail
    refine bodyPost_ret (v := .tuple #[]) (by simp [results, Try.results45, go_sem]) rfl ?_
    rw [e1.out]
    exact ⟨rfl, rc, S1, Kp.refl _ _, U1'.out⟩
  · have hpe : e.pins = 1 := by omega
    have hp0 : e.pins - 1 = 0 := by omega
    rw [hp0] at g3
    have hw1' : w.setCell ⟨ad j, 3, none⟩ (.int .i64 0) = w1 := by rw [← hw1, hp0]; rfl
    clear hw1
    have d2 : w1.cell? ⟨ad j, 2, none⟩ = some (.int .u64 e.chg) := (S1.ent j _ hE1).cell1 2 _ rfl
    obtain ⟨rc2, S2, K2, U2⟩ := S1.drew.two' (takeT_lt x.pn e.chg)
    have H2 := take_any S1.drew.row (o := o + 5) (S1.cel 5 _ rfl) (S1.cel 6 _ rfl) S1.pb e.chg hc
    obtain ⟨w2, hw2⟩ : ∃ W, two64 (takeT x.pn e.chg) w1.drew rb (o + 5) = W := ⟨_, rfl⟩
    simp only [] at H2
    rw [hw2] at H2 S2 U2
    rw [hL1] at U2
    have V2 : Hid (Upd (Sb rb mb ad x.ent.length) w w2.drew) := (U1'.out.trans (((Upd.drew (Upd.refl _ w1)).trans U2).mono (fun k _ hk => .inr hk))).drew
    have K2' : Hid (Kp o rc rc2) := K2
    clear U2 K2 hw2 U1'
    obtain ⟨D, hD, hs⟩ := S2.drew.map
    have hl := hD.lookup law9 Try.underlying59 (zero60 _) (key9 hk)
    simp only [] at hl
    have g0 := (S2.ent j _ hE1).cell1 0 _ rfl
    have r0 := S2.row.cell1 o _ (S2.cel 0 _ rfl)
    have S3 := S2.drew
    simp only [] at g0
    by_cases hf : x.f e.key.data.toList = some j
    · have e1 : Hid (unpinX x j r = roomX 0 r (x.q ++ [j]).length { x with ent := x.ent.set j { e with pins := e.pins - 1 }, pn := takeT x.pn e.chg, q := x.q ++ [j] }) := by
        show unpinX x j r = _
        unfold unpinX; rw [at_of hj]; simp only [if_neg hp1, if_pos hf]
      have HJ := join_any S3 (j := j) (by simp only []; rw [hL1]; exact lt_of_get hj) hnq
      rw [hf] at hl
      have hcmp := eq_same w2.drew (ad j)
      go_enter Try.func45, Try.ntmps45
      go_wp2_with fail
      clear hw1' c3 f3 g3
      go_region_with (go_at_call 67; refine H2.mono ?_; rintro e' w2' ⟨rfl, hw⟩; have hw' := hw.symm; subst hw')
      go_wp2
      go_region
      go_wp2_with (first
        | (go_at_call 68; refine HJ.mono ?_; rintro e' w4 ⟨rfl, rc4, S4, K4, U4⟩
           have HM := makeRoom_any S4 (fun i hi => by
             simp only [] at hi ⊢
             rcases List.mem_append.1 hi with hi | hi
             · obtain ⟨ei, h1, h2⟩ := h0 i hi
               refine ⟨ei, ?_, h2⟩
               rw [List.getElem?_set_ne (fun hh => hnq (by rw [hh]; exact hi))]
               exact h1
             · simp at hi; subst hi
               exact ⟨_, hE1, hp0⟩) (c := 0) (by omega) hr)
        | (go_at_call 39; have hq4 := S4; clear hq4; refine HM.mono ?_; rintro e' w5 ⟨rfl, rc5, S5, K5, U5⟩))
      go_end0
      rw [e1.out]
      rw [hL1] at U4 U5
      exact ⟨rfl, rc5, S5, K2'.out.trans (K4.trans K5), V2.out.trans ((U4.mono (fun k _ hk => .inr hk)).trans U5)⟩
    · have e1 : Hid (unpinX x j r = { x with ent := x.ent.set j { e with pins := e.pins - 1 }, pn := takeT x.pn e.chg, us := takeT x.us e.chg }) := by
        show unpinX x j r = _
        unfold unpinX; rw [at_of hj]; simp only [if_neg hp1, if_neg hf]
      have k2 : w2.drew.cell? ⟨ad j, 2, none⟩ = some (.int .u64 e.chg) := (S3.ent j _ hE1).cell1 2 _ rfl
      obtain ⟨rc4, S4, K4, U4⟩ := S3.drew.two (takeT_lt x.us e.chg)
      have H4 := take_any S3.drew.row (o := o + 3) (S3.cel 3 _ rfl) (S3.cel 4 _ rfl) S3.ub e.chg hc
      obtain ⟨w4, hw4⟩ : ∃ W, two64 (takeT x.us e.chg) w2.drew.drew rb (o + 3) = W := ⟨_, rfl⟩
      simp only [] at H4
      rw [hw4] at H4 S4 U4
      simp only [] at U4
      rw [hL1] at U4
      have V4 : Hid (Upd (Sb rb mb ad x.ent.length) w w4) := V2.out.trans ((Upd.drew (Upd.refl _ _)).trans (U4.mono (fun k _ hk => .inr hk)))
      have K4' : Hid (Kp o rc rc4) := K2'.out.trans K4
      clear U4 K4 hw4
      have hcmp : (binOp .eql 60 (.pointer (pa (Option.map ad (x.f e.key.data.toList)))) (.pointer (some ⟨ad j, 0, none⟩))).run Try.prog w2.drew = .ok (.bool false) w2.drew := by
        cases hg : x.f e.key.data.toList with
        | none => exact eq_nil _ _
        | some i =>
          have hi := h.fr _ _ hg
          refine eq_other ?_ (S3.ent i _ (List.getElem?_eq_getElem (by simp only []; rw [hL1]; exact hi))) (S3.ent j _ hE1)
          intro hh
          rw [hg] at hf
          exact hf (by rw [h.inj _ _ hi (lt_of_get hj) hh])
      generalize pa (Option.map ad (x.f e.key.data.toList)) = v at hl hcmp
      go_enter Try.func45, Try.ntmps45
      go_wp2_with fail
      clear hw1' c3 f3 g3
      go_region_with (go_at_call 67; refine H2.mono ?_; rintro e' w2' ⟨rfl, hw⟩; have hw' := hw.symm; subst hw')
      go_wp2
      go_region
      go_wp2
      go_region_with (go_at_call 67; have hq4 := S4; clear hq4; refine H4.mono ?_; rintro e' w4' ⟨rfl, hw⟩; have hw' := hw.symm; subst hw')
      go_wp2
      go_end0
      rw [e1.out]
      exact ⟨rfl, rc4, S4, K4'.out, V4.out⟩
end
end Go.Proofs.Ytlkfabejecgfgaa
