/-
  The cache of strings: contracts of the same functions at the other type.
-/
import Derived.Test.YtlkfabejecgfgaaTa
namespace Go.Proofs.Ytlkfabejecgfgaa.S
open Go.RowKit Go.Maps
set_option linter.unusedVariables false
set_option linter.unusedSimpArgs false
section
variable {w : World} {rb o mb : Nat} {rc : List Value} {ad : Nat → Nat} {x : Xs}
/-- What is used is turned. -/
theorem Sm.two (h : Sm w rb o mb rc ad x) {u : Nat} (hu : u < 340282366920938463463374607431768211456) : ∃ rc', Sm (two64 u w rb (o + 3)) rb o mb rc' ad { x with us := u } ∧ Kp o rc rc' ∧ Upd (Eb rb ad x.ent.length) w (two64 u w rb (o + 3)) := by
  have U : Upd (Eb rb ad x.ent.length) w (two64 u w rb (o + 3)) := Upd.setCell (Upd.setCell (Upd.refl _ _) (fun _ => .inl rfl) _) (fun _ => .inl rfl) _
  refine ⟨(rc.set (o + 3) _).set (o + 4) _, ⟨(h.row.set (o + 3) _).set (o + 4) _, (h.cel.set 3 _).set 4 _, ?_, (h.ent.row h.row _ _).row (h.row.set _ _) _ _, h.inj, h.nd, h.qr, h.fr, hu, h.pb, h.wk⟩, ((Kp.refl o rc).set 3 (by omega) _).set 4 (by omega) _, U⟩
  obtain ⟨D, hD, hs⟩ := h.map
  exact ⟨D, hD.upd U h.nemb, hs⟩
/-- What is pinned is turned. -/
theorem Sm.two' (h : Sm w rb o mb rc ad x) {u : Nat} (hu : u < 340282366920938463463374607431768211456) : ∃ rc', Sm (two64 u w rb (o + 5)) rb o mb rc' ad { x with pn := u } ∧ Kp o rc rc' ∧ Upd (Eb rb ad x.ent.length) w (two64 u w rb (o + 5)) := by
  have U : Upd (Eb rb ad x.ent.length) w (two64 u w rb (o + 5)) := Upd.setCell (Upd.setCell (Upd.refl _ _) (fun _ => .inl rfl) _) (fun _ => .inl rfl) _
  refine ⟨(rc.set (o + 5) _).set (o + 6) _, ⟨(h.row.set (o + 5) _).set (o + 6) _, (h.cel.set 5 _).set 6 _, ?_, (h.ent.row h.row _ _).row (h.row.set _ _) _ _, h.inj, h.nd, h.qr, h.fr, h.ub, hu, h.wk⟩, ((Kp.refl o rc).set 5 (by omega) _).set 6 (by omega) _, U⟩
  obtain ⟨D, hD, hs⟩ := h.map
  exact ⟨D, hD.upd U h.nemb, hs⟩
/-- The map is turned. -/
theorem Sm.mp (h : Sm w rb o mb rc ad x) {w' : World} {f' : List UInt8 → Option Nat} {c' : Nat} {D : DataW Unit} (hD : PM w' mb (fun k => (f' k).map ad) D) (hs : Maps.size D = c') (hg : w.grownBy w' (some mb)) (hf : ∀ k j, f' k = some j → j < x.ent.length) :
    Sm w' rb o mb rc ad { x with f := f', cnt := c' } ∧ Upd (fun k => k = mb) w w' := by
  have U : Upd (fun k => k = mb) w w' := Upd.grown (Upd.refl _ _) hg (fun k hk _ => by cases hk; rfl)
  refine ⟨⟨h.row.upd U ?_, h.cel, ⟨D, hD, hs⟩, h.ent.upd U ?_, h.inj, h.nd, h.qr, hf, h.ub, h.pb, h.wk⟩, U⟩
  · exact fun e => h.nemb (.inl e.symm)
  · exact fun i hi e => h.nemb (.inr ⟨i, hi, e.symm⟩)
theorem Sm.drew (h : Sm w rb o mb rc ad x) : Sm w.drew rb o mb rc ad x :=
  ⟨h.row, h.cel, by obtain ⟨D, hD, hs⟩ := h.map; exact ⟨D, hD.upd (Upd.drew (Upd.refl Non w)) (fun e => e), hs⟩, h.ent, h.inj, h.nd, h.qr, h.fr, h.ub, h.pb, h.wk⟩
set_option maxRecDepth 100000 in
set_option maxHeartbeats 1000000 in
theorem takeOut_any (h : Sm w rb o mb rc ad x) {j : Nat} {e : En} (hj : x.ent[j]? = some e) (hq : e.pins = 0 → j ∈ x.q) :
    Calls Try.prog 71 #[.pointer (some ⟨rb, o, none⟩), .pointer (some ⟨ad j, 0, none⟩)] w fun r w' => r = .returned (.tuple #[]) ∧
      ∃ rc', Sm w' rb o mb rc' ad (takeX x j) ∧ Kp o rc rc' ∧ Upd (Sb rb mb ad x.ent.length) w w' := by
  obtain ⟨D, hD, hs⟩ := h.map
  obtain ⟨hk, hc, hpl⟩ := h.wk j e hj
  have ej := h.ent j e hj
  have c0 := ej.cell1 0 _ rfl
  have r0 := h.row.cell1 o _ (h.cel 0 _ rfl)
  have hsz := hD.size_del law9 e.key.data.toList
  have key := key9 hk
  have hD' : PM w.drew mb (fun k => (x.f k).map ad) D := hD.upd (Upd.drew (Upd.refl Non w)) (fun e => e)
  go_enter Try.func71, Try.ntmps71
  go_wp2_with fail
  go_region_law (refine step_delete_km law9 injS rfl _ _ 102 rfl 103 Try.underlying102 rfl hD' rfl (k := e.key.data.toList) key ?_; intro w1 hm1 hg1)
  all_goals
    have hm2 : PM w1 mb (fun k => (fput x.f e.key.data.toList none k).map ad) (D.del (kS e.key.data.toList)) := by rw [map_fput]; exact hm1
    obtain ⟨S1, U1⟩ := h.drew.mp (c' := x.cnt - (if (x.f e.key.data.toList).isSome then 1 else 0)) hm2 (by rw [Option.isSome_map] at hsz; omega) hg1 (fun k i hi => by
      unfold fput at hi
      split at hi
      · cases hi
      · exact h.fr k i hi)
    have V1 : Upd (Sb rb mb ad x.ent.length) w w1 := ((Upd.drew (Upd.refl (fun k => k = mb) w)).trans U1).mono (fun k _ hk => .inl hk)
    have ej1 := S1.ent j e hj
    have d3 := ej1.cell1 3 _ rfl
    clear hm1 hg1 hm2 U1 c0 r0 hsz hD' key
    by_cases hp : e.pins = 0
    · have e1 : takeX x j = { x with f := fput x.f e.key.data.toList none, cnt := x.cnt - (if (x.f e.key.data.toList).isSome then 1 else 0), q := x.q.erase j, us := takeT x.us e.chg } := by
        unfold takeX; rw [at_of hj]; simp only [if_pos hp]
      have e1' : Hid _ := e1
      clear e1
      have HL := leave_any S1 (hq hp)
      rw [hp] at d3
      go_wp2_with (go_at_call 72; refine HL.mono ?_; rintro e' w2 ⟨rfl, rc2, S2, K2, U2⟩
                   have d2 := (S2.ent j e hj).cell1 2 _ rfl
                   clear d3 HL)
      obtain ⟨rc3, S3, K3, U3⟩ := S2.drew.two (takeT_lt x.us e.chg)
      have V3 : Upd (Sb rb mb ad x.ent.length) w (two64 (takeT x.us e.chg) w2.drew rb (o + 3)) := V1.trans ((U2.trans ((Upd.drew (Upd.refl _ w2)).trans U3)).mono (fun k _ hk => .inr hk))
      have V3' : Hid _ := V3
      clear V3 U3 U2 V1
      go_region_with (go_at_call 67; refine (take_any S2.drew.row (o := o + 3) (S2.cel 3 _ rfl) (S2.cel 4 _ rfl) S2.ub e.chg hc).mono ?_; rintro e' w3 ⟨rfl, hw3⟩)
      go_wp2
      go_end0
      rw [e1'.out]
      subst hw3
      exact ⟨rfl, rc3, S3, K2.trans K3, V3'.out⟩
    · have e1 : takeX x j = { x with f := fput x.f e.key.data.toList none, cnt := x.cnt - (if (x.f e.key.data.toList).isSome then 1 else 0) } := by
        unfold takeX; rw [at_of hj]; simp only [if_neg hp]
      have e1' : Hid _ := e1
      clear e1
      have hp' : (0 : Int) < (e.pins : Nat) := by omega
      go_wp2_with fail
      go_end0
      rw [e1'.out]
      exact ⟨rfl, rc, S1, Kp.refl _ _, V1⟩
end
section
variable {w : World} {rb o mb : Nat} {rc : List Value} {ad : Nat → Nat} {x : Xs}
set_option maxRecDepth 100000 in
set_option maxHeartbeats 1000000 in
theorem exceeds_any (h : Sm w rb o mb rc ad x) {c r : Nat} (hc : c < 18446744073709551616) (hr : r < 18446744073709551616) :
    Calls Try.prog 52 #[.pointer (some ⟨rb, o, none⟩), .int .u64 c, .int .u64 r] w fun e w' => e = .returned (.bool (excX x c r)) ∧ w' = w := by
  have H1 := told_any h.row (o := o + 3) (h.cel 3 _ rfl) (h.cel 4 _ rfl)
  have H2 := plus_any w c (tolT x.us) hc (tolT_lt _)
  have e1 : excX x c r = decide (r < plusT c (tolT x.us)) := rfl
  rw [e1]
  clear e1
  generalize plusT c (tolT x.us) = P at *
  generalize tolT x.us = T at *
  go_enter Try.func52, Try.ntmps52
  go_wp2_with (first
    | (go_at_call 44; refine H1.mono ?_; rintro e w1 ⟨rfl, hw⟩; have hw' := hw.symm; subst hw')
    | (go_at_call 43; refine H2.mono ?_; rintro e w1 ⟨rfl, hw⟩; have hw' := hw.symm; subst hw'))
  go_ret
  exact ⟨rfl, rfl⟩
set_option maxRecDepth 100000 in
set_option maxHeartbeats 2000000 in
theorem makeRoom_any (h : Sm w rb o mb rc ad x) (h0 : ∀ j, j ∈ x.q → ∃ e, x.ent[j]? = some e ∧ e.pins = 0) {c r : Nat} (hc : c < 18446744073709551616) (hr : r < 18446744073709551616) :
    Calls Try.prog 51 #[.pointer (some ⟨rb, o, none⟩), .int .u64 c, .int .u64 r] w fun e w' => e = .returned (.tuple #[]) ∧
      ∃ rc', Sm w' rb o mb rc' ad (roomX c r x.q.length x) ∧ Kp o rc rc' ∧ Upd (Sb rb mb ad x.ent.length) w w' := by
  go_enter Try.func51, Try.ntmps51
  go_wp2_with fail
  go_loopg [] x.q.length (fun k wr => ∃ y rc1, Sm wr rb o mb rc1 ad y ∧ y.ent = x.ent ∧ (∀ j, j ∈ y.q → j ∈ x.q) ∧ k = y.q.length ∧ roomX c r k y = roomX c r x.q.length x ∧ Kp o rc rc1 ∧ Upd (Sb rb mb ad x.ent.length) w wr)
  case atStart => exact ⟨x, rc, h, rfl, fun _ hj => hj, rfl, rfl, Kp.refl _ _, Upd.refl _ _⟩
  case round =>
    obtain ⟨y, rc1, S, he, hsub, hk, hX, hK, hU⟩ := hrel
    have hX' : Hid _ := hX
    clear hX
    have c1 := S.row.cell1 (o + 1) _ (S.cel 1 _ rfl)
    cases hq : y.q with
    | nil =>
      rw [hq] at c1
      go_wp2_with fail
      go_end0
      refine ⟨rfl, rc1, ?_, hK, hU⟩
      rw [← hX'.out, roomX_stop (.inl hq)]
      exact S
    | cons j t =>
      obtain ⟨e, hj, hp⟩ := h0 j (hsub j (by rw [hq]; exact List.mem_cons_self))
      have hj' : y.ent[j]? = some e := by rw [he]; exact hj
      have HE := exceeds_any S hc hr
      rw [hq] at c1
      cases hx : excX y c r with
      | false =>
        rw [hx] at HE
        go_wp2_with (go_at_call 52; refine HE.mono ?_; rintro e w1 ⟨rfl, hw⟩; have hw' := hw.symm; subst hw')
        go_end0
        refine ⟨rfl, rc1, ?_, hK, hU⟩
        rw [← hX'.out, roomX_stop (.inr hx)]
        exact S
      | true =>
        rw [hx] at HE
        have HT := takeOut_any S hj' (fun _ => by rw [hq]; exact List.mem_cons_self)
        go_wp2_with (first
          | (go_at_call 52; refine HE.mono ?_; rintro e w1 ⟨rfl, hw⟩; have hw' := hw.symm; subst hw')
          | (go_at_call 71; refine HT.mono ?_; rintro e w2 ⟨rfl, rc2, S2, K2, U2⟩))
        have hq2 : (takeX y j).q = t := by
          unfold takeX; rw [at_of hj']; simp only [if_pos hp]; rw [hq]; simp
        go_roundg t.length
        case measure => rw [hk, hq]; simp
        case rel =>
          refine ⟨takeX y j, rc2, S2, he, fun i hi => hsub i (by rw [hq]; rw [hq2] at hi; exact List.mem_cons_of_mem _ hi), by rw [hq2], ?_, hK.trans K2, hU.trans (by rw [← he]; exact U2)⟩
          rw [← hX'.out, hk, hq]
          show _ = roomX c r (t.length + 1) y
          conv => rhs; unfold roomX
          rw [hq]
          simp [hx]
end
section
variable {w : World} {rb o mb : Nat} {rc : List Value} {ad : Nat → Nat} {x : Xs}
theorem Sm.pins (h : Sm w rb o mb rc ad x) {j : Nat} {e : En} (hj : x.ent[j]? = some e) {p : Nat} (hp : p < 4611686018427387904) :
    Sm (w.setCell ⟨ad j, 3, none⟩ (.int .i64 p)) rb o mb rc ad { x with ent := x.ent.set j { e with pins := p } } ∧ Upd (Eb rb ad x.ent.length) w (w.setCell ⟨ad j, 3, none⟩ (.int .i64 p)) := by
  have U : Upd (Eb rb ad x.ent.length) w (w.setCell ⟨ad j, 3, none⟩ (.int .i64 p)) := Upd.setCell (Upd.refl _ _) (fun _ => .inr ⟨j, lt_of_get hj, rfl⟩) _
  refine ⟨⟨h.row.other (a := ⟨ad j, 3, none⟩) (h.ent.rb h.row (lt_of_get hj)) _, h.cel, ?_, h.ent.setG h.inj hj p, by simpa using h.inj, h.nd, by simpa using h.qr, by simpa using h.fr, h.ub, h.pb, ?_⟩, U⟩
  · obtain ⟨D, hD, hs⟩ := h.map
    exact ⟨D, hD.upd U h.nemb, hs⟩
  · intro i e' hi
    by_cases c : j = i
    · subst c
      simp only [] at hi
      rw [List.getElem?_set_self (lt_of_get hj)] at hi
      cases hi
      exact ⟨(h.wk j e hj).1, (h.wk j e hj).2.1, hp⟩
    · simp only [] at hi
      rw [List.getElem?_set_ne c] at hi
      exact h.wk i e' hi
set_option maxRecDepth 100000 in
set_option maxHeartbeats 2000000 in
theorem put_any (h : Sm w rb o mb rc ad x) {n : Nat} {e : En} (hn : x.ent[n]? = some e) (hold : ∀ j, x.f e.key.data.toList = some j → ∃ e', x.ent[j]? = some e' ∧ e'.key.data.toList = e.key.data.toList ∧ (e'.pins = 0 → j ∈ x.q)) (hcnt : x.cnt + 1 < maxLen) :
    Calls Try.prog 53 #[.pointer (some ⟨rb, o, none⟩), .pointer (some ⟨ad n, 0, none⟩)] w fun r w' => r = .returned (.tuple #[]) ∧
      ∃ rc', Sm w' rb o mb rc' ad (put1 x n) ∧ Kp o rc rc' ∧ Upd (Sb rb mb ad x.ent.length) w w' := by
  obtain ⟨D, hD, hs⟩ := h.drew.map
  obtain ⟨hk, hc, hpl⟩ := h.wk n e hn
  have en := h.ent n e hn
  have c0 := en.cell1 0 _ rfl
  have r0 := h.row.cell1 o _ (h.cel 0 _ rfl)
  have key := key9 hk
  have hl := hD.lookok law9 Try.underlying102 (zero103 _) key
  -- from behind the taking out on
  have T : ∀ (y : Xs) (rc1 : List Value) (W : World), Sm W rb o mb rc1 ad y → y.ent = x.ent → y.f e.key.data.toList = none → y.cnt ≤ x.cnt → ∃ w3 rc', (Instr.mapUpdate 102 (.map (some mb)) (.string e.key) (.pointer (some ⟨ad n, 0, none⟩))).run Try.prog W = .ok () w3 ∧
      Sm w3 rb o mb rc' ad { y with f := fput y.f e.key.data.toList (some n), cnt := y.cnt + 1 } ∧ Kp o rc1 rc' ∧ Upd (fun k => k = mb) W w3 := by
    intro y rc1 W S hy hf hcn
    obtain ⟨D1, hD1, hs1⟩ := S.map
    obtain ⟨w3, hr, hm, hg⟩ := hD1.store law9 injS iskS (by rw [hs1]; omega) Try.underlying102 key (ad n)
    have hm2 : PM w3 mb (fun k => (fput y.f e.key.data.toList (some n) k).map ad) (D1.put (kS e.key.data.toList) (ptrD (some (ad n)))) := by rw [map_fput]; exact hm
    obtain ⟨S3, U3⟩ := S.mp (c' := y.cnt + 1) hm2 (by rw [hD1.size_put law9, hf]; simpa using hs1) hg (fun k i hi => by
      unfold fput at hi
      split at hi
      · cases hi; rw [hy]; exact lt_of_get hn
      · exact S.fr k i hi)
    exact ⟨w3, rc1, hr, S3, Kp.refl _ _, U3⟩
  go_enter Try.func53, Try.ntmps53
  go_wp2_with fail
  rcases hfk : x.f e.key.data.toList with _ | j
  · have q1 : Hid (put1 x n = put2 x e n) := put1_none hn hfk
    have S1 : Sm w.drew.drew rb o mb rc ad x := h.drew.drew
    obtain ⟨w3, rc3, hr3, S3, K3, U3⟩ := T x rc w.drew.drew S1 rfl hfk (Nat.le_refl _)
    have V3 : Hid (Upd (Sb rb mb ad x.ent.length) w w3) := ((Upd.drew (Upd.drew (Upd.refl _ w))).trans (U3.mono (fun k _ hk => .inl hk)))
    have K3' : Hid (Kp o rc rc3) := K3
    have hnY := hn
    have d0 := c0
    rw [hfk] at hl
    go_region
    go_wp2_with fail
    clear hl T U3 K3
    go_region
    have d2 := (S3.ent n e hnY).cell1 2 _ rfl
    obtain ⟨rc4, S4, K4, U4⟩ := S3.drew.two (addT_lt x.us e.chg)
    have H4 := add_any S3.drew.row (o := o + 3) (S3.cel 3 _ rfl) (S3.cel 4 _ rfl) S3.ub e.chg hc
    obtain ⟨w4, hw4⟩ : ∃ W, two64 (addT x.us e.chg) w3.drew rb (o + 3) = W := ⟨_, rfl⟩
    simp only [] at H4
    rw [hw4] at H4 S4 U4
    have d3 := (S4.ent n e hnY).cell1 2 _ rfl
    obtain ⟨rc5, S5, K5, U5⟩ := S4.drew.two' (addT_lt x.pn e.chg)
    have H5 := add_any S4.drew.row (o := o + 5) (S4.cel 5 _ rfl) (S4.cel 6 _ rfl) S4.pb e.chg hc
    obtain ⟨w5, hw5⟩ : ∃ W, two64 (addT x.pn e.chg) w4.drew rb (o + 5) = W := ⟨_, rfl⟩
    simp only [] at H5
    rw [hw5] at H5 S5 U5
    have d4 := (S5.ent n e hnY).cell1 3 _ rfl
    have f4 := (S5.ent n e hnY).frozen 3
    obtain ⟨S6, U6⟩ := S5.pins hnY (p := 1) (by omega)
    have V6 : Hid (Upd (Sb rb mb ad x.ent.length) w (w5.setCell ⟨ad n, 3, none⟩ (.int .i64 (1 : Nat)))) := by
      refine V3.out.trans (Upd.mono (S := Eb rb ad x.ent.length) ?_ (fun k _ hk => .inr hk))
      exact ((Upd.drew (Upd.refl _ w3)).trans U4).trans (((Upd.drew (Upd.refl _ w4)).trans U5).trans U6)
    have K6 : Hid (Kp o rc rc5) := K3'.out.trans (K4.trans K5)
    clear hw4 hw5 U4 U5 U6 K4 K5
    clear d0 r0 c0 hr3
    go_wp2
    go_region_with (go_at_call 65; refine H4.mono ?_; rintro e' w4' ⟨rfl, hw⟩; have hw' := hw.symm; subst hw')
    go_wp2
    go_region_with (go_at_call 65; refine H5.mono ?_; rintro e' w5' ⟨rfl, hw⟩; have hw' := hw.symm; subst hw')
    go_wp2
    go_end0
    rw [q1.out]
    exact ⟨rfl, rc5, S6, K6.out, V6.out⟩
  · obtain ⟨e', hj, hke, hpq⟩ := hold j hfk
    have q1 : Hid (put1 x n = put2 (takeX x j) e n) := put1_some hn hfk
    have HT := takeOut_any h.drew hj hpq
    have d0 := c0
    rw [hfk] at hl
    go_region
    go_wp2_with (go_at_call 71; refine HT.mono ?_; rintro e1 w2 ⟨rfl, rc2, S2, K2, U2⟩; clear hl)
    have hf2 : (takeX x j).f e.key.data.toList = none := by
      unfold takeX; rw [at_of hj]; simp only [hke]; simp [fput]
    have hcn : (takeX x j).cnt ≤ x.cnt := by unfold takeX; simp
    obtain ⟨w3, rc3, hr3, S3, K3, U3⟩ := T (takeX x j) rc2 w2.drew S2.drew rfl hf2 hcn
    have V3 : Hid (Upd (Sb rb mb ad x.ent.length) w w3) := ((Upd.drew (Upd.refl _ w)).trans U2).trans ((Upd.drew (Upd.refl _ w2)).trans (U3.mono (fun k _ hk => .inl hk)))
    have K3' : Hid (Kp o rc rc3) := K2.trans K3
    have hyE : Hid ((takeX x j).ent = x.ent) := rfl
    have hnY : (takeX x j).ent[n]? = some e := hn
    have g0 := (S2.ent n e hnY).cell1 0 _ rfl
    have g1 := S2.row.cell1 o _ (S2.cel 0 _ rfl)
    clear T U3 K3 K2 U2 hf2 hcn HT
    go_region
    have d2 := (S3.ent n e hnY).cell1 2 _ rfl
    obtain ⟨rc4, S4, K4, U4⟩ := S3.drew.two (addT_lt (takeX x j).us e.chg)
    have H4 := add_any S3.drew.row (o := o + 3) (S3.cel 3 _ rfl) (S3.cel 4 _ rfl) S3.ub e.chg hc
    obtain ⟨w4, hw4⟩ : ∃ W, two64 (addT (takeX x j).us e.chg) w3.drew rb (o + 3) = W := ⟨_, rfl⟩
    simp only [] at H4
    rw [hw4] at H4 S4 U4
    have d3 := (S4.ent n e hnY).cell1 2 _ rfl
    obtain ⟨rc5, S5, K5, U5⟩ := S4.drew.two' (addT_lt (takeX x j).pn e.chg)
    have H5 := add_any S4.drew.row (o := o + 5) (S4.cel 5 _ rfl) (S4.cel 6 _ rfl) S4.pb e.chg hc
    obtain ⟨w5, hw5⟩ : ∃ W, two64 (addT (takeX x j).pn e.chg) w4.drew rb (o + 5) = W := ⟨_, rfl⟩
    simp only [] at H5
    rw [hw5] at H5 S5 U5
    have d4 := (S5.ent n e hnY).cell1 3 _ rfl
    have f4 := (S5.ent n e hnY).frozen 3
    obtain ⟨S6, U6⟩ := S5.pins hnY (p := 1) (by omega)
    have V6 : Hid (Upd (Sb rb mb ad x.ent.length) w (w5.setCell ⟨ad n, 3, none⟩ (.int .i64 (1 : Nat)))) := by
      refine V3.out.trans (Upd.mono (S := Eb rb ad x.ent.length) ?_ (fun k _ hk => .inr hk))
      rw [hyE.out] at U4 U5 U6
      exact ((Upd.drew (Upd.refl _ w3)).trans U4).trans (((Upd.drew (Upd.refl _ w4)).trans U5).trans U6)
    have K6 : Hid (Kp o rc rc5) := K3'.out.trans (K4.trans K5)
    clear hw4 hw5 U4 U5 U6 K4 K5
    clear d0 r0 c0 hr3 g0 g1
    go_wp2
    go_region_with (go_at_call 65; refine H4.mono ?_; rintro e' w4' ⟨rfl, hw⟩; have hw' := hw.symm; subst hw')
    go_wp2
    go_region_with (go_at_call 65; refine H5.mono ?_; rintro e' w5' ⟨rfl, hw⟩; have hw' := hw.symm; subst hw')
    go_wp2
    go_end0
    rw [q1.out]
    exact ⟨rfl, rc5, S6, K6.out, V6.out⟩
end
section
variable {w : World} {rb o mb : Nat} {rc : List Value} {ad : Nat → Nat} {x : Xs}
set_option maxRecDepth 100000 in
set_option maxHeartbeats 2000000 in
theorem pin_any (h : Sm w rb o mb rc ad x) {j : Nat} {e : En} (hj : x.ent[j]? = some e) (hq : e.pins = 0 → j ∈ x.q) (hpl : e.pins + 1 < 4611686018427387904) :
    Calls Try.prog 55 #[.pointer (some ⟨rb, o, none⟩), .pointer (some ⟨ad j, 0, none⟩)] w fun r w' => r = .returned (.tuple #[]) ∧
      ∃ rc', Sm w' rb o mb rc' ad (pinX x j) ∧ Kp o rc rc' ∧ Upd (Sb rb mb ad x.ent.length) w w' := by
  obtain ⟨hk, hc, _⟩ := h.wk j e hj
  have c3 := (h.ent j e hj).cell1 3 _ rfl
  by_cases hp : e.pins = 0
  · have e1 : Hid (pinX x j = { x with ent := x.ent.set j { e with pins := e.pins + 1 }, q := x.q.erase j, pn := addT x.pn e.chg }) := by
      show pinX x j = _
      unfold pinX; rw [at_of hj]; simp only [if_pos hp]
    have HL := leave_any h (hq hp)
    rw [hp] at c3
    go_enter Try.func55, Try.ntmps55
    go_wp2_with (go_at_call 72; refine HL.mono ?_; rintro e' w2 ⟨rfl, rc2, S2, K2, U2⟩; clear c3 HL)
    have d2 := (S2.ent j e hj).cell1 2 _ rfl
    obtain ⟨rc3, S3, K3, U3⟩ := S2.drew.two' (addT_lt x.pn e.chg)
    have H3 := add_any S2.drew.row (o := o + 5) (S2.cel 5 _ rfl) (S2.cel 6 _ rfl) S2.pb e.chg hc
    obtain ⟨w3, hw3⟩ : ∃ W, two64 (addT x.pn e.chg) w2.drew rb (o + 5) = W := ⟨_, rfl⟩
    simp only [] at H3
    rw [hw3] at H3 S3 U3
    have d3 := (S3.ent j e hj).cell1 3 _ rfl
    have f3 := (S3.ent j e hj).frozen 3
    obtain ⟨S4, U4⟩ := S3.pins hj (p := e.pins + 1) (by omega)
    rw [hp] at d3 S4 U4
    have V4 : Hid (Upd (Sb rb mb ad x.ent.length) w (w3.setCell ⟨ad j, 3, none⟩ (.int .i64 ((0 + 1 : Nat) : Int)))) :=
      (U2.trans (((Upd.drew (Upd.refl _ w2)).trans U3).trans U4)).mono (fun k _ hk => .inr hk)
    have K4 : Hid (Kp o rc rc3) := K2.trans K3
    clear hw3 U2 U3 U4 K2 K3
    go_region_with (go_at_call 65; refine H3.mono ?_; rintro e' w3' ⟨rfl, hw⟩; have hw' := hw.symm; subst hw')
    go_wp2
    go_end0
    rw [e1.out, hp]
    exact ⟨rfl, rc3, S4, K4.out, V4.out⟩
  · have e1 : Hid (pinX x j = { x with ent := x.ent.set j { e with pins := e.pins + 1 } }) := by
      show pinX x j = _
      unfold pinX; rw [at_of hj]; simp only [if_neg hp]
    have hp' : (0 : Int) < (e.pins : Nat) := by omega
    have f3 := (h.ent j e hj).frozen 3
    obtain ⟨S4, U4⟩ := h.pins hj (p := e.pins + 1) hpl
    have U4' : Hid _ := U4
    have hw : IntKind.i64.wrap ((e.pins : Nat) + 1 : Int) = ((e.pins + 1 : Nat) : Int) := by
      rw [IntKind.wrap_i64] <;> omega
    clear U4
    go_enter Try.func55, Try.ntmps55
    go_wp2
    go_end0
    rw [e1.out]
    exact ⟨rfl, rc, S4, Kp.refl _ _, U4'.out.mono (fun k _ hk => .inr hk)⟩
end
end Go.Proofs.Ytlkfabejecgfgaa.S
