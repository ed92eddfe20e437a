import Derived.Test.YtlkfabejecgfgaaEc
import Derived.BigQuiet
namespace Go.Proofs.Ytlkfabejecgfgaa
open Go.RowKit Go.Maps
set_option linter.unusedVariables false
set_option linter.unusedSimpArgs false
section
variable {w : World} {rb o mb : Nat} {rc : List Value} {ad : Nat → Nat} {x : Xs}
theorem Sm.pins (h : Sm w rb o mb rc ad x) {j : Nat} {e : En} (hj : x.ent[j]? = some e) {p : Nat} (hp : p < 4611686018427387904) :
    Sm (w.setCell ⟨ad j, 3, none⟩ (.int .i64 p)) rb o mb rc ad { x with ent := x.ent.set j { e with pins := p } } ∧ Upd (Eb rb ad x.ent.length) w (w.setCell ⟨ad j, 3, none⟩ (.int .i64 p)) := by
  have U : Upd (Eb rb ad x.ent.length) w (w.setCell ⟨ad j, 3, none⟩ (.int .i64 p)) := Upd.setCell (Upd.refl _ _) (fun _ => .inr ⟨j, lt_of_get hj, rfl⟩) _
  refine ⟨⟨h.row.other (a := ⟨ad j, 3, none⟩) (h.ent.rb h.row (lt_of_get hj)) _, h.cel, ?_, h.ent.setG h.inj hj p, by simpa using h.inj, h.nd, by simpa using h.qr, by simpa using h.fr, h.ub, h.pb, ?_⟩, U⟩
  · obtain ⟨D, hD, hs⟩ := h.map
    exact ⟨D, hD.upd U h.nemb, hs⟩
  · intro i e' hi
    by_cases c : j = i
    · subst c
      simp only [] at hi
      rw [List.getElem?_set_self (lt_of_get hj)] at hi
      cases hi
      exact ⟨(h.wk j e hj).1, (h.wk j e hj).2.1, hp⟩
    · simp only [] at hi
      rw [List.getElem?_set_ne c] at hi
      exact h.wk i e' hi
def put2 (y : Xs) (e : En) (n : Nat) : Xs := { y with ent := y.ent.set n { e with pins := 1 }, f := fput y.f e.key.data.toList (some n), cnt := y.cnt + 1, us := addT y.us e.chg, pn := addT y.pn e.chg }
theorem put1_none {n : Nat} {e : En} (hn : x.ent[n]? = some e) (h : x.f e.key.data.toList = none) : put1 x n = put2 x e n := by
  unfold put1 put2; rw [at_of hn]; simp only [h]
theorem put1_some {n j : Nat} {e : En} (hn : x.ent[n]? = some e) (h : x.f e.key.data.toList = some j) : put1 x n = put2 (takeX x j) e n := by
  unfold put1 put2; rw [at_of hn]; simp only [h]
set_option maxRecDepth 100000 in
set_option maxHeartbeats 2000000 in
theorem put_any (h : Sm w rb o mb rc ad x) {n : Nat} {e : En} (hn : x.ent[n]? = some e) (hold : ∀ j, x.f e.key.data.toList = some j → ∃ e', x.ent[j]? = some e' ∧ e'.key.data.toList = e.key.data.toList ∧ (e'.pins = 0 → j ∈ x.q)) (hcnt : x.cnt + 1 < maxLen) :
    Calls Try.prog 41 #[.pointer (some ⟨rb, o, none⟩), .pointer (some ⟨ad n, 0, none⟩)] w fun r w' => r = .returned (.tuple #[]) ∧
      ∃ rc', Sm w' rb o mb rc' ad (put1 x n) ∧ Kp o rc rc' ∧ Upd (Sb rb mb ad x.ent.length) w w' := by
  obtain ⟨D, hD, hs⟩ := h.drew.map
  obtain ⟨hk, hc, hpl⟩ := h.wk n e hn
  have en := h.ent n e hn
  have c0 := en.cell1 0 _ rfl
  have r0 := h.row.cell1 o _ (h.cel 0 _ rfl)
  have key := key9 hk
  have hl := hD.lookok law9 Try.underlying59 (zero60 _) key
  -- from behind the taking out on
  have T : ∀ (y : Xs) (rc1 : List Value) (W : World), Sm W rb o mb rc1 ad y → y.ent = x.ent → y.f e.key.data.toList = none → y.cnt ≤ x.cnt → ∃ w3 rc', (Instr.mapUpdate 59 (.map (some mb)) (.string e.key) (.pointer (some ⟨ad n, 0, none⟩))).run Try.prog W = .ok () w3 ∧
      Sm w3 rb o mb rc' ad { y with f := fput y.f e.key.data.toList (some n), cnt := y.cnt + 1 } ∧ Kp o rc1 rc' ∧ Upd (fun k => k = mb) W w3 := by
    intro y rc1 W S hy hf hcn
    obtain ⟨D1, hD1, hs1⟩ := S.map
    obtain ⟨w3, hr, hm, hg⟩ := hD1.store law9 injS iskS (by rw [hs1]; omega) Try.underlying59 key (ad n)
    have hm2 : PM w3 mb (fun k => (fput y.f e.key.data.toList (some n) k).map ad) (D1.put (kS e.key.data.toList) (ptrD (some (ad n)))) := by rw [map_fput]; exact hm
    obtain ⟨S3, U3⟩ := S.mp (c' := y.cnt + 1) hm2 (by rw [hD1.size_put law9, hf]; simpa using hs1) hg (fun k i hi => by
      unfold fput at hi
      split at hi
      · cases hi; rw [hy]; exact lt_of_get hn
      · exact S.fr k i hi)
    exact ⟨w3, rc1, hr, S3, Kp.refl _ _, U3⟩
  go_enter Try.func41, Try.ntmps41
  go_wp2_with fail
  rcases hfk : x.f e.key.data.toList with _ | j
  · have q1 : Hid (put1 x n = put2 x e n) := put1_none hn hfk
    have S1 : Sm w.drew.drew rb o mb rc ad x := h.drew.drew
    obtain ⟨w3, rc3, hr3, S3, K3, U3⟩ := T x rc w.drew.drew S1 rfl hfk (Nat.le_refl _)
    have V3 : Hid (Upd (Sb rb mb ad x.ent.length) w w3) := ((Upd.drew (Upd.drew (Upd.refl _ w))).trans (U3.mono (fun k _ hk => .inl hk)))
    have K3' : Hid (Kp o rc rc3) := K3
    have hnY := hn
    have d0 := c0
    rw [hfk] at hl
    go_region
    go_wp2_with fail
    clear hl T U3 K3
    go_region
    have d2 := (S3.ent n e hnY).cell1 2 _ rfl
    obtain ⟨rc4, S4, K4, U4⟩ := S3.drew.two (addT_lt x.us e.chg)
    have H4 := add_any S3.drew.row (o := o + 3) (S3.cel 3 _ rfl) (S3.cel 4 _ rfl) S3.ub e.chg hc
    obtain ⟨w4, hw4⟩ : ∃ W, two64 (addT x.us e.chg) w3.drew rb (o + 3) = W := ⟨_, rfl⟩
    simp only [] at H4
    rw [hw4] at H4 S4 U4
    have d3 := (S4.ent n e hnY).cell1 2 _ rfl
    obtain ⟨rc5, S5, K5, U5⟩ := S4.drew.two' (addT_lt x.pn e.chg)
    have H5 := add_any S4.drew.row (o := o + 5) (S4.cel 5 _ rfl) (S4.cel 6 _ rfl) S4.pb e.chg hc
    obtain ⟨w5, hw5⟩ : ∃ W, two64 (addT x.pn e.chg) w4.drew rb (o + 5) = W := ⟨_, rfl⟩
    simp only [] at H5
    rw [hw5] at H5 S5 U5
    have d4 := (S5.ent n e hnY).cell1 3 _ rfl
    have f4 := (S5.ent n e hnY).frozen 3
    obtain ⟨S6, U6⟩ := S5.pins hnY (p := 1) (by omega)
    have V6 : Hid (Upd (Sb rb mb ad x.ent.length) w (w5.setCell ⟨ad n, 3, none⟩ (.int .i64 (1 : Nat)))) := by
      refine V3.out.trans (Upd.mono (S := Eb rb ad x.ent.length) ?_ (fun k _ hk => .inr hk))
      exact ((Upd.drew (Upd.refl _ w3)).trans U4).trans (((Upd.drew (Upd.refl _ w4)).trans U5).trans U6)
    have K6 : Hid (Kp o rc rc5) := K3'.out.trans (K4.trans K5)
    clear hw4 hw5 U4 U5 U6 K4 K5
    clear d0 r0 c0 hr3
    go_wp2
    go_region_with (go_at_call 65; refine H4.mono ?_; rintro e' w4' ⟨rfl, hw⟩; have hw' := hw.symm; subst hw')
    go_wp2
    go_region_with (go_at_call 65; refine H5.mono ?_; rintro e' w5' ⟨rfl, hw⟩; have hw' := hw.symm; subst hw')
    go_wp2
    go_end0
    rw [q1.out]
    exact ⟨rfl, rc5, S6, K6.out, V6.out⟩
  · obtain ⟨e', hj, hke, hpq⟩ := hold j hfk
    have q1 : Hid (put1 x n = put2 (takeX x j) e n) := put1_some hn hfk
    have HT := takeOut_any h.drew hj hpq
    have d0 := c0
    rw [hfk] at hl
    go_region
    go_wp2_with (go_at_call 47; refine HT.mono ?_; rintro e1 w2 ⟨rfl, rc2, S2, K2, U2⟩; clear hl)
    have hf2 : (takeX x j).f e.key.data.toList = none := by
      unfold takeX; rw [at_of hj]; simp only [hke]; simp [fput]
    have hcn : (takeX x j).cnt ≤ x.cnt := by unfold takeX; simp
    obtain ⟨w3, rc3, hr3, S3, K3, U3⟩ := T (takeX x j) rc2 w2.drew S2.drew rfl hf2 hcn
    have V3 : Hid (Upd (Sb rb mb ad x.ent.length) w w3) := ((Upd.drew (Upd.refl _ w)).trans U2).trans ((Upd.drew (Upd.refl _ w2)).trans (U3.mono (fun k _ hk => .inl hk)))
    have K3' : Hid (Kp o rc rc3) := K2.trans K3
    have hyE : Hid ((takeX x j).ent = x.ent) := rfl
    have hnY : (takeX x j).ent[n]? = some e := hn
    have g0 := (S2.ent n e hnY).cell1 0 _ rfl
    have g1 := S2.row.cell1 o _ (S2.cel 0 _ rfl)
    clear T U3 K3 K2 U2 hf2 hcn HT
    go_region
    have d2 := (S3.ent n e hnY).cell1 2 _ rfl
    obtain ⟨rc4, S4, K4, U4⟩ := S3.drew.two (addT_lt (takeX x j).us e.chg)
    have H4 := add_any S3.drew.row (o := o + 3) (S3.cel 3 _ rfl) (S3.cel 4 _ rfl) S3.ub e.chg hc
    obtain ⟨w4, hw4⟩ : ∃ W, two64 (addT (takeX x j).us e.chg) w3.drew rb (o + 3) = W := ⟨_, rfl⟩
    simp only [] at H4
    rw [hw4] at H4 S4 U4
    have d3 := (S4.ent n e hnY).cell1 2 _ rfl
    obtain ⟨rc5, S5, K5, U5⟩ := S4.drew.two' (addT_lt (takeX x j).pn e.chg)
    have H5 := add_any S4.drew.row (o := o + 5) (S4.cel 5 _ rfl) (S4.cel 6 _ rfl) S4.pb e.chg hc
    obtain ⟨w5, hw5⟩ : ∃ W, two64 (addT (takeX x j).pn e.chg) w4.drew rb (o + 5) = W := ⟨_, rfl⟩
    simp only [] at H5
    rw [hw5] at H5 S5 U5
    have d4 := (S5.ent n e hnY).cell1 3 _ rfl
    have f4 := (S5.ent n e hnY).frozen 3
    obtain ⟨S6, U6⟩ := S5.pins hnY (p := 1) (by omega)
    have V6 : Hid (Upd (Sb rb mb ad x.ent.length) w (w5.setCell ⟨ad n, 3, none⟩ (.int .i64 (1 : Nat)))) := by
      refine V3.out.trans (Upd.mono (S := Eb rb ad x.ent.length) ?_ (fun k _ hk => .inr hk))
      rw [hyE.out] at U4 U5 U6
      exact ((Upd.drew (Upd.refl _ w3)).trans U4).trans (((Upd.drew (Upd.refl _ w4)).trans U5).trans U6)
    have K6 : Hid (Kp o rc rc5) := K3'.out.trans (K4.trans K5)
    clear hw4 hw5 U4 U5 U6 K4 K5
    clear d0 r0 c0 hr3 g0 g1
    go_wp2
    go_region_with (go_at_call 65; refine H4.mono ?_; rintro e' w4' ⟨rfl, hw⟩; have hw' := hw.symm; subst hw')
    go_wp2
    go_region_with (go_at_call 65; refine H5.mono ?_; rintro e' w5' ⟨rfl, hw⟩; have hw' := hw.symm; subst hw')
    go_wp2
    go_end0
    rw [q1.out]
    exact ⟨rfl, rc5, S6, K6.out, V6.out⟩
end
end Go.Proofs.Ytlkfabejecgfgaa
