import Derived.Test.YtlkfabejecgfgaaEa
namespace Go.Proofs.Ytlkfabejecgfgaa
open Go.RowKit Go.Maps
set_option linter.unusedVariables false
set_option linter.unusedSimpArgs false
section
variable {w : World} {rb o mb : Nat} {rc : List Value} {ad : Nat → Nat} {x : Xs}
theorem at_of {x : Xs} {j : Nat} {e : En} (h : x.ent[j]? = some e) : x.at j = e := by unfold Xs.at; rw [List.getD_eq_getElem?_getD, h]; rfl
theorem map_fput (f : List UInt8 → Option Nat) (ad : Nat → Nat) (k : List UInt8) (v : Option Nat) : (fun y => (fput f k v y).map ad) = fput (fun y => (f y).map ad) k (v.map ad) := by
  funext y; unfold fput; split <;> rfl
/-- What is used is turned. -/
theorem Sm.two (h : Sm w rb o mb rc ad x) {u : Nat} (hu : u < 340282366920938463463374607431768211456) : ∃ rc', Sm (two64 u w rb (o + 3)) rb o mb rc' ad { x with us := u } ∧ Kp o rc rc' ∧ Upd (Eb rb ad x.ent.length) w (two64 u w rb (o + 3)) := by
  have U : Upd (Eb rb ad x.ent.length) w (two64 u w rb (o + 3)) := Upd.setCell (Upd.setCell (Upd.refl _ _) (fun _ => .inl rfl) _) (fun _ => .inl rfl) _
  refine ⟨(rc.set (o + 3) _).set (o + 4) _, ⟨(h.row.set (o + 3) _).set (o + 4) _, (h.cel.set 3 _).set 4 _, ?_, (h.ent.row h.row _ _).row (h.row.set _ _) _ _, h.inj, h.nd, h.qr, h.fr, hu, h.pb, h.wk⟩, ((Kp.refl o rc).set 3 (by omega) _).set 4 (by omega) _, U⟩
  obtain ⟨D, hD, hs⟩ := h.map
  exact ⟨D, hD.upd U h.nemb, hs⟩
/-- What is pinned is turned. -/
theorem Sm.two' (h : Sm w rb o mb rc ad x) {u : Nat} (hu : u < 340282366920938463463374607431768211456) : ∃ rc', Sm (two64 u w rb (o + 5)) rb o mb rc' ad { x with pn := u } ∧ Kp o rc rc' ∧ Upd (Eb rb ad x.ent.length) w (two64 u w rb (o + 5)) := by
  have U : Upd (Eb rb ad x.ent.length) w (two64 u w rb (o + 5)) := Upd.setCell (Upd.setCell (Upd.refl _ _) (fun _ => .inl rfl) _) (fun _ => .inl rfl) _
  refine ⟨(rc.set (o + 5) _).set (o + 6) _, ⟨(h.row.set (o + 5) _).set (o + 6) _, (h.cel.set 5 _).set 6 _, ?_, (h.ent.row h.row _ _).row (h.row.set _ _) _ _, h.inj, h.nd, h.qr, h.fr, h.ub, hu, h.wk⟩, ((Kp.refl o rc).set 5 (by omega) _).set 6 (by omega) _, U⟩
  obtain ⟨D, hD, hs⟩ := h.map
  exact ⟨D, hD.upd U h.nemb, hs⟩
theorem addT_lt (u c : Nat) : addT u c < 340282366920938463463374607431768211456 := by unfold addT; omega
theorem takeT_lt (u c : Nat) : takeT u c < 340282366920938463463374607431768211456 := by unfold takeT; omega
/-- The map is turned. -/
theorem Sm.mp (h : Sm w rb o mb rc ad x) {w' : World} {f' : List UInt8 → Option Nat} {c' : Nat} {D : DataW Unit} (hD : PM w' mb (fun k => (f' k).map ad) D) (hs : Maps.size D = c') (hg : w.grownBy w' (some mb)) (hf : ∀ k j, f' k = some j → j < x.ent.length) :
    Sm w' rb o mb rc ad { x with f := f', cnt := c' } ∧ Upd (fun k => k = mb) w w' := by
  have U : Upd (fun k => k = mb) w w' := Upd.grown (Upd.refl _ _) hg (fun k hk _ => by cases hk; rfl)
  refine ⟨⟨h.row.upd U ?_, h.cel, ⟨D, hD, hs⟩, h.ent.upd U ?_, h.inj, h.nd, h.qr, hf, h.ub, h.pb, h.wk⟩, U⟩
  · exact fun e => h.nemb (.inl e.symm)
  · exact fun i hi e => h.nemb (.inr ⟨i, hi, e.symm⟩)
theorem Sm.drew (h : Sm w rb o mb rc ad x) : Sm w.drew rb o mb rc ad x :=
  ⟨h.row, h.cel, by obtain ⟨D, hD, hs⟩ := h.map; exact ⟨D, hD.upd (Upd.drew (Upd.refl Non w)) (fun e => e), hs⟩, h.ent, h.inj, h.nd, h.qr, h.fr, h.ub, h.pb, h.wk⟩
set_option maxRecDepth 100000 in
set_option maxHeartbeats 1000000 in
theorem takeOut_any (h : Sm w rb o mb rc ad x) {j : Nat} {e : En} (hj : x.ent[j]? = some e) (hq : e.pins = 0 → j ∈ x.q) :
    Calls Try.prog 47 #[.pointer (some ⟨rb, o, none⟩), .pointer (some ⟨ad j, 0, none⟩)] w fun r w' => r = .returned (.tuple #[]) ∧
      ∃ rc', Sm w' rb o mb rc' ad (takeX x j) ∧ Kp o rc rc' ∧ Upd (Sb rb mb ad x.ent.length) w w' := by
  obtain ⟨D, hD, hs⟩ := h.map
  obtain ⟨hk, hc, hpl⟩ := h.wk j e hj
  have ej := h.ent j e hj
  have c0 := ej.cell1 0 _ rfl
  have r0 := h.row.cell1 o _ (h.cel 0 _ rfl)
  have hsz := hD.size_del law9 e.key.data.toList
  have key := key9 hk
  have hD' : PM w.drew mb (fun k => (x.f k).map ad) D := hD.upd (Upd.drew (Upd.refl Non w)) (fun e => e)
  go_enter Try.func47, Try.ntmps47
  go_wp2_with fail
  go_region_law (refine step_delete_km law9 injS rfl _ _ 59 rfl 60 Try.underlying59 rfl hD' rfl (k := e.key.data.toList) key ?_; intro w1 hm1 hg1)
  all_goals
    have hm2 : PM w1 mb (fun k => (fput x.f e.key.data.toList none k).map ad) (D.del (kS e.key.data.toList)) := by rw [map_fput]; exact hm1
    obtain ⟨S1, U1⟩ := h.drew.mp (c' := x.cnt - (if (x.f e.key.data.toList).isSome then 1 else 0)) hm2 (by rw [Option.isSome_map] at hsz; omega) hg1 (fun k i hi => by
      unfold fput at hi
      split at hi
      · cases hi
      · exact h.fr k i hi)
    have V1 : Upd (Sb rb mb ad x.ent.length) w w1 := ((Upd.drew (Upd.refl (fun k => k = mb) w)).trans U1).mono (fun k _ hk => .inl hk)
    have ej1 := S1.ent j e hj
    have d3 := ej1.cell1 3 _ rfl
    clear hm1 hg1 hm2 U1 c0 r0 hsz hD' key
    by_cases hp : e.pins = 0
    · have e1 : takeX x j = { x with f := fput x.f e.key.data.toList none, cnt := x.cnt - (if (x.f e.key.data.toList).isSome then 1 else 0), q := x.q.erase j, us := takeT x.us e.chg } := by
        unfold takeX; rw [at_of hj]; simp only [if_pos hp]
      have e1' : Hid _ := e1
      clear e1
      have HL := leave_any S1 (hq hp)
      rw [hp] at d3
      go_wp2_with (go_at_call 69; refine HL.mono ?_; rintro e' w2 ⟨rfl, rc2, S2, K2, U2⟩
                   have d2 := (S2.ent j e hj).cell1 2 _ rfl
                   clear d3 HL)
      obtain ⟨rc3, S3, K3, U3⟩ := S2.drew.two (takeT_lt x.us e.chg)
      have V3 : Upd (Sb rb mb ad x.ent.length) w (two64 (takeT x.us e.chg) w2.drew rb (o + 3)) := V1.trans ((U2.trans ((Upd.drew (Upd.refl _ w2)).trans U3)).mono (fun k _ hk => .inr hk))
      have V3' : Hid _ := V3
      clear V3 U3 U2 V1
      go_region_with (go_at_call 67; refine (take_any S2.drew.row (o := o + 3) (S2.cel 3 _ rfl) (S2.cel 4 _ rfl) S2.ub e.chg hc).mono ?_; rintro e' w3 ⟨rfl, hw3⟩)
      go_wp2
      go_end0
      rw [e1'.out]
      subst hw3
      exact ⟨rfl, rc3, S3, K2.trans K3, V3'.out⟩
    · have e1 : takeX x j = { x with f := fput x.f e.key.data.toList none, cnt := x.cnt - (if (x.f e.key.data.toList).isSome then 1 else 0) } := by
        unfold takeX; rw [at_of hj]; simp only [if_neg hp]
      have e1' : Hid _ := e1
      clear e1
      have hp' : (0 : Int) < (e.pins : Nat) := by omega
      go_wp2_with fail
      go_end0
      rw [e1'.out]
      exact ⟨rfl, rc, S1, Kp.refl _ _, V1⟩
end
end Go.Proofs.Ytlkfabejecgfgaa
