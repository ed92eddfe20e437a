import Derived.Test.YtlkfabejecgfgaaC
namespace Go.Proofs.Ytlkfabejecgfgaa
open Go.RowKit Go.Maps
set_option linter.unusedVariables false
set_option linter.unusedSimpArgs false
/-- An entry's cells. -/
def enC (e : En) (a z : Option Nat) : List Value := [.string e.key, e.val, .int .u64 e.chg, .int .i64 e.pins, .pointer (pa a), .pointer (pa z)]
/-- Entries in memory, with their links. -/
def Es (w : World) (ad : Nat → Nat) (ent : List En) (pr nx : Nat → Option Nat) : Prop := ∀ j e, ent[j]? = some e → Blk w (ad j) 91 (enC e ((pr j).map ad) ((nx j).map ad))
def Inj (ad : Nat → Nat) (n : Nat) : Prop := ∀ i j, i < n → j < n → ad i = ad j → i = j
section
variable {w : World} {ad : Nat → Nat} {ent : List En} {pr nx : Nat → Option Nat}
theorem lt_of_get {ent : List En} {j : Nat} {e : En} (h : ent[j]? = some e) : j < ent.length := (List.getElem?_eq_some_iff.1 h).1
theorem Es.setN (h : Es w ad ent pr nx) (inj : Inj ad ent.length) {j : Nat} (hj : j < ent.length) (o : Option Nat) : Es (w.setCell ⟨ad j, 5, none⟩ (.pointer (pa (o.map ad)))) ad ent pr (fset nx j o) := by
  intro i e hi
  by_cases c : i = j
  · subst c
    have := (h i e hi).set 5 (.pointer (pa (o.map ad)))
    simpa [enC, fset] using this
  · have := (h i e hi).other (a := ⟨ad j, 5, none⟩) (fun hh => c (inj _ _ (lt_of_get hi) hj hh)) (.pointer (pa (o.map ad)))
    simpa [fset, c] using this
theorem Es.setP (h : Es w ad ent pr nx) (inj : Inj ad ent.length) {j : Nat} (hj : j < ent.length) (o : Option Nat) : Es (w.setCell ⟨ad j, 4, none⟩ (.pointer (pa (o.map ad)))) ad ent (fset pr j o) nx := by
  intro i e hi
  by_cases c : i = j
  · subst c
    have := (h i e hi).set 4 (.pointer (pa (o.map ad)))
    simpa [enC, fset] using this
  · have := (h i e hi).other (a := ⟨ad j, 4, none⟩) (fun hh => c (inj _ _ (lt_of_get hi) hj hh)) (.pointer (pa (o.map ad)))
    simpa [fset, c] using this
theorem Es.setG (h : Es w ad ent pr nx) (inj : Inj ad ent.length) {j : Nat} {e : En} (hj : ent[j]? = some e) (p : Nat) : Es (w.setCell ⟨ad j, 3, none⟩ (.int .i64 p)) ad (ent.set j { e with pins := p }) pr nx := by
  intro i e' hi
  by_cases c : i = j
  · subst c
    rw [List.getElem?_set_self (lt_of_get hj)] at hi
    cases hi
    have := (h i e hj).set 3 (.int .i64 p)
    simpa [enC] using this
  · rw [List.getElem?_set_ne (Ne.symm c)] at hi
    exact (h i e' hi).other (a := ⟨ad j, 3, none⟩) (fun hh => c (inj _ _ (lt_of_get hi) (lt_of_get hj) hh)) _
theorem Es.row (h : Es w ad ent pr nx) {rb : Nat} {rc : List Value} (hB : Blk w rb 66 rc) (o : Nat) (v : Value) : Es (w.setCell ⟨rb, o, none⟩ v) ad ent pr nx :=
  fun i e hi => (h i e hi).other (a := ⟨rb, o, none⟩) ((h i e hi).ne hB (by decide)) v
theorem Es.upd {S : Nat → Prop} {w' : World} (h : Es w ad ent pr nx) (u : Upd S w w') (hS : ∀ i, i < ent.length → ¬ S (ad i)) : Es w' ad ent pr nx := fun i e hi => (h i e hi).upd u (hS i (lt_of_get hi))
theorem Es.rb (h : Es w ad ent pr nx) {rb : Nat} {rc : List Value} (hB : Blk w rb 66 rc) {j : Nat} (hj : j < ent.length) : rb ≠ ad j := (hB.ne (h j _ (List.getElem?_eq_getElem hj)) (by decide))
end
/-- The blocks of a shard but for its map. -/
def Eb (rb : Nat) (ad : Nat → Nat) (n : Nat) : Nat → Prop := fun k => k = rb ∨ ∃ i, i < n ∧ k = ad i
theorem set_same {rc : List Value} {o : Nat} {v : Value} (h : rc[o]? = some v) : rc.set o v = rc := by
  obtain ⟨h1, h2⟩ := List.getElem?_eq_some_iff.1 h
  subst h2
  simp
set_option maxRecDepth 100000 in
set_option maxHeartbeats 1000000 in
theorem leave_raw {w : World} {ad : Nat → Nat} {ent : List En} {pr nx : Nat → Option Nat} (h : Es w ad ent pr nx) (inj : Inj ad ent.length) {rb o : Nat} {rc : List Value} (hB : Blk w rb 66 rc) {F L : Option Nat}
    (h0 : rc[o]? = some (.pointer (pa F))) (h1 : rc[o + 1]? = some (.pointer (pa L))) {j : Nat} (hj : j < ent.length) (hp : ∀ a, pr j = some a → a < ent.length ∧ a ≠ j) (hx : ∀ a, nx j = some a → a < ent.length ∧ a ≠ j)
    (hpx : ∀ a c, pr j = some a → nx j = some c → a ≠ c) :
    Calls Try.prog 69 #[.pointer (some ⟨rb, o, none⟩), .pointer (some ⟨ad j, 0, none⟩)] w fun e w' => e = .returned (.tuple #[]) ∧ Es w' ad ent (nxA pr nx j) (nxA nx pr j) ∧
      Blk w' rb 66 ((rc.set o (.pointer (pa (if pr j = none then (nx j).map ad else F)))).set (o + 1) (.pointer (pa (if nx j = none then (pr j).map ad else L)))) ∧ Upd (Eb rb ad ent.length) w w' := by
  have ej := h j _ (List.getElem?_eq_getElem hj)
  have c4 := ej.cell1 4 _ rfl
  have c5 := ej.cell1 5 _ rfl
  have f4 := ej.frozen 4
  have f5 := ej.frozen 5
  have r0 := hB.cell1 o _ h0
  have r1 := hB.cell1 (o + 1) _ h1
  have g0 := hB.frozen o
  have g1 := hB.frozen (o + 1)
  have nj := h.rb hB hj
  have nj' := Ne.symm nj
  cases hpr : pr j with
  | none =>
    cases hnx : nx j with
    | none =>
      rw [hpr] at c4
      rw [hnx] at c5
      have e1 : nxA pr nx j = fset pr j none := by unfold nxA; rw [hnx]
      have e2 : nxA nx pr j = fset nx j none := by unfold nxA; rw [hpr]
      rw [e1, e2, if_pos rfl, if_pos rfl]
      clear e1 e2
      go_enter Try.func69, Try.ntmps69
      go_wp2_with fail
      go_end0
      refine ⟨rfl, ?_, ?_, ?_⟩
      · exact (((h.row hB o _).row (hB.set o _) (o + 1) _).setP inj hj none).setN inj hj none
      · exact (((hB.set o _).set (o + 1) _).other (a := ⟨ad j, 4, none⟩) nj _).other (a := ⟨ad j, 5, none⟩) nj _
      · exact Upd.setCell (Upd.setCell (Upd.setCell (Upd.setCell (Upd.refl _ _) (fun _ => .inl rfl) _) (fun _ => .inl rfl) _) (fun _ => .inr ⟨j, hj, rfl⟩) _) (fun _ => .inr ⟨j, hj, rfl⟩) _
    | some c =>
      obtain ⟨hc, hcj⟩ := hx c hnx
      have ec := h c _ (List.getElem?_eq_getElem hc)
      have k4 := ec.cell1 4 _ rfl
      have kf := ec.frozen 4
      have ncj : ad c ≠ ad j := fun e => hcj (inj _ _ hc hj e)
      have ncj' := Ne.symm ncj
      have nc := h.rb hB hc
      have nc' := Ne.symm nc
      rw [hpr] at c4
      rw [hnx] at c5
      have e1 : nxA pr nx j = fset (fset pr c none) j none := by unfold nxA; rw [hnx, hpr]
      have e2 : nxA nx pr j = fset nx j none := by unfold nxA; rw [hpr]
      rw [e1, e2, if_pos rfl, if_neg (by simp)]
      have hL : rc.set (o + 1) (.pointer (pa L)) = rc := set_same h1
      have e3 : ∀ v, (rc.set o v).set (o + 1) (.pointer (pa L)) = rc.set o v := fun v => by rw [List.set_comm _ _ (by omega), hL]
      clear e1 e2
      have e3' : Hid _ := e3
      clear e3 hL
      go_enter Try.func69, Try.ntmps69
      go_wp2_with fail
      go_region
      go_wp2_with fail
      go_end0
      refine ⟨rfl, ?_, ?_, ?_⟩
      · exact (((h.row hB o _).setP inj hc none).setP inj hj none).setN inj hj none
      · refine Blk.drew ?_
        rw [e3'.out]
        exact (((hB.set o _).other (a := ⟨ad c, 4, none⟩) nc _).other (a := ⟨ad j, 4, none⟩) nj _).other (a := ⟨ad j, 5, none⟩) nj _
      · exact (Upd.setCell (Upd.setCell (Upd.setCell (Upd.setCell (Upd.refl _ _) (fun _ => .inl rfl) _) (fun _ => .inr ⟨c, hc, rfl⟩) _) (fun _ => .inr ⟨j, hj, rfl⟩) _) (fun _ => .inr ⟨j, hj, rfl⟩) _).drew
  | some a =>
    obtain ⟨ha, haj⟩ := hp a hpr
    have ea := h a _ (List.getElem?_eq_getElem ha)
    have k5 := ea.cell1 5 _ rfl
    have kg := ea.frozen 5
    have naj : ad a ≠ ad j := fun e => haj (inj _ _ ha hj e)
    have naj' := Ne.symm naj
    have na := h.rb hB ha
    have na' := Ne.symm na
    have hF : rc.set o (.pointer (pa F)) = rc := set_same h0
    cases hnx : nx j with
    | none =>
      rw [hpr] at c4
      rw [hnx] at c5
      have e1 : nxA pr nx j = fset pr j none := by unfold nxA; rw [hnx]
      have e2 : nxA nx pr j = fset (fset nx a none) j none := by unfold nxA; rw [hpr, hnx]
      rw [e1, e2, if_neg (by simp), if_pos rfl]
      clear e1 e2
      have hF' : Hid _ := hF
      clear hF
      go_enter Try.func69, Try.ntmps69
      go_wp2_with fail
      go_region
      go_wp2_with fail
      go_end0
      refine ⟨rfl, ?_, ?_, ?_⟩
      · exact (((h.setN inj ha none).row (hB.other (a := ⟨ad a, 5, none⟩) na _) (o + 1) _).setP inj hj none).setN inj hj none
      · refine Blk.drew ?_
        rw [hF'.out]
        exact (((hB.other (a := ⟨ad a, 5, none⟩) na _).set (o + 1) _).other (a := ⟨ad j, 4, none⟩) nj _).other (a := ⟨ad j, 5, none⟩) nj _
      · exact (Upd.setCell (Upd.setCell (Upd.setCell (Upd.setCell (Upd.refl _ _) (fun _ => .inr ⟨a, ha, rfl⟩) _) (fun _ => .inl rfl) _) (fun _ => .inr ⟨j, hj, rfl⟩) _) (fun _ => .inr ⟨j, hj, rfl⟩) _).drew
    | some c =>
      obtain ⟨hc, hcj⟩ := hx c hnx
      have ec := h c _ (List.getElem?_eq_getElem hc)
      have k4 := ec.cell1 4 _ rfl
      have kf := ec.frozen 4
      have ncj : ad c ≠ ad j := fun e => hcj (inj _ _ hc hj e)
      have ncj' := Ne.symm ncj
      have nc := h.rb hB hc
      have nc' := Ne.symm nc
      have nac : ad a ≠ ad c := fun e => hpx a c hpr hnx (inj _ _ ha hc e)
      have nac' := Ne.symm nac
      rw [hpr] at c4
      rw [hnx] at c5
      have e1 : nxA pr nx j = fset (fset pr c (some a)) j none := by unfold nxA; rw [hnx, hpr]
      have e2 : nxA nx pr j = fset (fset nx a (some c)) j none := by unfold nxA; rw [hpr, hnx]
      rw [e1, e2, if_neg (by simp), if_neg (by simp)]
      have e3 : (rc.set o (.pointer (pa F))).set (o + 1) (.pointer (pa L)) = rc := by rw [hF, set_same h1]
      clear e1 e2
      have e3' : Hid _ := e3
      clear e3 hF
      go_enter Try.func69, Try.ntmps69
      go_wp2_with fail
      go_region
      go_wp2_with fail
      go_region
      go_wp2_with fail
      go_end0
      refine ⟨rfl, ?_, ?_, ?_⟩
      · exact (((h.setN inj ha (some c)).setP inj hc (some a)).setP inj hj none).setN inj hj none
      · refine Blk.drew (Blk.drew ?_)
        rw [e3'.out]
        exact (((hB.other (a := ⟨ad a, 5, none⟩) na _).other (a := ⟨ad c, 4, none⟩) nc _).other (a := ⟨ad j, 4, none⟩) nj _).other (a := ⟨ad j, 5, none⟩) nj _
      · exact (Upd.setCell (Upd.setCell (Upd.setCell (Upd.setCell (Upd.refl _ _) (fun _ => .inr ⟨a, ha, rfl⟩) _) (fun _ => .inr ⟨c, hc, rfl⟩) _) (fun _ => .inr ⟨j, hj, rfl⟩) _) (fun _ => .inr ⟨j, hj, rfl⟩) _).drew.drew
set_option maxRecDepth 100000 in
set_option maxHeartbeats 1000000 in
theorem join_raw {w : World} {ad : Nat → Nat} {ent : List En} {pr nx : Nat → Option Nat} (h : Es w ad ent pr nx) (inj : Inj ad ent.length) {rb o : Nat} {rc : List Value} (hB : Blk w rb 66 rc) {F : Value} {L : Option Nat}
    (h0 : rc[o]? = some F) (h1 : rc[o + 1]? = some (.pointer (pa (L.map ad)))) {j : Nat} (hj : j < ent.length) (hl : ∀ a, L = some a → a < ent.length ∧ a ≠ j) :
    Calls Try.prog 68 #[.pointer (some ⟨rb, o, none⟩), .pointer (some ⟨ad j, 0, none⟩)] w fun e w' => e = .returned (.tuple #[]) ∧ Es w' ad ent (fset pr j L) (nxJ nx L j) ∧
      Blk w' rb 66 ((rc.set o (if L = none then .pointer (some ⟨ad j, 0, none⟩) else F)).set (o + 1) (.pointer (some ⟨ad j, 0, none⟩))) ∧ Upd (Eb rb ad ent.length) w w' := by
  have ej := h j _ (List.getElem?_eq_getElem hj)
  have c4 := ej.cell1 4 _ rfl
  have f4 := ej.frozen 4
  have r0 := hB.cell1 o _ h0
  have r1 := hB.cell1 (o + 1) _ h1
  have g0 := hB.frozen o
  have g1 := hB.frozen (o + 1)
  have nj := h.rb hB hj
  have nj' := Ne.symm nj
  cases L with
  | none =>
    rw [if_pos rfl]
    go_enter Try.func68, Try.ntmps68
    go_wp2_with fail
    go_end0
    refine ⟨rfl, ?_, ?_, ?_⟩
    · exact (((h.setP inj hj none).row (hB.other (a := ⟨ad j, 4, none⟩) nj _) o _).row ((hB.other (a := ⟨ad j, 4, none⟩) nj _).set o _) (o + 1) _)
    · exact ((hB.other (a := ⟨ad j, 4, none⟩) nj _).set o _).set (o + 1) _
    · exact Upd.setCell (Upd.setCell (Upd.setCell (Upd.refl _ _) (fun _ => .inr ⟨j, hj, rfl⟩) _) (fun _ => .inl rfl) _) (fun _ => .inl rfl) _
  | some a =>
    obtain ⟨ha, haj⟩ := hl a rfl
    have ea := h a _ (List.getElem?_eq_getElem ha)
    have k5 := ea.cell1 5 _ rfl
    have kg := ea.frozen 5
    have naj : ad a ≠ ad j := fun e => haj (inj _ _ ha hj e)
    have naj' := Ne.symm naj
    have na := h.rb hB ha
    have na' := Ne.symm na
    have hF' : Hid (rc.set o F = rc) := set_same h0
    rw [if_neg (by simp)]
    go_enter Try.func68, Try.ntmps68
    go_wp2_with fail
    go_end0
    refine ⟨rfl, ?_, ?_, ?_⟩
    · exact ((h.setP inj hj (some a)).setN inj ha (some j)).row ((hB.other (a := ⟨ad j, 4, none⟩) nj _).other (a := ⟨ad a, 5, none⟩) na _) (o + 1) _
    · rw [hF'.out]
      exact ((hB.other (a := ⟨ad j, 4, none⟩) nj _).other (a := ⟨ad a, 5, none⟩) na _).set (o + 1) _
    · exact Upd.setCell (Upd.setCell (Upd.setCell (Upd.refl _ _) (fun _ => .inr ⟨j, hj, rfl⟩) _) (fun _ => .inr ⟨a, ha, rfl⟩) _) (fun _ => .inl rfl) _
end Go.Proofs.Ytlkfabejecgfgaa
