import Derived.Test.YtlkfabejecgfgaaFe
namespace Go.Proofs.Ytlkfabejecgfgaa
open Go.RowKit Go.Maps
set_option linter.unusedVariables false
set_option linter.unusedSimpArgs false
def Cs.unp (s : Cs) (p : Int) : Cs := { s with P := s.P.set (p - 1).toNat none }
def freeC (s : Cs) (p : Int) : Int × Cs :=
  match s.pin p with
  | none => (111, s)
  | some ij => (0, (s.unp p).setx ij.1 (unpinX (s.x ij.1) ij.2 s.r))
section
variable {w : World} {L : Lo} {s : Cs}
theorem pin_del {s : Cs} {p : Int} (hp : 1 ≤ p) (L : Lo) : (fun k => ((s.unp p).pin k).map (fun ij => L.ads ij.1 ij.2)) = fput (fun k => (s.pin k).map (fun ij => L.ads ij.1 ij.2)) p none := by
  funext k
  unfold Cs.pin Cs.unp fput
  simp only []
  by_cases e : k = p
  · subst e
    rw [if_pos rfl, if_pos hp, List.getD_eq_getElem?_getD]
    by_cases hl : (k - 1).toNat < s.P.length
    · rw [List.getElem?_set_self hl]; rfl
    · rw [List.getElem?_eq_none (by simp; omega)]; rfl
  · rw [if_neg e]
    by_cases h1 : 1 ≤ k
    · rw [if_pos h1, if_pos h1, List.getD_eq_getElem?_getD, List.getD_eq_getElem?_getD, List.getElem?_set_ne (by omega)]
    · rw [if_neg h1, if_neg h1]
set_option maxRecDepth 100000 in
set_option maxHeartbeats 2000000 in
theorem free_any (h : Ca w L s) (c : Ci s) {p : Int} (hI : I64 p) :
    Calls Try.prog 16 #[.pointer (some ⟨L.cb, 0, none⟩), .int .i64 p] w fun e w' => e = .returned (.int .i64 (freeC s p).1) ∧ Ca w' L (freeC s p).2 ∧ Upd (Cb L s) w w' := by
  obtain ⟨D, hD, hs⟩ := h.pin
  have c3 := h.blk.cell1 3 _ rfl
  have hl := hD.lookok law3 Try.underlying56 (zero60 _) (k := p) (key3 hI)
  unfold freeC
  cases hp : s.pin p with
  | none =>
    simp only []
    simp only [hp] at hl
    have h' : Hid _ := h
    clear h
    go_enter Try.func16, Try.ntmps16
    go_wp2_with fail
    go_ret
    exact ⟨rfl, h'.out, Upd.refl _ _⟩
  | some ij =>
    obtain ⟨i, j⟩ := ij
    simp only []
    simp only [hp] at hl
    obtain ⟨hp1, hpl, hpg⟩ := pin_I64 hp
    obtain ⟨x, hx, hj⟩ := c.pr i j (List.mem_of_getElem? hpg)
    have exi : s.x i = x := xs_get hx
    rw [exi]
    obtain ⟨e, he⟩ : ∃ e, x.ent[j]? = some e := ⟨_, List.getElem?_eq_getElem hj⟩
    have hks := c.ks i x j e hx he
    have hpc := c.pc i x j e hx he
    have hpos : 0 < e.pins := by rw [hpc]; exact List.count_pos_iff.2 (List.mem_of_getElem? hpg)
    have I := c.iv i x hx
    have hnq : j ∉ x.q := fun hh => by
      obtain ⟨e', h1, h2, _⟩ := (I.qe j).1 hh
      rw [he] at h1; cases h1; omega
    have h0 : ∀ a, a ∈ x.q → ∃ e, x.ent[a]? = some e ∧ e.pins = 0 := fun a ha => by
      obtain ⟨e, h1, h2, _⟩ := (I.qe a).1 ha
      exact ⟨e, h1, h2⟩
    -- behind the delete
    have C1 : ∀ w1, IM w1 L.pb (fput (fun k => (s.pin k).map (fun ij => L.ads ij.1 ij.2)) p none) (D.del (kI p)) → w.grownBy w1 (some L.pb) → Ca w1 L (s.unp p) ∧ Upd (fun k => k = L.pb) w w1 := by
      intro w1 hm hg
      have U : Upd (fun k => k = L.pb) w w1 := Upd.grown (Upd.refl _ _) hg (fun k hk _ => by cases hk; rfl)
      refine ⟨⟨?_, ?_, ⟨_, by rw [pin_del hp1]; exact hm, ?_⟩, h.mm, h.mp, h.aa⟩, U⟩
      · have := h.blk.upd U (fun e => hD.ne h.blk e.symm)
        unfold caC Cs.unp at *
        simpa using this
      · obtain ⟨rc, hrl, hS⟩ := h.row
        refine ⟨rc, hrl, fun a y hy => ?_⟩
        have S := hS a y hy
        obtain ⟨D2, hD2, hs2⟩ := S.map
        have hne : ∀ k, Sb L.rb (L.mbs a) (L.ads a) y.ent.length k → ¬ (k = L.pb) := fun k hk => (h.ne1 hy hk).2
        exact ⟨S.row.upd U (hne _ (.inr (.inl rfl))), S.cel, ⟨D2, hD2.upd U (hne _ (.inl rfl)), hs2⟩, S.ent.upd U (fun j hj => hne _ (.inr (.inr ⟨j, hj, rfl⟩))), S.inj, S.nd, S.qr, S.fr, S.ub, S.pb, S.wk⟩
      · have := hD.size_del law3 p
        unfold Cs.unp; simp only [List.length_set]
        have := Nat.le_trans (Nat.le_add_right (Maps.size (D.del (kI p))) _) (Nat.le_of_eq this)
        omega
    go_enter Try.func16, Try.ntmps16
    go_wp2_with (at_delete; refine wpList_delete_km law3 injI rfl _ _ 56 rfl 60 Try.underlying56 rfl hD rfl (k := p) (key3 hI) ?_
                 intro w1 hm hg
                 obtain ⟨C1', U1⟩ := C1 w1 hm hg
                 obtain ⟨rc, hrl, hS⟩ := C1'.drew.drew.row
                 have S := hS i x hx
                 have d0 : w1.cell? ⟨L.ads i j, 0, none⟩ = some (.string e.key) := (S.ent j e he).cell1 0 _ rfl
                 have d1 : w1.cell? ⟨L.cb, 1, none⟩ = some (.int .u64 s.r) := C1'.blk.cell1 1 _ rfl
                 have HO := of_raw C1'.drew c.n1 c.n2 (k := e.key) ((S.wk j e he).1)
                 have HU := unpin_any S he hpos hnq h0 c.rb
                 have e1 : (s.unp p).xs.length = s.xs.length := rfl
                 rw [e1, hks] at HO
                 clear C1 hm hg c3 hl)
    have hS' : Hid _ := hS
    have S' : Hid _ := S
    have C1'' : Hid _ := C1'.drew.drew
    clear hS S C1'
    go_region_with (first
      | (go_at_call 38; refine HO.mono ?_; rintro e' w2 ⟨rfl, hw⟩; have hw' := hw.symm; subst hw')
      | (go_at_call 45; refine HU.mono ?_; rintro e' w3 ⟨rfl, rc3, S3, K3, U3⟩))
    all_goals
      go_wp2
      go_ret
      have hel : (unpinX x j s.r).ent.length = x.ent.length := by rw [(I.unpin he hpos s.r).2]; simp
      have C3 := C1''.out.shard hx hS'.out hrl S3 hel K3 U3
      refine ⟨rfl, C3, ?_⟩
      exact (U1.mono (fun a _ ha => .inr (.inl ha))).trans ((Upd.drew (Upd.drew (Upd.refl _ w1))).trans (U3.mono (fun a _ ha => Cb.sub hx ha)))
end
end Go.Proofs.Ytlkfabejecgfgaa
