import Derived.Test.YtlkfabejecgfgaaFa
namespace Go.Proofs.Ytlkfabejecgfgaa
open Go.RowKit Go.Maps
set_option linter.unusedVariables false
set_option linter.unusedSimpArgs false
section
variable {w : World} {L : Lo} {s : Cs}
set_option maxRecDepth 100000 in
set_option maxHeartbeats 1000000 in
theorem of_raw (h : Ca w L s) (n1 : 1 ≤ s.xs.length) (n2 : s.xs.length ≤ 64) {k : ByteArray} (hk : k.size ≤ maxLen) :
    Calls Try.prog 38 #[.pointer (some ⟨L.cb, 0, none⟩), .string k] w fun e w' => e = .returned (.pointer (some ⟨L.rb, shd s.xs.length k.data.toList * 7, none⟩)) ∧ w' = w.drew := by
  have c0 := h.blk.cell1 0 _ rfl
  have HS : Calls Try.prog 11 #[.pointer (some ⟨L.cb, 0, none⟩), .string k] w.drew fun e w' => e = .returned (.int .i64 (shd s.xs.length k.data.toList)) ∧ w' = w.drew := shard_raw (cs := caC L s) h.blk.drew rfl n1 n2 k hk
  have hl := shd_lt n1 k.data.toList
  generalize shd s.xs.length k.data.toList = i at *
  generalize s.xs.length = n at *
  go_enter Try.func38, Try.ntmps38
  go_wp2_with fail
  go_region_with (go_at_call 11; refine HS.mono ?_; rintro e w1 ⟨rfl, hw⟩; have hw' := hw.symm; subst hw')
  all_goals
    go_wp2
    go_ret
    exact ⟨rfl, rfl⟩
theorem of_any (h : Ca w L s) (c : Ci s) {k : ByteArray} (hk : k.size ≤ maxLen) :
    Calls Try.prog 38 #[.pointer (some ⟨L.cb, 0, none⟩), .string k] w fun e w' => e = .returned (.pointer (some ⟨L.rb, shd s.xs.length k.data.toList * 7, none⟩)) ∧ w' = w.drew := of_raw h c.n1 c.n2 hk
/-- A pin is given. -/
def Cs.give (s : Cs) (ij : Nat × Nat) : Cs := { s with P := s.P ++ [some ij] }
theorem pin_give (s : Cs) (ij : Nat × Nat) (L : Lo) : (fun k => ((s.give ij).pin k).map (fun ij => L.ads ij.1 ij.2)) = fput (fun k => (s.pin k).map (fun ij => L.ads ij.1 ij.2)) ((s.P.length : Int) + 1) (some (L.ads ij.1 ij.2)) := by
  funext k
  unfold Cs.pin Cs.give fput
  simp only []
  by_cases e : k = (s.P.length : Int) + 1
  · subst e
    rw [if_pos (by omega), if_pos rfl]
    rw [show ((s.P.length : Int) + 1 - 1).toNat = s.P.length by omega]
    simp
  · rw [if_neg e]
    by_cases h1 : 1 ≤ k
    · rw [if_pos h1, if_pos h1]
      obtain ⟨m, hm⟩ : ∃ m, (k - 1).toNat = m := ⟨_, rfl⟩
      rw [hm, List.getD_eq_getElem?_getD, List.getD_eq_getElem?_getD]
      by_cases h2 : m < s.P.length
      · rw [List.getElem?_append_left h2]
      · rw [List.getElem?_eq_none (l := s.P) (i := m) (by omega), List.getElem?_eq_none (l := s.P ++ [some ij]) (i := m) (by simp; omega)]
    · rw [if_neg h1, if_neg h1]
set_option maxRecDepth 100000 in
set_option maxHeartbeats 1000000 in
theorem give_any (h : Ca w L s) (ij : Nat × Nat) (hP : s.P.length < 4611686018427387904) :
    Calls Try.prog 42 #[.pointer (some ⟨L.cb, 0, none⟩), .pointer (some ⟨L.ads ij.1 ij.2, 0, none⟩)] w fun e w' => e = .returned (.int .i64 ((s.P.length : Int) + 1)) ∧ Ca w' L (s.give ij) ∧ Upd (fun k => k = L.cb ∨ k = L.pb) w w' := by
  obtain ⟨D, hD, hs⟩ := h.pin
  have c4 := h.blk.cell1 4 _ rfl
  have f4 := h.blk.frozen 4
  have B1 : Blk (w.setCell ⟨L.cb, 4, none⟩ (.int .i64 ((s.P.length : Int) + 1))) L.cb 58 (caC L (s.give ij)) := by
    have := h.blk.set 4 (.int .i64 ((s.P.length : Int) + 1))
    unfold caC Cs.give at *
    simpa using this
  obtain ⟨w1, hw1⟩ : ∃ W, w.setCell ⟨L.cb, 4, none⟩ (.int .i64 ((s.P.length : Int) + 1)) = W := ⟨_, rfl⟩
  have U1 : Upd (fun k => k = L.cb) w w1 := by rw [← hw1]; exact Upd.setCell (p := ⟨L.cb, 4, none⟩) (Upd.refl (fun k => k = L.cb) w) (fun _ => rfl) _
  rw [hw1] at B1
  have hD1 : IM w1.drew L.pb _ D := hD.upd U1.drew (fun e => hD.ne h.blk e)
  obtain ⟨w2, hr, hm, hg⟩ := hD1.store law3 injI iskI (by have : maxLen = 9223372036854775807 := rfl; omega) Try.underlying56 (k := (s.P.length : Int) + 1) (key3 (by unfold I64; omega)) (L.ads ij.1 ij.2)
  have hsz := hD1.size_put law3 ((s.P.length : Int) + 1) (ptrD (some (L.ads ij.1 ij.2)))
  rw [← pin_give] at hm
  have U2 : Upd (fun k => k = L.pb) w1 w2 := (Upd.drew (Upd.refl _ w1)).trans (Upd.grown (Upd.refl _ _) hg (fun k hk _ => by cases hk; rfl))
  have U : Upd (fun k => k = L.cb ∨ k = L.pb) w w2 := (U1.mono (fun k _ hk => .inl hk)).trans (U2.mono (fun k _ hk => .inr hk))
  have B2 := B1.upd U2 (fun e => (hD1.ne B1.drew) e.symm)
  have k3 := B1.cell1 3 _ rfl
  have k4 := B1.cell1 4 _ rfl
  have l4 := B2.cell1 4 _ rfl
  have C2 : Hid (Ca w2 L (s.give ij)) := by
    refine ⟨B2, ?_, ⟨_, hm, ?_⟩, h.mm, h.mp, h.aa⟩
    · obtain ⟨rc, hrl, hS⟩ := h.row
      refine ⟨rc, hrl, fun i x hi => ?_⟩
      have S := hS i x hi
      obtain ⟨D2, hD2, hs2⟩ := S.map
      have hne : ∀ k, Sb L.rb (L.mbs i) (L.ads i) x.ent.length k → ¬ (k = L.cb ∨ k = L.pb) := fun k hk e => e.elim (h.ne1 hi hk).1 (h.ne1 hi hk).2
      exact ⟨S.row.upd U (hne _ (.inr (.inl rfl))), S.cel, ⟨D2, hD2.upd U (hne _ (.inl rfl)), hs2⟩, S.ent.upd U (fun j hj => hne _ (.inr (.inr ⟨j, hj, rfl⟩))), S.inj, S.nd, S.qr, S.fr, S.ub, S.pb, S.wk⟩
    · rw [hsz]; unfold Cs.give; simp only [List.length_append, List.length_cons, List.length_nil]; split <;> omega
  have U' : Hid _ := U
  have e4 : (Value.int .i64 (((s.give ij).P.length : Nat) : Int)) = .int .i64 ((s.P.length : Int) + 1) := by unfold Cs.give; simp
  rw [e4] at k4 l4
  clear U1 U2 U B1 B2 hD1 hD hm hg hsz hs e4
  go_enter Try.func42, Try.ntmps42
  go_wp2_with fail
  go_region
  go_wp2_with fail
  go_ret
  exact ⟨rfl, C2.out, U'.out⟩
theorem pin_I64 {s : Cs} {k : Int} {ij : Nat × Nat} (h : s.pin k = some ij) : 1 ≤ k ∧ (k - 1).toNat < s.P.length ∧ s.P[(k - 1).toNat]? = some (some ij) := by
  unfold Cs.pin at h
  split at h
  · rename_i h1
    rw [List.getD_eq_getElem?_getD] at h
    cases hg : s.P[(k - 1).toNat]? with
    | none => rw [hg] at h; cases h
    | some o =>
      rw [hg] at h
      exact ⟨h1, (List.getElem?_eq_some_iff.1 hg).1, by rw [← h]; rfl⟩
  · cases h
set_option maxRecDepth 100000 in
set_option maxHeartbeats 1000000 in
theorem value_none (h : Ca w L s) {k : Int} (hk : I64 k) (hp : s.pin k = none) :
    Calls Try.prog 21 #[.pointer (some ⟨L.cb, 0, none⟩), .int .i64 k] w fun e w' => e = .returned (.tuple #[.int .u64 0, .int .i64 111]) ∧ w' = w := by
  obtain ⟨D, hD, hs⟩ := h.pin
  have c3 := h.blk.cell1 3 _ rfl
  have hl := hD.lookok law3 Try.underlying56 (zero60 _) (k := k) (key3 hk)
  simp only [hp] at hl
  go_enter Try.func21, Try.ntmps21
  go_wp2_with fail
  refine bodyPost_ret (v := .tuple #[.int .u64 0, .int .i64 111]) (by simp [results, Try.results21, go_sem]) rfl ⟨rfl, rfl⟩
set_option maxRecDepth 100000 in
set_option maxHeartbeats 1000000 in
theorem value_some (h : Ca w L s) {k : Int} (hk : I64 k) {i j : Nat} (hp : s.pin k = some (i, j)) {x : Xs} {e : En} (hx : s.xs[i]? = some x) (he : x.ent[j]? = some e) :
    Calls Try.prog 21 #[.pointer (some ⟨L.cb, 0, none⟩), .int .i64 k] w fun r w' => r = .returned (.tuple #[e.val, .int .i64 0]) ∧ w' = w := by
  obtain ⟨D, hD, hs⟩ := h.pin
  obtain ⟨rc, hrl, hS⟩ := h.row
  have c3 := h.blk.cell1 3 _ rfl
  have hl := hD.lookok law3 Try.underlying56 (zero60 _) (k := k) (key3 hk)
  simp only [hp] at hl
  have c1 := ((hS i x hx).ent j e he).cell1 1 _ rfl
  go_enter Try.func21, Try.ntmps21
  go_wp2_with fail
  refine bodyPost_ret (v := .tuple #[e.val, .int .i64 0]) (by simp [results, Try.results21, go_sem]) rfl ⟨rfl, rfl⟩
end
end Go.Proofs.Ytlkfabejecgfgaa
