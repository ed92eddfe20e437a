/-
  The reference's Free: the pins' row, the item, the queue.
-/
import Derived.Test.YtlkfabejecgfgaaRm
namespace Go.Proofs.Ytlkfabejecgfgaa
open Go.RowKit Go.Maps
set_option linter.unusedVariables false
set_option linter.unusedSimpArgs false
theorem bdp_set (R : Lr) (P : List (Option (Nat × Nat))) (m : Nat) : bdp R (P.set m none) = (bdp R P).set m none := by unfold bdp; rw [List.map_set]; rfl
theorem cls_pc : ∀ l : List (Option Nat), cls pc l = l.map (fun o => Value.pointer (pa o))
  | [] => rfl
  | a :: t => by rw [cls_cons, cls_pc t]; rfl
/-- A row whose cell is turned. -/
theorem rowq_set {W : World} {base g n c : Nat} {l : List (Option Nat)} (h : RowQ W base (.slice (some ⟨g, 0, none⟩) n c) l) (m : Nat) (o : Option Nat) : RowQ (W.setCell ⟨g, m, none⟩ (.pointer (pa o))) base (.slice (some ⟨g, 0, none⟩) n c) (l.set m o) ∧ W.frozen? ⟨g, m, none⟩ = false := by
  obtain ⟨hl, ⟨hv, _⟩ | ⟨g', cap', cur, hv, hb, hg, h2, h3, h4, h5⟩⟩ := h
  · cases hv
  · injection hv with hv1 hv2 hv3
    injection hv1 with hv1
    injection hv1 with hv1 _ _
    subst hv1 hv3
    have hB : Blk W g 85 cur.toList := by unfold Blk; simpa using hg
    have hB2 := hB.set m (.pointer (pa o))
    refine ⟨?_, hB.frozen m⟩
    refine ⟨by rw [cls_pc]; simp, .inr ⟨g, c, (cur.toList.set m (.pointer (pa o))).toArray, by rw [hv2]; simp, hb, hB2, by simpa using h2, h3, by simpa using h4, ?_⟩⟩
    rw [cls_pc] at h5 ⊢
    rw [List.map_set, ← h5]
    simp [List.take_set]
section
variable {w : World} {R : Lr} {room : Nat} {vs : List Vw} {pv : Value} {s : Cs}
set_option maxHeartbeats 1000000 in
theorem free_mid (h : Rx w R room vs pv s) (c : Ci s) {p : Int} {i j : Nat} (hp : s.pin p = some (i, j)) {x : Xs} {e : En} {v : Vw} (hx : s.xs[i]? = some x) (he : x.ent[j]? = some e) (hv : vs[i]? = some v) :
    ∃ (g N vc m : Nat) (w2 : World), p = (m : Int) + 1 ∧ m < N ∧ N ≤ 4000000000000 ∧
      (Builtin.append_ #[68, 68] 68 #[.slice (some ⟨w.heap.size, 0, none⟩) 0 0, pv]).run Try.prog (w.alloc (.cells #[] 85)) = .ok (.slice (some ⟨g, 0, none⟩) N vc) w2 ∧
      w2.cell? ⟨g, m, none⟩ = some (.pointer (some ⟨R.bd i j, 0, none⟩)) ∧ w2.frozen? ⟨g, m, none⟩ = false ∧
      ∃ w3, w3 = w2.setCell ⟨g, m, none⟩ (.pointer none) ∧ w3.cell? ⟨R.cb, 5, none⟩ = some pv ∧ w3.frozen? ⟨R.cb, 5, none⟩ = false ∧
      ∃ w4, w4 = w3.setCell ⟨R.cb, 5, none⟩ (.slice (some ⟨g, 0, none⟩) N vc) ∧ w4.cell? ⟨R.bd i j, 4, none⟩ = some (.int .i64 e.pins) ∧ w4.frozen? ⟨R.bd i j, 4, none⟩ = false ∧
      ∃ w5, w5 = w4.setCell ⟨R.bd i j, 4, none⟩ (.int .i64 ((e.pins : Int) - 1)) ∧ 0 < e.pins ∧ e.pins ≤ 4000000000000 ∧
        Rf w5 R s.xs.length room s.st (vs.set i { v with ent := v.ent.set j { e with pins := e.pins - 1 } }) (.slice (some ⟨g, 0, none⟩) N vc) (s.P.set (p - 1).toNat none) ∧ Upd (Rb R vs pv) w w5 ∧ w.heap.size ≤ g := by
  have V := h.vx i v x hv hx
  have hev : v.ent[j]? = some e := by rw [V.e]; exact he
  have hjl := lt_of_get hev
  have h1 : 1 ≤ p := by
    refine Decidable.byContradiction (fun hh => ?_)
    unfold Cs.pin at hp; rw [if_neg hh] at hp; cases hp
  have hm : s.P[(p - 1).toNat]? = some (some (i, j)) := by
    unfold Cs.pin at hp
    rw [if_pos h1, List.getD_eq_getElem?_getD] at hp
    cases hq : s.P[(p - 1).toNat]? with
    | none => rw [hq] at hp; cases hp
    | some o => rw [hq] at hp; simp at hp; rw [hp]
  obtain ⟨m, hmm⟩ : ∃ m : Nat, (p - 1).toNat = m := ⟨_, rfl⟩
  rw [hmm] at hm ⊢
  have hmP : m < s.P.length := (List.getElem?_eq_some_iff.1 hm).1
  have hpc := c.pc i x j e hx he
  have hp0 : 0 < e.pins := by
    rw [hpc, List.count_pos_iff]
    exact List.mem_of_getElem? hm
  have hp1 : e.pins ≤ 4000000000000 := by
    rw [hpc]
    exact Nat.le_trans List.count_le_length h.pl
  have R0 := row0 w (Nat.le_refl w.heap.size)
  have U0 : Upd Non w (w.alloc (.cells #[] 85)) := (Upd.refl Non w).alloc _
  obtain ⟨v', w2, hrun, hR2, hU2⟩ := appq R0 (by simp) (row_upd h.rf.pr U0 (fun _ _ e => e)) (by rw [bdp_len]; have := h.pl; simp; omega) 68
  rw [List.nil_append] at hR2
  have hU2 : Upd Non w w2 := U0.then hU2 (fun a ha hs => absurd (row_blk R0 a hs).1 (by omega))
  obtain ⟨va, vc, hv'⟩ := rowq_len hR2
  subst hv'
  rw [bdp_len] at hrun hR2
  obtain ⟨g, hg, cg⟩ := rowq_cell hR2 (j := m) (o := some (R.bd i j)) (by unfold bdp; rw [List.getElem?_map, hm]; rfl)
  subst hg
  have hgw : w.heap.size ≤ g := (row_blk hR2 g rfl).1
  obtain ⟨hR3, z3⟩ := rowq_set hR2 m none
  obtain ⟨w3, hw3⟩ : ∃ W, W = w2.setCell ⟨g, m, none⟩ (.pointer none) := ⟨_, rfl⟩
  have hR3 : RowQ w3 w.heap.size (.slice (some ⟨g, 0, none⟩) s.P.length vc) ((bdp R s.P).set m none) := by rw [hw3]; exact hR3
  have hU3 : Upd Non w w3 := by rw [hw3]; exact Upd.setCell (p := ⟨g, m, none⟩) hU2 (fun hh => absurd hh (by simp only []; omega)) _
  have B3 : Blk w3 R.cb 70 (rfC R s.xs.length room s.st pv) := h.rf.blk.upd hU3 (fun e => e)
  obtain ⟨w4, hw4⟩ : ∃ W, W = w3.setCell ⟨R.cb, 5, none⟩ (.slice (some ⟨g, 0, none⟩) s.P.length vc) := ⟨_, rfl⟩
  have B4 : Blk w4 R.cb 70 (rfC R s.xs.length room s.st (.slice (some ⟨g, 0, none⟩) s.P.length vc)) := by rw [hw4]; exact B3.set 5 _
  have hcg : ¬ g = R.cb := fun hh => row_ne hR3 B3 (by decide) g rfl hh
  have hR4 : RowQ w4 0 (.slice (some ⟨g, 0, none⟩) s.P.length vc) (bdp R (s.P.set m none)) := by
    rw [bdp_set, hw4]
    exact rowq_base (row_upd hR3 (Upd.setCell (p := ⟨R.cb, 5, none⟩) (Upd.refl (fun k => k = R.cb) w3) (fun _ => rfl) _) (fun k hk => row_ne hR3 B3 (by decide) k hk))
  have hU4 : Upd (fun k => k = R.cb ∨ pv.ownBlock = some k) w w4 := by
    rw [hw4]
    exact Upd.setCell (p := ⟨R.cb, 5, none⟩) (hU3.mono (fun _ _ e => e.elim)) (fun _ => .inl rfl) _
  have F4 := h.rf.setPin (P' := s.P.set m none) B4 hR4 hU4 (.inr (fun k hk => by cases hk; exact hgw))
  have I4 := F4.it i v j e hv hev
  obtain ⟨w5, hw5⟩ : ∃ W, W = w4.setCell ⟨R.bd i j, 4, none⟩ (.int .i64 ((e.pins : Int) - 1)) := ⟨_, rfl⟩
  have I5 : Blk w5 (R.bd i j) 84 (itC { e with pins := e.pins - 1 } (v.inn j)) := by
    rw [hw5]
    have := I4.set 4 (.int .i64 ((e.pins : Int) - 1))
    have e9 : ((e.pins - 1 : Nat) : Int) = (e.pins : Int) - 1 := by omega
    unfold itC at this ⊢
    simp only [e9]
    exact this
  have U5 : Upd (fun k => k = R.bd i j) w4 w5 := by rw [hw5]; exact Upd.setCell (p := ⟨R.bd i j, 4, none⟩) (Upd.refl (fun k => k = R.bd i j) w4) (fun _ => rfl) _
  have F5 := F4.setItem hv hev I5 U5
  have hin : fset v.inn j (v.inn j) = v.inn := by
    funext x; unfold fset; split
    · rename_i e; rw [e]
    · rfl
  rw [hin] at F5
  refine ⟨g, s.P.length, vc, m, w2, by omega, hmP, h.pl, hrun, cg, z3, w3, hw3, B3.cell1 5 _ rfl, B3.frozen 5, w4, hw4, I4.cell1 4 _ rfl, I4.frozen 4, w5, hw5, hp0, hp1, F5, ?_, hgw⟩
  exact (hU4.mono (fun k _ hk => hk.elim .inl (fun e => .inr (.inr (.inr (.inl e)))))).then U5 (fun k _ hk => .inr (.inr (.inr (.inr ⟨i, v, j, hv, hjl, hk⟩))))
end
end Go.Proofs.Ytlkfabejecgfgaa
