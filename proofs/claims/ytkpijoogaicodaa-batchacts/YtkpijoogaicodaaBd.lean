import Derived.Test.YtkpijoogaicodaaBc
namespace Go.Proofs.Ytkpijoogaicodaa
open Go.RowKit
set_option linter.unusedVariables false
set_option linter.unusedSimpArgs false

/-- A record without what plays no part. -/
def plainR (r : Rec) : Rec := if r.kind = 0 then ⟨r.fam, r.kind, r.key, ⟨#[]⟩⟩ else r
def rz (r : Rec) : Nat := rsz r.fam r.kind r.key r.val
theorem rz_plain (r : Rec) : rz (plainR r) = rz r := by
  unfold rz plainR
  split
  · rename_i h; unfold rsz; simp [h]
  · rfl
def rchk (r : Rec) : Int := chk r.kind r.key r.val
def addE (rs : List Rec) (r : Rec) : Int := if rchk r ≠ 0 then rchk r else if 4096 < rs.length + 1 ∨ 4194304 < 12 + szs rs + rz r then 2 else 0
def addL (rs : List Rec) (r : Rec) : List Rec := if addE rs r = 0 then rs ++ [plainR r] else rs
/-- Records that a batch may hold. -/
structure Good (rs : List Rec) : Prop where
  len : rs.length ≤ 4096
  size : 12 + szs rs ≤ 4194304
theorem rchk_zero {r : Rec} (h : rchk r = 0) : r.key.size ≤ 1024 ∧ (¬ r.kind = 0 → r.val.size ≤ 16384) ∧ 0 ≤ r.kind ∧ r.kind ≤ 2 := by
  unfold rchk chk at h
  split at h
  · simp at h
  · split at h
    · simp at h
    · split at h
      · simp at h
      · rename_i h1 h2 h3
        refine ⟨by omega, fun hk => ?_, by omega, by omega⟩
        have : ¬ mostV r.kind < (r.val.size : Int) := fun hh => h3 ⟨hk, hh⟩
        unfold mostV at this
        split at this <;> omega
theorem szs_snoc (rs : List Rec) (r : Rec) : szs (rs ++ [r]) = szs rs + rz r := by rw [szs_app]; simp [szs, rz]
theorem Good.add {rs : List Rec} (h : Good rs) (r : Rec) : Good (addL rs r) := by
  unfold addL
  split
  · rename_i he
    unfold addE at he
    split at he
    · rename_i h1; exact absurd he h1
    · split at he
      · simp at he
      · rename_i h1
        refine ⟨by simp; omega, ?_⟩
        rw [szs_snoc, rz_plain]; omega
  · exact h
theorem Good.nil : Good [] := ⟨by simp, by simp [szs]⟩

/-- Add. -/
theorem add_any {w : World} {b : Nat} {rv mv : Value} {rs : List Rec} {ms : List Nat} (h : Bt w b rv mv rs ms) (hg : Good rs) (r : Rec) (f0 : 0 ≤ r.fam) (f1 : r.fam < 4294967296) :
    Calls Try.prog 19 #[ptr b, recV r.fam r.kind r.key r.val] w fun e w' => ∃ rv', e = .returned (.int .i64 (addE rs r)) ∧ Bt w' b rv' mv (addL rs r) ms ∧ Upd (Of b rv) w w' ∧ (rv'.ownBlock = rv.ownBlock ∨ ∀ j, rv'.ownBlock = some j → w.heap.size ≤ j) := by
  have hl := hg.len
  have hs := hg.size
  by_cases hc : rchk r = 0
  · obtain ⟨k1, k2, k3, k4⟩ := rchk_zero hc
    by_cases hfull : 4096 < rs.length + 1 ∨ 4194304 < 12 + szs rs + rz r
    · have he : addE rs r = 2 := by unfold addE; rw [if_neg (by simpa using hc), if_pos hfull]
      have hL : addL rs r = rs := by unfold addL; rw [if_neg (by rw [he]; decide)]
      rw [he, hL]
      by_cases hk : r.kind = 0
      · refine (add_del_full h r.fam r.kind r.key r.val hc hk f0 f1 (by omega) hl hs ?_).mono ?_
        · have : rsz r.fam r.kind r.key ⟨#[]⟩ = rz r := by unfold rz rsz; simp [hk]
          rw [this]; exact hfull
        · rintro e w' ⟨rfl, hb⟩
          exact ⟨rv, rfl, h.below hb, Upd.ofBelow hb, .inl rfl⟩
      · refine (add_put_full h r.fam r.kind r.key r.val hc hk f0 f1 (by omega) (by have := k2 hk; omega) hl hs hfull).mono ?_
        rintro e w' ⟨rfl, hb⟩
        exact ⟨rv, rfl, h.below hb, Upd.ofBelow hb, .inl rfl⟩
    · have he : addE rs r = 0 := by unfold addE; rw [if_neg (by simpa using hc), if_neg hfull]
      have hL : addL rs r = rs ++ [plainR r] := by unfold addL; rw [if_pos he]
      rw [he, hL]
      by_cases hk : r.kind = 0
      · have hp : plainR r = ⟨r.fam, r.kind, r.key, ⟨#[]⟩⟩ := by unfold plainR; rw [if_pos hk]
        rw [hp]
        refine add_del h r.fam r.kind r.key r.val hc hk f0 f1 (by omega) (by omega) ?_
        have : rsz r.fam r.kind r.key ⟨#[]⟩ = rz r := by unfold rz rsz; simp [hk]
        rw [this]; omega
      · have hp : plainR r = r := by unfold plainR; rw [if_neg hk]
        rw [hp]
        refine add_put h r.fam r.kind r.key r.val hc hk f0 f1 (by omega) (by have := k2 hk; omega) (by omega) ?_
        show 12 + szs rs + rz r ≤ _
        omega
  · have he : addE rs r = rchk r := by unfold addE; rw [if_pos hc]
    have hL : addL rs r = rs := by unfold addL; rw [if_neg (by rw [he]; exact hc)]
    rw [he, hL]
    refine (add_bad b r.fam r.kind r.key r.val w hc).mono ?_
    rintro e w' ⟨rfl, hb⟩
    exact ⟨rv, rfl, h.below hb, Upd.ofBelow hb, .inl rfl⟩

set_option maxRecDepth 100000 in
set_option maxHeartbeats 1000000 in
/-- slices.Clone of records. -/
theorem clone_any {w : World} {v : Value} {l : List Rec} (h : w.ownsRow 0 31 4 v l.length (rcs l)) (hl : l.length ≤ 100000) :
    Calls Try.prog 55 #[v] w fun e w' => ∃ v', e = .returned v' ∧ w'.ownsRow 0 31 4 v' l.length (rcs l) ∧ Below w.heap.size w w' ∧ (∀ k, v'.ownBlock = some k → w.heap.size ≤ k) := by
  have hrd := row_rd h
  rcases h.2 with ⟨rfl, h0⟩ | ⟨g, cap, cur, rfl, hb, hg, h2, h3, h4, h5⟩
  · have hq := Lib.run_eql_slice_nil (P := Try.prog) w 23 31 none 0 0 0 0 Try.underlying23
    go_enter Try.func55, Try.ntmps55
    go_wp2
    go_ret
    exact ⟨_, rfl, h, Below.refl _ _, fun k hk => by cases hk⟩
  · have hq := Lib.run_eql_slice_nil (P := Try.prog) w 23 31 (some ⟨g, 0, none⟩) l.length cap 0 0 Try.underlying23
    have hmade : (w.alloc (.cells #[] 31)).ownsRow 0 31 4 (.slice (some ⟨w.heap.size, 0, none⟩) 0 0) ([] : List Rec).length (rcs []) := World.ownsRow_made w #[] 0 (Nat.zero_le _) (by unfold maxLen; omega) rfl
    have hrd' : RdR (w.alloc (.cells #[] 31)) (.slice (some ⟨g, 0, none⟩) l.length cap) l := hrd.below ((Below.refl _ _).alloc (Nat.le_refl _) _)
    have hn : (([] : List Rec).length + l.length) * 48 ≤ 140737488355328 := by simp; omega
    have HM : Hid ((w.alloc (.cells #[] 31)).ownsRow 0 31 4 (.slice (some ⟨w.heap.size, 0, none⟩) 0 0) ([] : List Rec).length (rcs [])) := hmade
    clear h5 h4 hmade
    go_enter Try.func55, Try.ntmps55
    go_wp2_with (at_builtin; refine wpList_append_rows (rv := .slice (some ⟨w.heap.size, 0, none⟩) 0 0) (sv := .slice (some ⟨g, 0, none⟩) l.length cap) rfl _ _ rfl rfl rfl HM.out (Nat.zero_le _) hrd' hn ?_; intro v' w1 ho hg' hloc)
    go_ret
    refine ⟨v', rfl, ho, ?_, ?_⟩
    · exact ((Below.refl w.heap.size w).alloc (Nat.le_refl _) _).grown hg' (by simp) (fun k hk => by cases hk; exact Nat.le_refl _)
    · intro k hk
      rcases hloc with h' | h'
      · rw [hk] at h'; cases h'; exact Nat.le_refl _
      · rw [hk] at h'; cases h'; simp
set_option maxRecDepth 100000 in
set_option maxHeartbeats 1000000 in
/-- Records. -/
theorem records_any {w : World} {b : Nat} {rv mv : Value} {rs : List Rec} {ms : List Nat} (h : Bt w b rv mv rs ms) (hl : rs.length ≤ 100000) :
    Calls Try.prog 20 #[ptr b] w fun e w' => ∃ v', e = .returned v' ∧ w'.ownsRow 0 31 4 v' rs.length (rcs rs) ∧ Below w.heap.size w w' ∧ (∀ k, v'.ownBlock = some k → w.heap.size ≤ k) := by
  have c0 := h.blk.cell1 0 _ rfl
  have hv := clone_any h.row hl
  obtain ⟨a, c, rfl⟩ := (row_rd h.row).len
  go_enter Try.func20, Try.ntmps20
  go_wp2_with (go_at_call 55; refine hv.mono ?_; rintro e w1 ⟨v', rfl, g1, g2, g3⟩)
  go_ret
  exact ⟨v', rfl, g1, g2, g3⟩
end Go.Proofs.Ytkpijoogaicodaa
