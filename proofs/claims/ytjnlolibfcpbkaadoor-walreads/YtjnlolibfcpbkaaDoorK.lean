import Derived.Test.YtjnlolibfcpbkaaDoorJ
namespace Go.Proofs.YtjnlolibfcpbkaaDoor
open Go.RowKit Go.Maps
set_option linter.unusedVariables false
set_option linter.unusedSimpArgs false
/-- What is kept: no more has been read than lies ahead. -/
def Sm (s : St) : Prop := s.now.length ≤ s.at_ ∧ s.recs.length ≤ s.at_ ∧ s.en ≤ s.at_
theorem lookM_sz {rc : Bool} {log : Int} {s s' : St} {f : List Int} (h : lookM rc log s f = .ok s') (hf : hd rc ≤ f.length) (hs : Sm s) : Sm s' := by
  unfold lookM at h
  split at h
  · cases h
  split at h
  · cases h
  split at h
  · cases h
  split at h
  · cases h
  cases h
  exact takeM_sz rc s _ f hf hs
theorem fragM_sz {b : List Int} {rc : Bool} {log : Int} {s s' : St} (h : fragM b rc log s = .ok s') (hs : Sm s) : Sm s' := by
  unfold fragM at h
  split at h
  · cases h
  split at h
  · cases h
  split at h
  · cases h
  rename_i h1 h2 h3
  exact lookM_sz h (by rw [List.length_take]; omega) hs
theorem restM_sz {b : List Int} {rc : Bool} {log : Int} {s s' : St} (h : restM b rc log s = .ok s') (hs : Sm s) : Sm s' := by
  unfold restM at h
  split at h
  · cases h
  exact fragM_sz h hs
theorem stepM_sz {b : List Int} {rc : Bool} {log : Int} {s s' : St} (h : stepM b rc log s = .ok s') (hs : Sm s) : Sm s' := by
  unfold stepM at h
  split at h
  · cases h
  obtain ⟨h1, h2, h3⟩ := hs
  exact restM_sz h ⟨by show s.now.length ≤ s.at_ + tl rc s.at_; omega, by show s.recs.length ≤ s.at_ + tl rc s.at_; omega, by show s.en ≤ s.at_ + tl rc s.at_; omega⟩
/-- A slice that reads as these records. -/
def RdLL (w : World) (v : Value) (ls : List (List Int)) : Prop :=
  ∃ a cap, v = .slice a ls.length cap ∧ ∀ (i : Nat) (l : List Int), ls[i]? = some l → ∃ g ra cp, a = some ⟨g, 0, none⟩ ∧ g < w.heap.size ∧ w.cell? ⟨g, i, none⟩ = some (.slice ra l.length cp) ∧ Arg w ra l.length cp l
theorem RdLL.below {w w' : World} {v : Value} {ls : List (List Int)} (h : RdLL w v ls) (hB : Below w.heap.size w w') : RdLL w' v ls := by
  obtain ⟨a, cap, e, hr⟩ := h
  refine ⟨a, cap, e, fun i l hl => ?_⟩
  obtain ⟨g, ra, cp, h1, h2, h3, h4⟩ := hr i l hl
  exact ⟨g, ra, cp, h1, Nat.lt_of_lt_of_le h2 hB.size, (hB.cell (p := ⟨g, i, none⟩) h2).trans h3, h4.below hB⟩
theorem Rd.rdll {w : World} {base rb : Nat} {bv : Value} {log : Int} {rc : Bool} {sol : Nat} {s : St} {rv lv : Value} {svs : List Value} (h : Rd w base rb bv log rc sol s rv lv svs) : RdLL w lv s.recs := by
  obtain ⟨a, c, e⟩ := row_form h.row
  refine ⟨a, c, e, fun i l hl => ?_⟩
  have hi : i < s.recs.length := (List.getElem?_eq_some_iff.1 hl).1
  obtain ⟨v, hv, ra, cp, rfl, hA, _⟩ := h.rds i l hl
  have hr := h.row
  rcases hr.2 with ⟨_, h0⟩ | ⟨g, cap, cur, e2, _, hgg, _⟩
  · omega
  · rw [e] at e2
    cases e2
    refine ⟨g, ra, cp, rfl, (Array.getElem?_eq_some_iff.1 hgg).1, ?_, hA⟩
    have := hr.cells (g := g) (by rw [e]; rfl) i _ hv
    rw [add_at] at this
    simpa using this
def ms (rb blen : Nat) (v : Value) (w : World) : Nat := match v, w.cell? ⟨rb, 4, none⟩ with
  | .int _ h, some (.int _ n) => if h = -1 then blen - n.toNat + 1 else 0
  | _, _ => 0
theorem ms_go {rb blen n : Nat} {w : World} {v : Value} (hc : w.cell? ⟨rb, 4, none⟩ = some (.int .i64 (n : Nat))) (hv : v = .int .i64 (-1)) : ms rb blen v w = blen - n + 1 := by
  subst hv
  unfold ms
  rw [hc]
  simp
theorem ms_end {rb blen n : Nat} {w : World} {v : Value} {c : Int} (hc : w.cell? ⟨rb, 4, none⟩ = some (.int .i64 (n : Nat))) (hv : v = .int .i64 c) (h : c ≠ -1) : ms rb blen v w = 0 := by
  subst hv
  unfold ms
  rw [hc]
  simp [h]
set_option maxRecDepth 100000 in
set_option maxHeartbeats 4000000 in
theorem read_any {w : World} {ba : Option Addr} {blen bcap : Nat} {b : List Int} (hb : Arg w ba blen bcap b) (hcap : blen ≤ bcap) (log : Int) :
    Calls Tryd.prog 4 #[.slice ba blen bcap, .int .u32 log] w fun e w' => ∃ (lv : Value) (how : Int) (en : Nat) (recs : List (List Int)), e = .returned (.tuple #[lv, .int .i64 how, .int .i64 en]) ∧ Res b log recs how en ∧ RdLL w' lv recs ∧ Below w.heap.size w w' := by
  have hble := hb.1
  have hbm := hb.2.2.1
  by_cases hbig : 1073741824 < blen
  · have hbig' : (1073741824 : Int) < (blen : Int) := by omega
    go_enter Tryd.func4, Tryd.ntmps4
    go_wp2
    go_ret3
    exact ⟨_, 3, 0, [], rfl, .inl ⟨by omega, rfl, rfl, rfl⟩, ⟨none, 0, rfl, fun i l h => by simp at h⟩, Below.refl _ _⟩
  · have hbig' : (blen : Int) ≤ 1073741824 := by omega
    have HR := recycled_any ba blen bcap b w hb
    obtain ⟨rc, hrc⟩ : ∃ rc, rc = rcy b := ⟨_, rfl⟩
    rw [← hrc] at HR
    have hrc' : Hid _ := hrc
    clear hrc
    go_enter Tryd.func4, Tryd.ntmps4
    go_wp2_with (first
      | (go_at_call 11; refine HR.mono ?_; rintro e w1 ⟨rfl, hB1⟩
         have HTr := trim_any ba blen bcap b w1 (hb.below hB1) hcap)
      | (go_at_call 12; refine HTr.mono ?_; rintro e w2 ⟨v2, sol, hsol, rfl, ⟨a2, c2, rfl⟩, hw⟩; have hw2 := hw.symm; subst hw2))
    have hbl : blen ≤ 1073741824 := by omega
    obtain ⟨rb, hrb⟩ : ∃ rb, rb = w1.heap.size := ⟨_, rfl⟩
    have R0 : Rd (w1.alloc (.cells #[.slice ba blen bcap, .int .u32 log, .bool rc, .int .i64 (sol : Nat), .int .i64 0, .bool false, .slice none 0 0, .slice none 0 0, .int .i64 0] 44)) w.heap.size rb (.slice ba blen bcap) log rc sol St0 (.slice none 0 0) (.slice none 0 0) [] := by
      rw [hrb]
      exact ⟨Blk.new w1 44 (rdC (.slice ba blen bcap) log rc sol 0 false (.slice none 0 0) (.slice none 0 0) 0), OwnB.nil _ _, World.ownsRow_nil _ _ _ _, fun i l h => by simp [St0] at h, by simp [Value.ownBlock], fun k hk => by simp [Value.ownBlock] at hk, hB1.size, by simp; have := hB1.size; omega, fun c hc => by cases hc⟩
    have B0 : Below w.heap.size w (w1.alloc (.cells #[.slice ba blen bcap, .int .u32 log, .bool rc, .int .i64 (sol : Nat), .int .i64 0, .bool false, .slice none 0 0, .slice none 0 0, .int .i64 0] 44)) := hB1.alloc hB1.size _
    have hba : ∀ B off, ba = some ⟨B, off, none⟩ → b ≠ [] → B < w.heap.size := by
      intro B off e hn
      rcases hb.2.2.2 with h9 | ⟨B', off', e', h9, _⟩
      · exact absurd h9 hn
      · rw [e] at e'; cases e'; exact h9
    rw [← hrb]
    clear hrb HR
    go_loopw [8] (fun how wr => ∃ (s : St) (rv lv : Value) (svs : List Value) (hv : Int), how = .int .i64 hv ∧ Rd wr w.heap.size rb (.slice ba blen bcap) log rc sol s rv lv svs ∧ Below w.heap.size w wr ∧
        ((hv = -1 ∧ Reach b rc log s ∧ s.at_ ≤ blen ∧ Sm s) ∨ (hv ≠ -1 ∧ ∃ t, Reach b rc log t ∧ stepM b rc log t = .error hv ∧ s.recs = t.recs ∧ s.en = t.en))) (fun how wr => ms rb blen how wr)
    case atStart => exact ⟨St0, _, _, _, -1, rfl, R0, B0, .inl ⟨rfl, Reach.zero _ _ _, Nat.zero_le _, ⟨Nat.le_refl _, Nat.le_refl _, Nat.le_refl _⟩⟩⟩
    case round =>
      clear R0 B0
      obtain ⟨s, rv, lv, svs, hv, rfl, R, BW, hcase⟩ := hrel
      obtain ⟨W, rfl⟩ : ∃ W, W = wr := ⟨_, rfl⟩
      rcases hcase with ⟨rfl, hreach, hat, hsm⟩ | ⟨hne, t, ht, hst, e1, e2⟩
      · have HS := step_any R (hb.below BW) hcap hsol hba hat hbl hsm.1 hsm.2.1
        have hc4 := R.blk.cell1 4 _ rfl
        have hx : Hid (Reach b rc log s ∧ s.at_ ≤ blen ∧ Sm s) := ⟨hreach, hat, hsm⟩
        clear hreach hat hsm
        go_wp2_with (go_at_call 13; refine HS.mono ?_; rintro e w5 hP; obtain ⟨c8, rfl⟩ := hP.ret)
        go_roundw
        case rel =>
          obtain ⟨hB5, ⟨c, h1, h2, h3, at_, rv', lv', svs', R'⟩ | ⟨s', h1, h3, rv', lv', svs', R'⟩⟩ := hP
          · cases h3
            exact ⟨_, rv', lv', svs', _, rfl, R', BW.trans hB5, .inr ⟨h2, s, hx.out.1, h1, rfl, rfl⟩⟩
          · cases h3
            exact ⟨_, rv', lv', svs', -1, rfl, R', BW.trans hB5, .inl ⟨rfl, hx.out.1.step h1, by have := (stepM_at h1).2; omega, stepM_sz h1 hx.out.2.2⟩⟩
        case measure =>
          rw [ms_go hc4 rfl]
          obtain ⟨hB5, ⟨c, h1, h2, h3, at_, rv', lv', svs', R'⟩ | ⟨s', h1, h3, rv', lv', svs', R'⟩⟩ := hP
          · rw [ms_end (R'.blk.cell1 4 _ rfl) (c := c) (by cases h3; rfl) h2]; omega
          · rw [ms_go (R'.blk.cell1 4 _ rfl) (by cases h3; rfl)]
            have := stepM_at h1
            have := hx.out.2.1
            omega
      · have hne' : (hv == -1) = false := by simpa using hne
        have e1' : Hid _ := e1
        have e2' : Hid _ := e2
        clear e1 e2
        have c7 := R.blk.cell1 7 _ rfl
        have c8 := R.blk.cell1 8 _ rfl
        go_wp2
        go_quiet (fail)
        go_wp2
        go_ret3
        have RF := R.below (below_drewN (Below.refl _ _) nq)
        refine ⟨lv, hv, s.en, s.recs, rfl, .inr ⟨by omega, t, ?_, ?_, e1'.out, e2'.out⟩, RF.rdll, below_drewN BW _⟩
        · rw [← hrc'.out]; exact ht
        · rw [← hrc'.out]; exact hst
end Go.Proofs.YtjnlolibfcpbkaaDoor
