import Derived.Test.YtjnlolibfcpbkaaDoorM
namespace Go.Proofs.YtjnlolibfcpbkaaDoor
open Go.RowKit Go.Maps
set_option linter.unusedVariables false
set_option linter.unusedSimpArgs false
set_option maxRecDepth 100000 in
set_option maxHeartbeats 2000000 in
theorem same_yes {w : World} {v1 v2 : Value} {ls : List (List Int)} (h1 : RdLL w v1 ls) (h2 : RdLL w v2 ls) (hl : ls.length ≤ 1000000000000) :
    Calls Tryd.prog 8 #[v1, v2] w fun e w' => e = .returned (.bool true) ∧ Below w.heap.size w w' := by
  obtain ⟨a1, c1, rfl, hr1⟩ := h1
  obtain ⟨a2, c2, rfl, hr2⟩ := h2
  go_enter Tryd.func8, Tryd.ntmps8
  go_wp2
  go_loopw [5] (fun i wr => ∃ k : Nat, k ≤ ls.length ∧ i = .int .i64 (k : Nat) ∧ Below w.heap.size w wr) (fun i _ => ls.length - (intOf i).toNat)
  case atStart => exact ⟨0, Nat.zero_le _, rfl, Below.refl _ _⟩
  case round =>
    obtain ⟨k, hk, rfl, hB⟩ := hrel
    obtain ⟨W, rfl⟩ : ∃ W, W = wr := ⟨_, rfl⟩
    by_cases hlt : k < ls.length
    · have hlt' : (k : Int) < (ls.length : Int) := by omega
      have hk0 : (0 : Int) ≤ (k : Int) := by omega
      have hx := List.getElem?_eq_getElem hlt
      obtain ⟨g1, ra1, cp1, rfl, hg1, hc1, hA1⟩ := hr1 k _ hx
      obtain ⟨g2, ra2, cp2, rfl, hg2, hc2, hA2⟩ := hr2 k _ hx
      generalize ls[k] = l at *
      have c1' := (hB.cell (p := ⟨g1, k, none⟩) hg1).trans hc1
      have c2' := (hB.cell (p := ⟨g2, k, none⟩) hg2).trans hc2
      have s1 := (hA1.below (hB.drew)).str
      have s2 := (hA2.below (hB.drew)).str
      have e0 : ((bstr l).toList == (bstr l).toList) = true := by simp
      clear hx hr1 hr2 hA1 hA2 hc1 hc2
      go_wp2
      go_region
      go_wp2
      go_roundw
      case rel => exact ⟨k + 1, by omega, by go_num, hB.drew⟩
      case measure => simp [intOf]; omega
    · obtain rfl : k = ls.length := by omega
      go_wp2
      go_ret
      exact ⟨rfl, hB⟩
theorem new_any (log : Int) (rc : Bool) (w : World) :
    Calls Tryd.prog 19 #[.int .u32 log, .bool rc] w fun e w' => e = .returned (ptr w.heap.size) ∧ w' = w.alloc (.cells #[.int .u32 log, .bool rc, .int .i64 0] 50) := by
  go_enter Tryd.func19, Tryd.ntmps19
  go_wp2
  go_ret
  exact ⟨rfl, rfl⟩
theorem at_any {w : World} {P : Nat} {n : Int} (h : w.cell? ⟨P, 2, none⟩ = some (.int .i64 n)) : Calls Tryd.prog 9 #[ptr P] w fun e w' => e = .returned (.int .i64 n) ∧ w' = w := by
  go_enter Tryd.func9, Tryd.ntmps9
  go_wp2
  go_ret
  exact ⟨rfl, rfl⟩
/-- What Reopen answers. -/
def reC (n : Nat) (how : Int) (en : Nat) : Int := if 1073741824 < n then 2 else if how = 0 ∧ en = n then 0 else 3
def RePost (b : List Int) (log : Int) (blen : Nat) (w : World) (e : Ending) (w' : World) : Prop :=
  Below w.heap.size w w' ∧ ∃ (recs : List (List Int)) (how : Int) (en : Nat) (pv : Value), Res b log recs how en ∧ e = .returned (.tuple #[pv, .int .i64 (reC blen how en)]) ∧
    ((reC blen how en ≠ 0 ∧ pv = .pointer none) ∨ (reC blen how en = 0 ∧ ∃ P, pv = ptr P ∧ P < w'.heap.size ∧ w'.cell? ⟨P, 2, none⟩ = some (.int .i64 (blen : Nat))))
set_option maxRecDepth 100000 in
set_option maxHeartbeats 2000000 in
theorem reopen_any {w : World} {ba : Option Addr} {blen bcap : Nat} {b : List Int} (hb : Arg w ba blen bcap b) (hcap : blen ≤ bcap) (log : Int) (rec : Bool) :
    Calls Tryd.prog 6 #[.slice ba blen bcap, .int .u32 log, .bool rec] w (RePost b log blen w) := by
  have hble := hb.1
  have hbm := hb.2.2.1
  by_cases hbig : 1073741824 < blen
  · have hbig' : (1073741824 : Int) < (blen : Int) := by omega
    have e2 : reC blen 3 0 = 2 := by unfold reC; rw [if_pos hbig]
    have e2' : Hid _ := e2
    clear e2
    go_enter Tryd.func6, Tryd.ntmps6
    go_wp2
    go_ret2
    exact ⟨Below.refl _ _, [], 3, 0, .pointer none, .inl ⟨by omega, rfl, rfl, rfl⟩, by rw [e2'.out]; rfl, .inl ⟨by rw [e2'.out]; decide, rfl⟩⟩
  · have hbig' : (blen : Int) ≤ 1073741824 := by omega
    have HR := read_any hb hcap log
    go_enter Tryd.func6, Tryd.ntmps6
    go_upto_region 4 with (go_at_call 4; refine HR.mono ?_; rintro e w1 ⟨lv, how, en, recs, rfl, hres, hrd, hB1⟩)
    by_cases hok : how = 0 ∧ en = blen
    · obtain ⟨rfl, rfl⟩ := hok
      have e0 : Hid (reC en 0 en = 0) := by show _ = _; unfold reC; rw [if_neg hbig, if_pos ⟨rfl, rfl⟩]
      go_wp2_with (go_at_call 19; refine (new_any _ _ _).mono ?_; rintro e w2 ⟨rfl, hw⟩; subst hw)
      go_ret2
      refine ⟨?_, recs, 0, en, ptr w1.heap.size, hres, by rw [e0.out]; rfl, .inr ⟨e0.out, w1.heap.size, rfl, ?_, ?_⟩⟩
      · exact hB1.alloc hB1.size _
      · simp
      · rw [World.cell?_alloc_new]; rfl
    · have e3 : Hid (reC blen how en = 3) := by show _ = _; unfold reC; rw [if_neg hbig, if_neg hok]
      by_cases hh : how = 0
      · have hne : ((en : Int) == (blen : Int)) = false := beq_eq_false_iff_ne.2 (fun e => hok ⟨hh, by omega⟩)
        subst hh
        go_wp2
        go_ret2
        exact ⟨hB1, recs, 0, en, .pointer none, hres, by rw [e3.out]; rfl, .inl ⟨by rw [e3.out]; decide, rfl⟩⟩
      · have hh' : (how == 0) = false := by simpa using hh
        go_wp2
        go_ret2
        exact ⟨hB1, recs, how, en, .pointer none, hres, by rw [e3.out]; rfl, .inl ⟨by rw [e3.out]; decide, rfl⟩⟩
set_option maxRecDepth 100000 in
set_option maxHeartbeats 2000000 in
theorem rreopen_any {w : World} {ba : Option Addr} {blen bcap : Nat} {b : List Int} (hb : Arg w ba blen bcap b) (hcap : blen ≤ bcap) (log : Int) (rec : Bool) :
    Calls Tryd.prog 7 #[.slice ba blen bcap, .int .u32 log, .bool rec] w (RePost b log blen w) := by
  have hble := hb.1
  have hbm := hb.2.2.1
  by_cases hbig : 1073741824 < blen
  · have hbig' : (1073741824 : Int) < (blen : Int) := by omega
    have e2 : reC blen 3 0 = 2 := by unfold reC; rw [if_pos hbig]
    have e2' : Hid _ := e2
    clear e2
    go_enter Tryd.func7, Tryd.ntmps7
    go_wp2
    go_ret2
    exact ⟨Below.refl _ _, [], 3, 0, .pointer none, .inl ⟨by omega, rfl, rfl, rfl⟩, by rw [e2'.out]; rfl, .inl ⟨by rw [e2'.out]; decide, rfl⟩⟩
  · have hbig' : (blen : Int) ≤ 1073741824 := by omega
    have HR := rread_any hb hcap log
    go_enter Tryd.func7, Tryd.ntmps7
    go_upto_region 4 with (go_at_call 5; refine HR.mono ?_; rintro e w1 ⟨lv, how, en, recs, rfl, hres, hrd, hB1⟩)
    by_cases hok : how = 0 ∧ en = blen
    · obtain ⟨rfl, rfl⟩ := hok
      have e0 : Hid (reC en 0 en = 0) := by show _ = _; unfold reC; rw [if_neg hbig, if_pos ⟨rfl, rfl⟩]
      go_wp2
      go_ret2
      refine ⟨?_, recs, 0, en, ptr w1.heap.size, hres, by rw [e0.out]; rfl, .inr ⟨e0.out, w1.heap.size, rfl, ?_, ?_⟩⟩
      · exact hB1.alloc hB1.size _
      · simp
      · rw [World.cell?_alloc_new]; rfl
    · have e3 : Hid (reC blen how en = 3) := by show _ = _; unfold reC; rw [if_neg hbig, if_neg hok]
      by_cases hh : how = 0
      · have hne : ((en : Int) == (blen : Int)) = false := beq_eq_false_iff_ne.2 (fun e => hok ⟨hh, by omega⟩)
        subst hh
        go_wp2
        go_ret2
        exact ⟨hB1, recs, 0, en, .pointer none, hres, by rw [e3.out]; rfl, .inl ⟨by rw [e3.out]; decide, rfl⟩⟩
      · have hh' : (how == 0) = false := by simpa using hh
        go_wp2
        go_ret2
        exact ⟨hB1, recs, how, en, .pointer none, hres, by rw [e3.out]; rfl, .inl ⟨by rw [e3.out]; decide, rfl⟩⟩
end Go.Proofs.YtjnlolibfcpbkaaDoor
