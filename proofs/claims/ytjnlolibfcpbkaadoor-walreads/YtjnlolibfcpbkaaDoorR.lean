import Derived.Test.YtjnlolibfcpbkaaDoorQ
namespace Go.Proofs.YtjnlolibfcpbkaaDoor
open Go.RowKit Go.Maps
set_option linter.unusedVariables false
set_option linter.unusedSimpArgs false
theorem Reach.sm {b : List Int} {rc : Bool} {log : Int} {s : St} (h : Reach b rc log s) : Sm s ∧ s.at_ ≤ b.length := by
  obtain ⟨n, hn⟩ := h
  induction n generalizing s with
  | zero =>
    simp [iterM] at hn
    subst hn
    exact ⟨⟨Nat.le_refl _, Nat.le_refl _, Nat.le_refl _⟩, Nat.zero_le _⟩
  | succ n ih =>
    unfold iterM at hn
    cases h1 : iterM b rc log n with
    | none => rw [h1] at hn; cases hn
    | some s0 =>
      rw [h1] at hn
      simp only at hn
      cases h2 : stepM b rc log s0 with
      | error c => rw [h2] at hn; cases hn
      | ok s1 =>
        rw [h2] at hn
        cases hn
        exact ⟨stepM_sz h2 (ih h1).1, (stepM_at h2).2⟩
theorem Res.bd {b : List Int} {log : Int} {recs : List (List Int)} {how : Int} {en : Nat} (h : Res b log recs how en) : recs.length ≤ 1000000000000 := by
  rcases h with ⟨_, rfl, _, _⟩ | ⟨hb, t, ht, _, rfl, _⟩
  · simp
  · have := ht.sm
    have h1 := this.1.2.1
    have h2 := this.2
    omega
theorem copy_arg2 {w w1 : World} {v' : Value} {a : Option Addr} {len cap : Nat} {l : List Int} (h : Arg w a len cap l) (hown : OwnB w1 w.heap.size v' ([] ++ l)) (hgrow : (w.alloc (.cells #[] 5)).grownBy w1 (some w.heap.size)) :
    ∃ a' cap', v' = .slice a' len cap' ∧ Arg w1 a' len cap' l ∧ len ≤ cap' ∧ Arg w1 a len cap l ∧ Below w.heap.size w w1 := by
  obtain ⟨a', cap', rfl, ho, h1, h2, h3⟩ := copy_arg h hown hgrow
  refine ⟨a', cap', rfl, h1, ?_, h2, h3⟩
  have hl := h.1
  rcases ho with ⟨e, h0⟩ | ⟨b, off, cp, e, _, _, h4, _⟩
  · cases e; exact Nat.le_refl _
  · injection e with e1 e2 e3
    omega
set_option maxRecDepth 100000 in
set_option maxHeartbeats 4000000 in
theorem reads_walk {w : World} {ba : Option Addr} {blen bcap : Nat} {b : List Int} (hb : Arg w ba blen bcap b) (hcap : blen ≤ bcap) (log : Int) :
    Calls Tryd.prog 3 #[.slice ba blen bcap, .int .u32 log] w fun e w' => e = .returned (.bool true) ∧ Below w.heap.size w w' := by
  obtain ⟨i0, hi, hz0, hz1, hz2⟩ := info_parts info5
  have hble := hb.1
  have hbm := hb.2.2.1
  have hb0 : Below w.heap.size w (w.alloc (.cells #[] 5)) := (Below.refl _ w).alloc (Nat.le_refl _) _
  have hll : Hid (([] : List Int).length + b.length ≤ 140737488355328) := by show _ ≤ _; simp; omega
  go_enter Tryd.func3, Tryd.ntmps3
  go_upto_region 5 with (first
    | (at_builtin; refine OwnB.wpList_append rfl _ _ 22 22 rfl rfl (base := w.heap.size) (l := []) (own_empty w) i0 Tryd.underlying22 hi hz0 hz1 hz2 _ rfl b (hb.below hb0).src (by simp) hll.out ?_
       intro v1 w1 ho1 hg1 hat1
       obtain ⟨a1, cp1, rfl, hA1, hcp1, hb1, hB1⟩ := copy_arg2 hb ho1 hg1
       have HR := read_any hA1 hcp1 log)
    | (go_at_call 4; refine HR.mono ?_; rintro e w2 ⟨lv, how, en, recs, rfl, hres, hrd, hB2⟩
       have hB2' : Below w.heap.size w w2 := hB1.trans (hB2.mono hB1.size)
       have HQ := rread_any (hb.below hB2') hcap log)
    | (go_at_call 5; refine HQ.mono ?_; rintro e w3 ⟨lv3, how3, en3, recs3, rfl, hres3, hrd3, hB3⟩
       obtain ⟨rfl, rfl, rfl⟩ := hres.one hres3
       have hB3' : Below w.heap.size w w3 := hB2'.trans (hB3.mono hB2'.size)
       have hrd' := hrd.below hB3
       have HP := fun (rec : Bool) => reopen_any (hb.below hB3') hcap log rec)
    | (go_at_call 6; refine (HP _).mono ?_; rintro e w4 ⟨hB4, recs4, how4, en4, pv4, hres4, rfl, hc4⟩
       obtain ⟨rfl, rfl, rfl⟩ := hres.one hres4
       have hB4' : Below w.heap.size w w4 := hB3'.trans (hB4.mono hB3'.size)
       have HP2 := fun (rec : Bool) => rreopen_any (hb.below hB4') hcap log rec)
    | (go_at_call 7; refine (HP2 _).mono ?_; rintro e w5 ⟨hB5, recs5, how5, en5, pv5, hres5, rfl, hc5⟩
       obtain ⟨rfl, rfl, rfl⟩ := hres.one hres5
       have hB5' : Below w.heap.size w w5 := hB4'.trans (hB5.mono hB4'.size)))
  have hrdA := (hrd'.below hB4).below hB5
  have hrdB := (hrd3.below hB4).below hB5
  have HS := same_yes hrdA hrdB hres.bd
  rcases hc4 with ⟨hne, rfl⟩ | ⟨heq, P, rfl, hPl, hPc⟩
  · rcases hc5 with ⟨_, rfl⟩ | ⟨h0, _⟩
    · clear hrd hrd3 hrd' hrdA hrdB hres hne HR HQ HP HP2
      go_wp2_with (first
        | (go_at_call 8; refine HS.mono ?_; rintro e w6 ⟨rfl, hB6⟩)
        | (go_at_call 10; refine (lives_any _).mono ?_; rintro e w7 ⟨rfl, hB7⟩))
      go_ret
      have b6 := hB5'.trans (hB6.mono hB5'.size)
      exact ⟨rfl, b6.trans (hB7.mono b6.size)⟩
    · exact absurd h0 hne
  · rcases hc5 with ⟨hne, _⟩ | ⟨_, P5, rfl, hP5l, hP5c⟩
    · exact absurd heq hne
    · have hP5 := (hB5.cell (p := ⟨P, 2, none⟩) hPl).trans hPc
      have hPl5 : P < w5.heap.size := Nat.lt_of_lt_of_le hPl hB5.size
      have e0 : Hid _ := heq
      clear hrd hrd3 hrd' hrdA hrdB hres heq HR HQ HP HP2
      go_wp2_with (first
        | (go_at_call 8; refine HS.mono ?_; rintro e w6 ⟨rfl, hB6⟩
           have HT := at_any ((hB6.cell (p := ⟨P, 2, none⟩) hPl5).trans hP5))
        | (go_at_call 9; refine HT.mono ?_; rintro e w9 ⟨rfl, hw⟩; have hw2 := hw.symm; subst hw2)
        | (go_at_call 10; refine (lives_any _).mono ?_; rintro e w7 ⟨rfl, hB7⟩))
      go_ret
      have b6 := hB5'.trans (hB6.mono hB5'.size)
      exact ⟨rfl, b6.trans (hB7.mono b6.size)⟩
end Go.Proofs.YtjnlolibfcpbkaaDoor
