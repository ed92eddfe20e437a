import Derived.Test.YtbnllobofndckaaRx
namespace Go.Proofs.Ytbnllobofndckaa
open Go.RowKit
set_option linter.unusedVariables false
set_option linter.unusedSimpArgs false
set_option maxRecDepth 100000 in
set_option maxHeartbeats 1000000 in
theorem rsize_any {w : World} {a : Option Addr} {l : List Ent} (hl : RdE w a l) (hs : ∀ e ∈ l, 0 ≤ e.s) (r : Int) (c : Nat) (hN : l.length ≤ 281474976710656) :
    Calls Try.prog 10 #[.int .i64 r, .slice a l.length c] w fun e w' => e = .returned (.tuple #[.int .i64 (sizV r l), .int .i64 (sizE r l)]) ∧ Below w.heap.size w w' := by
  obtain ⟨N, hNN⟩ : ∃ N, Hid (l.length = N) := ⟨_, rfl⟩
  have HL : Hid (RdE w a l) := hl
  have hN' : N ≤ 281474976710656 := by rw [← hNN.out]; exact hN
  obtain ⟨cn, hcn⟩ : ∃ cn, Hid (cntE r N = cn) := ⟨_, rfl⟩
  obtain ⟨E, hE⟩ : ∃ E, Hid (sizE r l = E) := ⟨_, rfl⟩
  obtain ⟨V, hV⟩ : ∃ V, Hid (sizV r l = V) := ⟨_, rfl⟩
  rw [hNN.out, hE.out, hV.out]
  clear hl hN
  go_enter Try.func10, Try.ntmps10
  by_cases hc0 : cn = 0
  · have hEf : Hid (E = firstE l) := by show _ = _; rw [← hE.out]; unfold sizE; rw [hNN.out, hcn.out, if_pos hc0]
    have hcs : Hid (1 ≤ r ∧ r ≤ 1024 ∧ N ≤ 65536) := by
      have := hcn.out
      unfold cntE at this
      show _ ∧ _
      split at this
      · omega
      · split at this <;> omega
    subst hc0
    have hr1 : ¬ r < 1 := by have := hcs.out; omega
    have hr2 : ¬ 1024 < r := by have := hcs.out; omega
    have hr3 : ¬ (65536 : Int) < N := by have := hcs.out; omega
    go_wp2
    go_loopw [6] (fun i wr => ∃ k : Nat, k ≤ N ∧ i = .int .i64 k ∧ Hid (firstE (l.drop k) = E) ∧ Below w.heap.size w wr) (fun i _ => ((N : Int) - intOf i).toNat)
    case atStart => exact ⟨0, Nat.zero_le _, rfl, by rw [hEf.out]; rfl, Below.refl _ _⟩
    case round =>
      obtain ⟨k, hk, rfl, HF, hb⟩ := hrel
      rcases Nat.lt_or_ge k N with hkN | hkN
      · have hkz : (k : Int) < N := by omega
        obtain ⟨x, hx⟩ : ∃ x, l[k]? = some x := ⟨l[k]'(by rw [hNN.out]; exact hkN), List.getElem?_eq_getElem _⟩
        obtain ⟨b, off, rfl, hat⟩ : ∃ b off, a = some ⟨b, off, none⟩ ∧ EAt wr b (off + k * 4) x := by
          rcases HL.out with h | ⟨b, off, e', hlt, h⟩
          · rw [h] at hx; simp at hx
          · refine ⟨b, off, e', ?_⟩
            obtain ⟨e0, e1, e2, e3⟩ := h k x hx
            exact ⟨(hb.cell hlt).trans e0, (hb.cell hlt).trans e1, (hb.cell hlt).trans e2, (hb.cell hlt).trans e3⟩
        obtain ⟨e0, e1, e2, e3⟩ := hat
        obtain ⟨er, her⟩ : ∃ er, Hid (x.er = er) := ⟨_, rfl⟩
        obtain ⟨ck, hck⟩ : ∃ ck, Hid (checkV x.u x.s x.k = ck) := ⟨_, rfl⟩
        have HCk : Hid (∀ W, Calls Try.prog 31 #[.agg #[.string x.u, .int .u64 x.s, .int .i64 x.k]] W fun e w' => e = .returned (.int .i64 ck) ∧ Below W.heap.size W w') := fun W => by
          rw [← hck.out]
          refine (rcheck_any x.u x.s x.k W).mono ?_
          rintro e w' ⟨rfl, rfl⟩
          exact ⟨rfl, (Below.refl _ _).alloc (Nat.le_refl _) _⟩
        obtain ⟨vv, hvv⟩ : ∃ vv : Int, Hid ((if 16384 < x.v.size then 2 else 0) = vv) := ⟨_, rfl⟩
        have HVl : Hid (∀ W, Calls Try.prog 32 #[.string x.v] W fun e w' => e = .returned (.int .i64 vv) ∧ w' = W) := fun W => by rw [← hvv.out]; exact value_any x.v W
        have HErr : Hid (er = if ck = 0 then vv else ck) := by show _ = _; rw [← her.out]; unfold Ent.er entE; rw [hck.out, hvv.out]
        have HC3 : Hid (∀ W, Below wr.heap.size wr W → W.cell? ⟨b, off + k * 4 + 3, none⟩ = some (.string x.v)) := fun W hW => (hW.cell (block_lt_of_cell e3)).trans e3
        have HSt : Hid (firstE (l.drop k) = if er = 0 then firstE (l.drop (k + 1)) else er) := by rw [← her.out]; exact firstE_step hx
        have HBW : Hid (Below w.heap.size w wr) := hb
        clear hx
        by_cases hck0 : ck = 0
        · have HEv : Hid (er = vv) := by show _ = _; rw [HErr.out, if_pos hck0]
          subst hck0
          by_cases hv0 : vv = 0
          · have HStp : Hid (firstE (l.drop (k + 1)) = E) := by show _ = _; rw [← HF.out, HSt.out, HEv.out, if_pos hv0]
            subst hv0
            go_wp2_with (first
              | (go_at_call 32; refine (HVl.out _).mono ?_; rintro e w3 ⟨rfl, hw⟩; have hw1 := hw.symm; subst hw1; clear hw)
              | (go_at_call 31; refine (HCk.out _).mono ?_; rintro e w2 ⟨rfl, hb2⟩; have hb3 := HBW.out.trans (hb2.mono HBW.out.size); have e5 := HC3.out _ hb2))
            go_roundw
            case rel => exact ⟨k + 1, by omega, by go_num, HStp, hb3⟩
            case measure => simp [intOf]; omega
          · have hne : (vv != 0) = true := by simpa using hv0
            have HV0 : Hid (V = 0 ∧ E = vv) := by
              have e1 : E = vv := by rw [← HF.out, HSt.out, HEv.out, if_neg hv0]
              refine ⟨?_, e1⟩
              rw [← hV.out]; unfold sizV; rw [hE.out, if_neg (by rw [e1]; exact hv0)]
            clear hv0
            go_wp2_with (first
              | (go_at_call 32; refine (HVl.out _).mono ?_; rintro e w3 ⟨rfl, hw⟩; have hw1 := hw.symm; subst hw1; clear hw)
              | (go_at_call 31; refine (HCk.out _).mono ?_; rintro e w2 ⟨rfl, hb2⟩; have hb3 := HBW.out.trans (hb2.mono HBW.out.size); have e5 := HC3.out _ hb2))
            go_ret2
            rw [HV0.out.1, HV0.out.2]
            exact ⟨rfl, hb3⟩
        · have hne : (ck != 0) = true := by simpa using hck0
          have hne2 : (ck == 0) = false := by simpa using hck0
          have HV0 : Hid (V = 0 ∧ E = ck) := by
            have e0 : er = ck := by rw [HErr.out, if_neg hck0]
            have e1 : E = ck := by rw [← HF.out, HSt.out, e0, if_neg hck0]
            refine ⟨?_, e1⟩
            rw [← hV.out]; unfold sizV; rw [hE.out, if_neg (by rw [e1]; exact hck0)]
          clear hck0
          go_wp2_with (go_at_call 31; refine (HCk.out _).mono ?_; rintro e w2 ⟨rfl, hb2⟩; have hb3 := HBW.out.trans (hb2.mono HBW.out.size))
          go_ret2
          rw [HV0.out.1, HV0.out.2]
          exact ⟨rfl, hb3⟩
      · have hkz : ¬ (k : Int) < N := by omega
        obtain rfl : k = N := by omega
        have hE0 : E = 0 := by
          rw [← HF.out, List.drop_of_length_le (by rw [hNN.out]; exact Nat.le_refl _)]; rfl
        have HFit : Hid (Fit l) := fit_of (firstE_all (by rw [← hEf.out]; exact hE0)) hs
        obtain ⟨q, hq⟩ : ∃ q : Nat, r = q := ⟨r.toNat, by have := hcs.out; omega⟩
        subst hq
        have HVl : Hid (V = ((wr8 q l).length : Nat)) := by show _ = _; rw [← hV.out]; unfold sizV; rw [hE.out, if_pos hE0]; rfl
        obtain ⟨Z, hZ⟩ : ∃ Z : Nat, Hid ((wr8 q l).length = Z) := ⟨_, rfl⟩
        have hVZ : V = Z := by rw [HVl.out, hZ.out]
        have HSo : Hid (Calls Try.prog 34 #[.int .i64 q, .slice a k c] wr fun e w' => ∃ a' c', e = .returned (.slice a' Z c') ∧ Below wr.heap.size wr w') := by
          have := written_any (HL.out.below hb) HFit.out q (by have := hcs.out; omega) (by rw [hNN.out]; exact hcs.out.2.2) c
          rw [hNN.out] at this
          refine this.mono ?_
          rintro e w' ⟨v, rfl, ho, hb'⟩
          obtain ⟨a', c', rfl⟩ := own_slice ho
          rw [hZ.out]
          exact ⟨_, _, rfl, hb'⟩
        subst hVZ
        subst hE0
        go_wp2_with (go_at_call 34; refine HSo.out.mono ?_; rintro e w4 ⟨a4, c4, rfl, hb4⟩; have hb5 := hb.trans (hb4.mono hb.size))
        go_ret2
        exact ⟨rfl, hb5⟩
  · have HV0 : Hid (V = 0 ∧ E = cn) := by
      have e1 : E = cn := by rw [← hE.out]; unfold sizE; rw [hNN.out, hcn.out, if_neg hc0]
      refine ⟨?_, e1⟩
      rw [← hV.out]; unfold sizV; rw [hE.out, if_neg (by rw [e1]; exact hc0)]
    by_cases hr : r < 1 ∨ 1024 < r
    · have hcn1 : cn = 1 := by rw [← hcn.out]; unfold cntE; rw [if_pos hr]
      clear hc0
      rcases hr with hr | hr
      · go_wp2
        go_ret2
        rw [HV0.out.1, HV0.out.2, hcn1]
        exact ⟨rfl, Below.refl _ _⟩
      · have hr0 : ¬ r < 1 := by omega
        go_wp2
        go_ret2
        rw [HV0.out.1, HV0.out.2, hcn1]
        exact ⟨rfl, Below.refl _ _⟩
    · have hcn1 : cn = 2 ∧ (65536 : Int) < N := by
        have h1 := hcn.out
        unfold cntE at h1
        rw [if_neg hr] at h1
        split at h1
        · exact ⟨h1.symm, by assumption⟩
        · exact absurd h1.symm hc0
      have hr0 : ¬ r < 1 := by omega
      have hr2 : ¬ 1024 < r := by omega
      have hN3 := hcn1.2
      have hcn2 := hcn1.1
      clear hc0 hr hcn1
      go_wp2
      go_ret2
      rw [HV0.out.1, HV0.out.2, hcn2]
      exact ⟨rfl, Below.refl _ _⟩
end Go.Proofs.Ytbnllobofndckaa
