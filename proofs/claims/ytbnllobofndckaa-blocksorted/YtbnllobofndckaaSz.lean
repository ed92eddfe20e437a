import Derived.Test.YtbnllobofndckaaWb
namespace Go.Proofs.Ytbnllobofndckaa
open Go.RowKit
set_option linter.unusedVariables false
set_option linter.unusedSimpArgs false
def Ent.er (e : Ent) : Int := entE e.u e.s e.k e.v
/-- The first thing that is wrong, wherever entries stand. -/
def firstE : List Ent → Int
  | [] => 0
  | e :: l => if e.er = 0 then firstE l else e.er
theorem firstE_step {l : List Ent} {k : Nat} {e : Ent} (h : l[k]? = some e) : firstE (l.drop k) = if e.er = 0 then firstE (l.drop (k + 1)) else e.er := by
  obtain ⟨h1, h2⟩ := List.getElem?_eq_some_iff.1 h
  rw [List.drop_eq_getElem_cons h1, h2]; rfl
theorem firstE_all {l : List Ent} (h : firstE l = 0) : ∀ e ∈ l, e.er = 0 := by
  induction l with
  | nil => simp
  | cons x l ih =>
    unfold firstE at h
    split at h
    · next hx =>
      intro e he
      rcases List.mem_cons.1 he with rfl | he
      · exact hx
      · exact ih h e he
    · next hx => exact absurd h hx
theorem fit_of {l : List Ent} (h : ∀ e ∈ l, e.er = 0) (hs : ∀ e ∈ l, 0 ≤ e.s) : Fit l := fun e he => by
  have := h e he
  unfold Ent.er entE at this
  split at this
  · next hc =>
    split at this
    · cases this
    · exact ⟨hc, hs e he, by omega⟩
  · next hc => exact absurd this hc
def sizE (r : Int) (l : List Ent) : Int := if cntE r l.length = 0 then firstE l else cntE r l.length
def sizV (r : Int) (l : List Ent) : Int := if sizE r l = 0 then ((wr8 r.toNat l).length : Nat) else 0
set_option maxRecDepth 100000 in
set_option maxHeartbeats 1000000 in
theorem size9_any {w : World} {a : Option Addr} {l : List Ent} (hl : RdE w a l) (hs : ∀ e ∈ l, 0 ≤ e.s) (r : Int) (c : Nat) (hN : l.length ≤ 281474976710656) :
    Calls Try.prog 9 #[.int .i64 r, .slice a l.length c] w fun e w' => e = .returned (.tuple #[.int .i64 (sizV r l), .int .i64 (sizE r l)]) ∧ Below w.heap.size w w' := by
  obtain ⟨N, hNN⟩ : ∃ N, Hid (l.length = N) := ⟨_, rfl⟩
  have HL : Hid (RdE w a l) := hl
  have hN' : N ≤ 281474976710656 := by rw [← hNN.out]; exact hN
  obtain ⟨cn, hcn⟩ : ∃ cn, Hid (cntE r N = cn) := ⟨_, rfl⟩
  obtain ⟨E, hE⟩ : ∃ E, Hid (sizE r l = E) := ⟨_, rfl⟩
  obtain ⟨V, hV⟩ : ∃ V, Hid (sizV r l = V) := ⟨_, rfl⟩
  have HC : Hid (∀ W, Calls Try.prog 26 #[.int .i64 r, .int .i64 N] W fun e w' => e = .returned (.int .i64 cn) ∧ w' = W) := fun W => by rw [← hcn.out]; exact counts_any r N W
  rw [hNN.out, hE.out, hV.out]
  clear hl hN
  go_enter Try.func9, Try.ntmps9
  by_cases hc0 : cn = 0
  · have hEf : Hid (E = firstE l) := by show _ = _; rw [← hE.out]; unfold sizE; rw [hNN.out, hcn.out, if_pos hc0]
    have hcs : Hid (1 ≤ r ∧ r ≤ 1024 ∧ N ≤ 65536) := by
      have := hcn.out
      unfold cntE at this
      show _ ∧ _
      split at this
      · omega
      · split at this <;> omega
    subst hc0
    go_wp2_with (go_at_call 26; refine (HC.out _).mono ?_; rintro e w1 ⟨rfl, hw⟩; have hw1 := hw.symm; subst hw1; clear hw)
    go_loopw [19] (fun i wr => ∃ k : Nat, k ≤ N ∧ i = .int .i64 k ∧ Hid (firstE (l.drop k) = E) ∧ Below w.heap.size w wr) (fun i _ => ((N : Int) - intOf i).toNat)
    case atStart => exact ⟨0, Nat.zero_le _, rfl, by rw [hEf.out]; rfl, Below.refl _ _⟩
    case round =>
      obtain ⟨k, hk, rfl, HF, hb⟩ := hrel
      rcases Nat.lt_or_ge k N with hkN | hkN
      · have hkz : (k : Int) < N := by omega
        obtain ⟨x, hx⟩ : ∃ x, l[k]? = some x := ⟨l[k]'(by rw [hNN.out]; exact hkN), List.getElem?_eq_getElem _⟩
        obtain ⟨b, off, rfl, hat⟩ : ∃ b off, a = some ⟨b, off, none⟩ ∧ EAt wr b (off + k * 4) x := by
          rcases HL.out with h | ⟨b, off, e', hlt, h⟩
          · rw [h] at hx; simp at hx
          · refine ⟨b, off, e', ?_⟩
            obtain ⟨e0, e1, e2, e3⟩ := h k x hx
            exact ⟨(hb.cell hlt).trans e0, (hb.cell hlt).trans e1, (hb.cell hlt).trans e2, (hb.cell hlt).trans e3⟩
        obtain ⟨e0, e1, e2, e3⟩ := hat
        obtain ⟨er, her⟩ : ∃ er, Hid (x.er = er) := ⟨_, rfl⟩
        have HEn : Hid (∀ W, Calls Try.prog 27 #[.agg #[.string x.u, .int .u64 x.s, .int .i64 x.k, .string x.v]] W fun e w' => e = .returned (.int .i64 er) ∧ Below W.heap.size W w') := fun W => by rw [← her.out]; exact entry_any x.u x.s x.k x.v W
        have HSt : Hid (firstE (l.drop k) = if er = 0 then firstE (l.drop (k + 1)) else er) := by rw [← her.out]; exact firstE_step hx
        have hbA : Below w.heap.size w (wr.alloc (.cells #[.string x.u, .int .u64 x.s, .int .i64 x.k, .string x.v] 48)) := hb.alloc hb.size _
        have HBA : Hid _ := hbA
        clear hbA hx
        by_cases h0 : er = 0
        · subst h0
          go_wp2_with (go_at_call 27; refine (HEn.out _).mono ?_; rintro e w2 ⟨rfl, hb2⟩; have hb3 := HBA.out.trans (hb2.mono HBA.out.size))
          go_roundw
          case rel => exact ⟨k + 1, by omega, by go_num, by show _ = _; rw [← HF.out, HSt.out]; simp, hb3⟩
          case measure => simp [intOf]; omega
        · have hne : (er != 0) = true := by simpa using h0
          have HV0 : Hid (V = 0 ∧ E = er) := by
            have e1 : E = er := by rw [← HF.out, HSt.out, if_neg h0]
            refine ⟨?_, e1⟩
            rw [← hV.out]; unfold sizV; rw [hE.out, if_neg (by rw [e1]; exact h0)]
          clear h0
          go_wp2_with (go_at_call 27; refine (HEn.out _).mono ?_; rintro e w2 ⟨rfl, hb2⟩; have hb3 := HBA.out.trans (hb2.mono HBA.out.size))
          go_ret2
          rw [HV0.out.1, HV0.out.2]
          exact ⟨rfl, hb3⟩
      · have hkz : ¬ (k : Int) < N := by omega
        obtain rfl : k = N := by omega
        have hE0 : E = 0 := by
          rw [← HF.out, List.drop_of_length_le (by rw [hNN.out]; exact Nat.le_refl _)]; rfl
        have HFit : Hid (Fit l) := fit_of (firstE_all (by rw [← hEf.out]; exact hE0)) hs
        obtain ⟨q, hq⟩ : ∃ q : Nat, r = q := ⟨r.toNat, by have := hcs.out; omega⟩
        subst hq
        have HVl : Hid (V = ((wr8 q l).length : Nat)) := by show _ = _; rw [← hV.out]; unfold sizV; rw [hE.out, if_pos hE0]; rfl
        have HSo : Hid (Calls Try.prog 28 #[.int .i64 q, .slice a k c] wr fun e w' => e = .returned (.int .i64 V) ∧ Below wr.heap.size wr w') := by
          have := sizeof_any (HL.out.below hb) HFit.out q (by have := hcs.out; omega) (by have := hcs.out; omega) (by rw [hNN.out]; exact hcs.out.2.2) c
          rw [hNN.out, ← HVl.out] at this
          exact this
        subst hE0
        go_wp2_with (go_at_call 28; refine HSo.out.mono ?_; rintro e w4 ⟨rfl, hb4⟩; have hb5 := hb.trans (hb4.mono hb.size))
        go_ret2
        exact ⟨rfl, hb5⟩
  · have hne : (cn != 0) = true := by simpa using hc0
    have HV0 : Hid (V = 0 ∧ E = cn) := by
      have e1 : E = cn := by rw [← hE.out]; unfold sizE; rw [hNN.out, hcn.out, if_neg hc0]
      refine ⟨?_, e1⟩
      rw [← hV.out]; unfold sizV; rw [hE.out, if_neg (by rw [e1]; exact hc0)]
    clear hc0
    go_wp2_with (go_at_call 26; refine (HC.out _).mono ?_; rintro e w1 ⟨rfl, hw⟩; have hw1 := hw.symm; subst hw1; clear hw)
    go_ret2
    rw [HV0.out.1, HV0.out.2]
    exact ⟨rfl, Below.refl _ _⟩
end Go.Proofs.Ytbnllobofndckaa
