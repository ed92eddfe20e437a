/-
  Which fragments can be: fall, canBe, areMany.
-/
import Derived.Test.YtagnnocecfoggaaJc
namespace Go.Proofs.Ytagnnocecfoggaa
open Go.RowKit
set_option linter.unusedVariables false
set_option linter.unusedSimpArgs false
structure FallP (q : List Int) : Prop where
  ne : q ≠ []
  mx : ∀ x, q[0]? = some x → x ≤ 72057594037927935
  dn : ∀ (k : Nat) (x y : Int), q[k]? = some x → q[k + 1]? = some y → y < x
theorem FallP.all {q : List Int} (h : FallP q) : ∀ (k : Nat) (x : Int), q[k]? = some x → x ≤ 72057594037927935 := by
  intro k
  induction k with
  | zero => exact h.mx
  | succ k ih =>
    intro x hx
    have hk : k < q.length := by have := (List.getElem?_eq_some_iff.1 hx).1; omega
    have h1 := ih _ (List.getElem?_eq_getElem hk)
    have h2 := h.dn k _ x (List.getElem?_eq_getElem hk) hx
    omega
theorem FallP.str {q : List Int} (h : FallP q) : Str gt q := by
  rw [Str, List.pairwise_iff_getElem]
  have key : ∀ d i (hi : i < q.length) (hj : i + (d + 1) < q.length), q[i + (d + 1)] < q[i] := by
    intro d
    induction d with
    | zero => intro i hi hj; exact h.dn i _ _ (List.getElem?_eq_getElem hi) (List.getElem?_eq_getElem hj)
    | succ d ih =>
      intro i hi hj
      have h1 := ih i hi (by omega)
      have h2 := h.dn (i + (d + 1)) _ _ (List.getElem?_eq_getElem (by omega)) (List.getElem?_eq_getElem (by omega))
      have e : i + (d + 1 + 1) = i + (d + 1) + 1 := by omega
      simp only [e] at *
      omega
  intro i j hi hj hij
  obtain ⟨d, rfl⟩ : ∃ d, j = i + (d + 1) := ⟨j - i - 1, by omega⟩
  simp [gt]
  exact key d i hi hj
structure CanP (how : Int) (L : List Fg) : Prop where
  be : ∀ (i : Nat) (f : Fg), L[i]? = some f → kl how f.b f.e = true
  q : ∀ (i : Nat) (f : Fg), L[i]? = some f → FallP f.q
  up : ∀ (i : Nat) (f g : Fg), L[i]? = some f → L[i + 1]? = some g → kle how f.e g.b = true
open Classical in
noncomputable def fallB (q : List Int) : Bool := decide (FallP q)
open Classical in
noncomputable def canB (how : Int) (L : List Fg) : Bool := decide (CanP how L)
theorem fallB_no {q : List Int} (h : ¬ FallP q) : fallB q = false := by unfold fallB; simpa using h
theorem fallB_yes {q : List Int} (h : FallP q) : fallB q = true := by unfold fallB; simpa using h
theorem canB_no {how : Int} {L : List Fg} (h : ¬ CanP how L) : canB how L = false := by unfold canB; simpa using h
theorem canB_yes {how : Int} {L : List Fg} (h : CanP how L) : canB how L = true := by unfold canB; simpa using h
set_option maxRecDepth 100000 in
set_option maxHeartbeats 1000000 in
theorem fall_any {w : World} {a : Option Addr} {c : Nat} {q : List Int} (h : Rd uc 1 w a q) (hl : q.length ≤ 140737488355328) :
    Calls Try.prog 58 #[.slice a q.length c] w fun e w' => e = .returned (.bool (fallB q)) ∧ Below w.heap.size w w' := by
  have H : Hid (Rd uc 1 w a q) := h
  obtain ⟨N, hN⟩ : ∃ N, Hid (q.length = N) := ⟨_, rfl⟩
  rw [hN.out] at hl ⊢
  clear h
  obtain ⟨R, hR⟩ : ∃ R, Hid (fallB q = R) := ⟨_, rfl⟩
  rw [hR.out]
  go_enter Try.func58, Try.ntmps58
  go_wp2_with fail
  go_loopw [3] (fun s wr => ∃ k : Nat, (k = 0 ∨ k < N) ∧ s = .int .i64 ((k : Int) + 1) ∧ Hid (Below w.heap.size w wr ∧ ∀ (j : Nat) (x y : Int), j < k → q[j]? = some x → q[j + 1]? = some y → y < x)) (fun s _ => ((N : Int) - intOf s).toNat)
  case atStart => exact ⟨0, .inl rfl, rfl, Below.refl _ _, fun j x y h => absurd h (Nat.not_lt_zero _)⟩
  case round =>
    obtain ⟨k, hk, rfl, HB⟩ := hrel
    rcases Nat.lt_or_ge (k + 1) N with hkN | hkN
    · have hkz : (k : Int) + 1 < N := by omega
      have hkz0 : (k : Int) < N := by omega
      have h0k : (0 : Int) ≤ (k : Int) + 1 := by omega
      have hs1 : (k : Int) + 1 - 1 = k := by omega
      have hw0 : IntKind.i64.wrap (k : Int) = k := by rw [IntKind.wrap_i64]; omega
      have hw1 : IntKind.i64.wrap ((k : Int) + 1 - 1) = k := by rw [IntKind.wrap_i64]; omega
      obtain ⟨x, hx⟩ : ∃ x, q[k]? = some x := ⟨_, List.getElem?_eq_getElem (by rw [hN.out]; omega)⟩
      obtain ⟨y, hy⟩ : ∃ y, q[k + 1]? = some y := ⟨_, List.getElem?_eq_getElem (by rw [hN.out]; omega)⟩
      obtain ⟨g, o, rfl, hat⟩ := (H.out.below HB.out.1).at_ hx
      obtain ⟨g', o', e', hat'⟩ := (H.out.below HB.out.1).at_ hy
      cases e'
      have x0 := hat.u1
      have y0 := hat'.u1
      rw [Nat.mul_one] at x0 y0
      have HX : Hid (q[k]? = some x ∧ q[k + 1]? = some y) := ⟨hx, hy⟩
      have HBn : Hid (∀ n, Below w.heap.size w (wr.drewN n)) := fun n => belN HB.out.1 n
      clear hx hy hat hat'
      by_cases hxy : x ≤ y
      · have hd : decide (x ≤ y) = true := by simpa using hxy
        go_wp2_with fail
        go_quiet (fail)
        go_wp2_with fail
        go_ret
        refine ⟨?_, HBn.out _⟩
        rw [← hR.out, fallB_no (fun hf => by have := hf.dn k x y HX.out.1 HX.out.2; omega)]
        rfl
      · have hd : decide (x ≤ y) = false := by simpa using hxy
        go_wp2_with fail
        go_quiet (fail)
        go_wp2_with fail
        go_roundw
        case rel =>
          refine ⟨k + 1, .inr hkN, by go_num, HBn.out _, fun j x' y' hj hx' hy' => ?_⟩
          by_cases e : j = k
          · subst e
            rw [HX.out.1] at hx'
            rw [HX.out.2] at hy'
            cases hx'; cases hy'; omega
          · exact HB.out.2 j x' y' (by omega) hx' hy'
        case measure => simp [intOf]; omega
    · have hz : ¬ ((k : Int) + 1 < N) := by omega
      have HDn : Hid (∀ (j : Nat) (x y : Int), q[j]? = some x → q[j + 1]? = some y → y < x) := fun j x y hx hy => HB.out.2 j x y (by have h1 := (List.getElem?_eq_some_iff.1 hy).1; have h2 := hN.out; omega) hx hy
      rcases Nat.eq_zero_or_pos N with hN0 | hN0
      · have hNz : ¬ ((0 : Int) < N) := by omega
        have hNd : decide ((0 : Int) < (N : Int)) = false := by simpa using hNz
        have hNd2 : decide (0 < N) = false := by simp; omega
        have hq0 : q = [] := List.eq_nil_of_length_eq_zero (by rw [hN.out]; exact hN0)
        have HRf : Hid (false = R) := by show _ = _; rw [← hR.out, fallB_no (fun hf => hf.ne hq0)]
        clear hN0 hq0
        go_wp2_with fail
        go_ret
        exact ⟨by rw [← HRf.out]; rfl, HB.out.1⟩
      · have hNz : (0 : Int) < N := by omega
        obtain ⟨x, hx⟩ : ∃ x, q[0]? = some x := ⟨_, List.getElem?_eq_getElem (by rw [hN.out]; omega)⟩
        obtain ⟨g, o, rfl, hat⟩ := (H.out.below HB.out.1).at_ hx
        have x0 := hat.u1
        rw [Nat.zero_mul, Nat.add_zero] at x0
        have hq0 : q ≠ [] := fun e => by rw [e] at hx; simp at hx
        have HRf : Hid (decide (x ≤ 72057594037927935) = R) := by
          show _ = _
          rw [← hR.out]
          by_cases hle : x ≤ 72057594037927935
          · rw [decide_eq_true hle, fallB_yes ⟨hq0, fun y hy => by rw [hx] at hy; cases hy; exact hle, HDn.out⟩]
          · rw [decide_eq_false hle, fallB_no (fun hf => hle (hf.mx x hx))]
        clear hx hat hq0
        go_wp2_with fail
        go_ret
        exact ⟨by rw [← HRf.out]; rfl, HB.out.1⟩
set_option maxRecDepth 100000 in
set_option maxHeartbeats 1000000 in
theorem canbe_any {w : World} {a : Option Addr} {c : Nat} {L : List Fg} (h : RdF w a L) (how : Int) (hl : L.length ≤ 10000) (hq : ∀ f ∈ L, f.q.length ≤ 140737488355328) :
    Calls Try.prog 37 #[.int .i64 how, .slice a L.length c] w fun e w' => e = .returned (.bool (canB how L)) ∧ Below w.heap.size w w' := by
  have H : Hid (RdF w a L) := h
  have HQ : Hid (∀ f ∈ L, f.q.length ≤ 140737488355328) := hq
  obtain ⟨N, hN⟩ : ∃ N, Hid (L.length = N) := ⟨_, rfl⟩
  rw [hN.out] at hl ⊢
  clear h hq
  obtain ⟨R, hR⟩ : ∃ R, Hid (canB how L = R) := ⟨_, rfl⟩
  rw [hR.out]
  have HNo : Hid (¬ CanP how L → false = R) := fun hn => by rw [← hR.out, canB_no hn]
  go_enter Try.func37, Try.ntmps37
  go_wp2_with fail
  go_loopw [9] (fun s wr => ∃ k : Nat, k ≤ N ∧ s = .int .i64 k ∧ Hid (Below w.heap.size w wr ∧ ∀ (i : Nat) (f : Fg), i < k → L[i]? = some f → kl how f.b f.e = true ∧ FallP f.q ∧ (∀ g, 0 < i → L[i - 1]? = some g → kle how g.e f.b = true))) (fun s _ => ((N : Int) - intOf s).toNat)
  case atStart => exact ⟨0, Nat.zero_le _, rfl, Below.refl _ _, fun j f h => absurd h (Nat.not_lt_zero _)⟩
  case round =>
    obtain ⟨k, hk, rfl, HB⟩ := hrel
    rcases Nat.lt_or_ge k N with hkN | hkN
    · have hkz : (k : Int) < N := by omega
      obtain ⟨f, hf⟩ : ∃ f, L[k]? = some f := ⟨_, List.getElem?_eq_getElem (by rw [hN.out]; exact hkN)⟩
      obtain ⟨g, o, pa, pk, ha, t0, t1, t2, t3⟩ := (H.out.below HB.out.1).at_ hf
      have hbx : Below wr.heap.size wr (wr.alloc (.cells #[.string f.b, .string f.e, .slice pa f.q.length pk] 63)) := (Below.refl _ _).alloc (Nat.le_refl _) _
      have HFc : Hid (Calls Try.prog 58 #[.slice pa f.q.length pk] (wr.alloc (.cells #[.string f.b, .string f.e, .slice pa f.q.length pk] 63)) fun e w' => e = .returned (.bool (fallB f.q)) ∧ Below (wr.alloc (.cells #[.string f.b, .string f.e, .slice pa f.q.length pk] 63)).heap.size (wr.alloc (.cells #[.string f.b, .string f.e, .slice pa f.q.length pk] 63)) w') := fall_any (t3.below hbx) (HQ.out f (List.mem_of_getElem? hf))
      have HB2 : Hid (Below w.heap.size w (wr.alloc (.cells #[.string f.b, .string f.e, .slice pa f.q.length pk] 63)) ∧ Blk (wr.alloc (.cells #[.string f.b, .string f.e, .slice pa f.q.length pk] 63)) wr.heap.size 63 [.string f.b, .string f.e, .slice pa f.q.length pk]) := ⟨HB.out.1.trans (hbx.mono HB.out.1.size), Blk.new wr 63 _⟩
      have HF : Hid (L[k]? = some f) := hf
      obtain ⟨QN, hQN⟩ : ∃ QN, Hid (f.q.length = QN) := ⟨_, rfl⟩
      rw [hQN.out] at t2 HFc HB2
      clear hf hbx t3
      cases hbe : kl how f.b f.e
      · have hd1 : 0 ≤ cmpH how f.b f.e := by have := ge_of (how := how) (a := f.b) (b := f.e); simp [kle, hbe] at this; exact this
        subst ha
        go_wp2_with (go_at_call 42; refine (ccmp_any _ _ _ _).mono ?_; rintro e w1 ⟨rfl, hw⟩; have hw' := hw.symm; subst hw')
        go_ret
        refine ⟨?_, HB2.out.1⟩
        rw [← HNo.out (fun hc => by have := hc.be k f HF.out; rw [hbe] at this; cases this)]
        rfl
      · have hd1 : ¬ 0 ≤ cmpH how f.b f.e := by have := ge_of (how := how) (a := f.b) (b := f.e); simp [kle, hbe] at this; omega
        obtain ⟨FB, hFB⟩ : ∃ FB, Hid (fallB f.q = FB) := ⟨_, rfl⟩
        rw [hFB.out] at HFc
        cases FB
        · subst ha
          go_wp2_with (first
            | (go_at_call 42; refine (ccmp_any _ _ _ _).mono ?_; rintro e w1 ⟨rfl, hw⟩; have hw' := hw.symm; subst hw')
            | (go_at_call 58; refine HFc.out.mono ?_; rintro e w2 ⟨rfl, hb2⟩; have HB3 : Hid (Below w.heap.size w w2) := HB2.out.1.trans (hb2.mono HB2.out.1.size); clear hb2))
          go_ret
          refine ⟨?_, HB3.out⟩
          rw [← HNo.out (fun hc => by have := fallB_yes (hc.q k f HF.out); rw [hFB.out] at this; cases this)]
          rfl
        · have HFa : Hid (FallP f.q) := by
            show _
            by_cases hf : FallP f.q
            · exact hf
            · have := hFB.out; rw [fallB_no hf] at this; cases this
          have HPr : Hid (∀ W, Below w.heap.size w W → ∀ f', 0 < k → L[k - 1]? = some f' → W.cell? ⟨g, o + (k - 1) * 3 + 1, none⟩ = some (.string f'.e)) := fun W hb f' hk0 hf' => by
            obtain ⟨g', o', pa', pk', e', _, u1, _, _⟩ := (H.out.below hb).at_ hf'
            rw [ha] at e'
            cases e'
            exact u1
          subst ha
          rcases Nat.eq_zero_or_pos k with hk0 | hk0
          · have hkp : ¬ (0 : Int) < k := by omega
            have hkd : decide ((0 : Int) < (k : Int)) = false := by simpa using hkp
            have hkd2 : decide (0 < k) = false := by simp; omega
            have HKz : Hid (k = 0) := hk0
            clear hk0
            go_wp2_with (first
              | (go_at_call 42; refine (ccmp_any _ _ _ _).mono ?_; rintro e w1 ⟨rfl, hw⟩; have hw' := hw.symm; subst hw')
              | (go_at_call 58; refine HFc.out.mono ?_; rintro e w2 ⟨rfl, hb2⟩; have HB3 : Hid (Below w.heap.size w w2) := HB2.out.1.trans (hb2.mono HB2.out.1.size); clear hb2))
            first | go_quiet (fail) | go_big_quiet (fail)
            go_wp2_with fail
            go_roundw
            case rel =>
              refine ⟨k + 1, by omega, by go_num, belN HB3.out _, fun i f' hi hf' => ?_⟩
              by_cases e : i = k
              · subst e
                rw [HF.out] at hf'; cases hf'
                exact ⟨hbe, HFa.out, fun g hi0 => by have := HKz.out; omega⟩
              · exact HB.out.2 i f' (by omega) hf'
            case measure => simp [intOf]; omega
          · obtain ⟨j, hj⟩ : ∃ j, k = j + 1 := ⟨k - 1, by omega⟩
            obtain ⟨f', hf'⟩ : ∃ f', L[k - 1]? = some f' := ⟨_, List.getElem?_eq_getElem (by rw [hN.out]; omega)⟩
            have HF' : Hid (L[k - 1]? = some f') := hf'
            have hkp : (0 : Int) < k := by omega
            have hjz : (k : Int) - 1 = j := by omega
            have hwj : IntKind.i64.wrap (j : Int) = j := by rw [IntKind.wrap_i64]; omega
            have hwk : IntKind.i64.wrap ((k : Int) - 1) = j := by rw [IntKind.wrap_i64]; omega
            have hjN : (j : Int) < N := by omega
            have HKj : Hid (k - 1 = j ∧ 0 < k) := ⟨by omega, hk0⟩
            have HPr' : Hid (∀ W, Below w.heap.size w W → W.cell? ⟨g, o + j * 3 + 1, none⟩ = some (.string f'.e)) := fun W hb => by
              have := HPr.out W hb f' HKj.out.2 HF'.out
              rw [HKj.out.1] at this; exact this
            clear hf' hj HPr
            go_upto_region 6 with (first
              | (go_at_call 42; refine (ccmp_any _ _ _ _).mono ?_; rintro e w1 ⟨rfl, hw⟩; have hw' := hw.symm; subst hw')
              | (go_at_call 58; refine HFc.out.mono ?_; rintro e w2 ⟨rfl, hb2⟩
                 have HB3 : Hid (Below w.heap.size w w2) := HB2.out.1.trans (hb2.mono HB2.out.1.size)
                 have x0 := cell_below hb2 (HB2.out.2.cell1 0 _ rfl)
                 have u1 := HPr'.out w2 HB3.out
                 clear hb2))
            cases hup : kle how f'.e f.b
            · have hd2 : decide (cmpH how f.b f'.e < 0) = true := by
                have : kl how f.b f'.e = true := by simpa [kle] using hup
                exact this
              go_quiet ((go_at_call 42; exact Calls.quiet_of_same (ccmp_any _ _ _ _)))
              go_wp2_with fail
              go_ret
              refine ⟨?_, belN HB3.out _⟩
              rw [← HNo.out (fun hc => by have := hc.up (k - 1) f' f HF'.out (by rw [show k - 1 + 1 = k by have := HKj.out.2; omega]; exact HF.out); rw [hup] at this; cases this)]
              rfl
            · have hd2 : decide (cmpH how f.b f'.e < 0) = false := by
                have : kl how f.b f'.e = false := by simpa [kle] using hup
                exact this
              go_quiet ((go_at_call 42; exact Calls.quiet_of_same (ccmp_any _ _ _ _)))
              go_wp2_with fail
              go_roundw
              case rel =>
                refine ⟨k + 1, by omega, by go_num, belN HB3.out _, fun i f'' hi hf'' => ?_⟩
                by_cases e : i = k
                · subst e
                  rw [HF.out] at hf''; cases hf''
                  exact ⟨hbe, HFa.out, fun g _ hg => by rw [HF'.out] at hg; cases hg; exact hup⟩
                · exact HB.out.2 i f'' (by omega) hf''
              case measure => simp [intOf]; omega
    · obtain rfl : k = N := by omega
      have hz : ¬ ((k : Int) < k) := by omega
      have HRt : Hid (true = R) := by
        show _ = _
        rw [← hR.out, canB_yes]
        have hlt : ∀ (i : Nat) (f : Fg), L[i]? = some f → i < k := fun i f hf => by rw [← hN.out]; exact (List.getElem?_eq_some_iff.1 hf).1
        exact ⟨fun i f hf => (HB.out.2 i f (hlt i f hf) hf).1, fun i f hf => (HB.out.2 i f (hlt i f hf) hf).2.1, fun i f g hf hg => (HB.out.2 (i + 1) g (hlt _ g hg) hg).2.2 f (by omega) hf⟩
      go_wp2_with fail
      go_ret
      exact ⟨by rw [← HRt.out]; rfl, HB.out.1⟩
end Go.Proofs.Ytagnnocecfoggaa
