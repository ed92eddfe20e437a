import Derived.Test.YtlkfabejecgfgaaGc
import Derived.Deep.DeepCutAuto
namespace Go.Proofs.Ytlkfabejecgfgaa
open Go.RowKit Go.Maps
set_option linter.unusedVariables false
set_option linter.unusedSimpArgs false
theorem new_rl (room : Nat) (i : Nat) : Rl (newC 3 room false) (newC 3 room false) i := by
  refine ⟨by simp [newC], by simp [newC], rfl, rfl, rfl, rfl, ?_⟩
  have : (newC 3 room false).x i = x0 := by
    unfold Cs.x newC
    simp only [List.getD_eq_getElem?_getD, List.getElem?_replicate]
    split <;> rfl
  rw [this]
  intro j e hj
  simp [x0] at hj
set_option maxRecDepth 100000 in
set_option maxHeartbeats 16000000 in
theorem apart_walk (HLv : ∀ w, Calls Try.prog 9 #[] w fun e w' => e = .returned (.bool true) ∧ Below w.heap.size w w') (w : World) {room : Nat} (hr : room < 18446744073709551616) {key : ByteArray} (hk : key.size ≤ maxLen) (v : Value) (xs : List Ac) (h : RdA w v xs) (hok : ∀ x ∈ xs, AcOk x) (hln : xs.length ≤ 3000000000000) :
    Calls Try.prog 6 #[.int .u64 room, v, .string key] w fun e w' => e = .returned (.bool true) ∧ Below w.heap.size w w' := by
  obtain ⟨a, c, rfl⟩ := h.len
  have HN1 := k_new w (n := 3) (by omega) (by omega) hr (st := false)
  have HS0 : ∀ (W : World) (L : Lo) (u : Cs), Ca W L u → u.xs.length = 3 → ∀ kk : ByteArray, kk.size ≤ maxLen → Calls Try.prog 11 #[.pointer (some ⟨L.cb, 0, none⟩), .string kk] W fun e w' => e = .returned (.int .i64 (shd 3 kk.data.toList)) ∧ w' = W := fun W L u hC hu kk hkk => by
    have := shard_raw (cs := caC L u) hC.blk rfl (by rw [hu]; omega) (by rw [hu]; omega) kk hkk
    rw [hu] at this; exact this
  go_enter Try.func6, Try.ntmps6
  go_wp2_with (first
    | (go_at_call 7; have hq := K1; clear hq
       have HN2 := k_new w1 (n := 3) (by omega) (by omega) hr (st := false)
       refine HN2.mono ?_; rintro e w2 ⟨Ld, rfl, K2⟩
       have P2 : Pr w w2 Lc Ld (newC 3 room false) (newC 3 room false) := by
         refine ⟨⟨K1.ca.upd (S := Non) (Upd.ofBelow K2.bel) (fun _ _ e => e), K1.ci, K1.bel.trans (K2.bel.mono K1.bel.size), K1.own⟩, ⟨K2.ca, K2.ci, K1.bel.trans (K2.bel.mono K1.bel.size), fun k hk => Nat.le_trans K1.bel.size (K2.own k hk)⟩, fun k hk hk' => ?_⟩
         have h1 := K1.ca.lt hk
         have h2 := K2.own k hk'
         omega
       have HSm := HS0 _ _ _ P2.c.ca (by simp [newC]) key hk
       clear HN2)
    | (go_at_call 7; refine HN1.mono ?_; rintro e w1 ⟨Lc, rfl, K1⟩; clear HN1)
    | (go_at_call 11; refine HSm.mono ?_; rintro e w3 ⟨rfl, hw⟩; have hw' := hw.symm; subst hw'))
  have R0 := new_rl room (shd 3 key.data.toList)
  obtain ⟨i, hi⟩ : ∃ i, shd 3 key.data.toList = i := ⟨_, rfl⟩
  have hi3 : i < 3 := by rw [← hi]; exact shd_lt (by omega) _
  rw [hi] at R0 ⊢
  generalize hs0 : newC 3 room false = s0 at *
  have hP0 : s0.P.length = 0 := by rw [← hs0]; rfl
  clear HSm K1 K2 hs0
  obtain ⟨cb, hcb0⟩ : ∃ cb, Lc.cb = cb := ⟨_, rfl⟩
  obtain ⟨db, hdb0⟩ : ∃ db, Ld.cb = db := ⟨_, rfl⟩
  rw [hcb0, hdb0]
  go_loopw [12] (fun ii wr => ∃ (k : Nat) (Lc Ld : Lo) (s t : Cs), ii = .int .i64 k ∧ k ≤ xs.length ∧ Lc.cb = cb ∧ Ld.cb = db ∧ Pr w wr Lc Ld s t ∧ Rl s t i ∧ s.P.length ≤ k ∧ t.P.length ≤ k) (fun ii _ => match ii with | .int _ z => xs.length - z.toNat | _ => 0)
  case atStart => exact ⟨0, Lc, Ld, s0, s0, rfl, Nat.zero_le _, hcb0, hdb0, P2, R0, by omega, by omega⟩
  case round =>
    clear P2 R0 hP0 hcb0 hdb0
    obtain ⟨k, Lc, Ld, s, t, rfl, hkl, hcb, hdb, A, R, hPs, hPt⟩ := hrel
    by_cases hlt : k < xs.length
    · have hlt' : (k : Int) < (xs.length : Int) := by omega
      obtain ⟨bb, off, cap, e, hbl, hat⟩ := h.at hlt
      cases e
      have hx := hok _ (List.getElem_mem hlt)
      have hat2 := hat.below hbl A.c.bel
      clear hat
      generalize xs[k] = x at *
      obtain ⟨ak, pn, ky, vv, nn⟩ := x
      obtain ⟨o1, o2, o3, o4, o5, o6⟩ := hx
      obtain ⟨a0, a1, a2, a3, a4⟩ := hat2
      dsimp only at *
      obtain ⟨w1, hw1⟩ : ∃ W, wr.alloc (.cells #[.int .i64 ak, .int .i64 pn, .string ky, .int .u64 vv, .int .u64 nn] 36) = W := ⟨_, rfl⟩
      have U1 : Upd Non wr w1 := by rw [← hw1]; exact (Upd.refl _ _).alloc _
      have X1 : Blk w1 wr.heap.size 36 [.int .i64 ak, .int .i64 pn, .string ky, .int .u64 vv, .int .u64 nn] := by rw [← hw1]; exact Blk.new wr 36 _
      have A1 : Pr w w1 Lc Ld s t := A.upd U1 (fun _ _ e => e) (fun _ _ e => e) (fun _ e => e.elim)
      have hbx : ∀ a, Cb Lc s a → a ≠ wr.heap.size := fun a ha e => by have := A.c.ca.lt ha; omega
      have b0 := X1.cell1 0 _ rfl
      have b1 := X1.cell1 1 _ rfl
      have b2 := X1.cell1 2 _ rfl
      have b3 := X1.cell1 3 _ rfl
      have b4 := X1.cell1 4 _ rfl
      have HS : ∀ (W : World) (L : Lo) (u : Cs), Ca W L u → u.xs.length = 3 → Calls Try.prog 11 #[.pointer (some ⟨L.cb, 0, none⟩), .string ky] W fun e w' => e = .returned (.int .i64 (shd 3 ky.data.toList)) ∧ w' = W := fun W L u hC hu => HS0 W L u hC hu ky o3
      clear U1
      go_upto_region 10 with fail
      clear hw1 a0 a1 a2 a3 a4
      by_cases z0 : ak = 0
      · subst z0
        by_cases hlg : 1024 < ky.size
        · by_cases hmi : shd 3 ky.data.toList = i
          · have hmi' : ((shd 3 ky.data.toList : Nat) : Int) = i := by omega
            have HPc := k_put A1.c (k := ky) (z := vv) (ch := nn) o6 o3 (by omega)
            have e1 : putC s ky (.int .u64 vv) nn = (0, 2, s) := by unfold putC; rw [if_pos hlg]
            rw [e1, hcb] at HPc
            clear e1
            go_wp2_with (first
              | (go_at_call 14; have hq := hdone; clear hq
                 have HPd := k_put P2.d (k := ky) (z := vv) (ch := nn) o6 o3 (by omega)
                 have e2 : putC t ky (.int .u64 vv) nn = (0, 2, t) := by unfold putC; rw [if_pos hlg]
                 rw [e2, hdb] at HPd
                 refine HPd.mono ?_; rintro e w5 ⟨rfl, L5, K5, hdb5, U5, E5⟩
                 have P5 := P2.d1 K5 U5 E5)
              | (go_at_call 14; refine HPc.mono ?_; rintro e w2 ⟨rfl, L2, K2, hcb2, U2, E2⟩
                 have P2 := A1.c1 K2 U2 E2
                 have X2 := X1.upd U2 (fun e => hbx _ e rfl)
                 have c1 := X2.cell1 1 _ rfl
                 have c2 := X2.cell1 2 _ rfl
                 have c3 := X2.cell1 3 _ rfl
                 have c4 := X2.cell1 4 _ rfl
                 have hbd : ∀ a, Cb Ld t a → a ≠ wr.heap.size := fun a ha e => by have := A.d.ca.lt ha; omega
                 have HSc := HS _ _ _ P2.c.ca R.n
                 rw [hcb2] at HSc
                 clear HPc)
              | (go_at_call 11; refine HSc.mono ?_; rintro e w4 ⟨rfl, hw⟩; have hw' := hw.symm; subst hw'; have hdone : True := trivial))
            go_roundw
            case rel => exact ⟨k + 1, L2, L5, s, t, by go_num, hlt, hcb2, hdb5, P5, R, by omega, by omega⟩
            case measure => simp only []; omega
          · have hmi' : ((shd 3 ky.data.toList : Nat) : Int) ≠ i := by omega
            have HPc := k_put A1.c (k := ky) (z := vv) (ch := nn) o6 o3 (by omega)
            have e1 : putC s ky (.int .u64 vv) nn = (0, 2, s) := by unfold putC; rw [if_pos hlg]
            rw [e1, hcb] at HPc
            clear e1
            go_wp2_with (first
              | (go_at_call 14; refine HPc.mono ?_; rintro e w2 ⟨rfl, L2, K2, hcb2, U2, E2⟩
                 have P2 := A1.c1 K2 U2 E2
                 have X2 := X1.upd U2 (fun e => hbx _ e rfl)
                 have c1 := X2.cell1 1 _ rfl
                 have c2 := X2.cell1 2 _ rfl
                 have c3 := X2.cell1 3 _ rfl
                 have c4 := X2.cell1 4 _ rfl
                 have hbd : ∀ a, Cb Ld t a → a ≠ wr.heap.size := fun a ha e => by have := A.d.ca.lt ha; omega
                 have HSc := HS _ _ _ P2.c.ca R.n
                 rw [hcb2] at HSc
                 clear HPc)
              | (go_at_call 11; refine HSc.mono ?_; rintro e w4 ⟨rfl, hw⟩; have hw' := hw.symm; subst hw'; have hdone : True := trivial))
            go_roundw
            case rel => exact ⟨k + 1, L2, Ld, s, t, by go_num, hlt, hcb2, hdb, P2, R, by omega, by omega⟩
            case measure => simp only []; omega
        · by_cases hz : pn.tmod 2 = 0
          · by_cases hmi : shd 3 ky.data.toList = i
            · have hmi' : ((shd 3 ky.data.toList : Nat) : Int) = i := by omega
              have HPc := k_put A1.c (k := ky) (z := vv) (ch := nn) o6 o3 (by omega)
              obtain ⟨q1, q2, _⟩ := put_x A1.c.ci (v := .int .u64 vv) (ch := nn) hlg R.s1
              rw [q1, q2, hcb] at HPc
              obtain ⟨q3, q4⟩ := pf_free A1.c.ci (v := .int .u64 vv) (ch := nn) hlg R.s1
              have hqq : (putC s ky (.int .u64 vv) nn).2.2.xs.length = 3 := (pf_put A1.c.ci (v := .int .u64 vv) (ch := nn) hlg R.s1).n.trans R.n
              generalize (putC s ky (.int .u64 vv) nn).2.2 = s2 at *
              clear q1 q2
              obtain ⟨pp, hpp⟩ : ∃ pp : Int, (s.P.length : Int) + 1 = pp := ⟨_, rfl⟩
              have hppI : I64 pp := by unfold I64; omega
              rw [hpp] at HPc q3 q4
              clear hpp
              go_wp2_with (first
                | (go_at_call 14; have hq := hdone; clear hq
                   have HPd := k_put P3.d (k := ky) (z := vv) (ch := nn) o6 o3 (by omega)
                   obtain ⟨r1, r2, _⟩ := put_x A1.d.ci (v := .int .u64 vv) (ch := nn) hlg R.t1
                   rw [r1, r2, hdb] at HPd
                   refine HPd.mono ?_; rintro e w5 ⟨rfl, L5, K5, hdb5, U5, E5⟩
                   have P5 := P3.d1 K5 U5 E5
                   have X5 := X3.upd U5 (fun e => hbd _ e rfl)
                   have f1 := X5.cell1 1 _ rfl
                   obtain ⟨r3, r4⟩ := pf_free A1.d.ci (v := .int .u64 vv) (ch := nn) hlg R.t1
                   have HFd := k_free K5 (p := (t.P.length : Int) + 1) (by unfold I64; omega)
                   rw [r3, hdb5] at HFd)
                | (go_at_call 14; refine HPc.mono ?_; rintro e w2 ⟨rfl, L2, K2, hcb2, U2, E2⟩
                   have P2 := A1.c1 K2 U2 E2
                   have X2 := X1.upd U2 (fun e => hbx _ e rfl)
                   have c1 := X2.cell1 1 _ rfl
                   have c2 := X2.cell1 2 _ rfl
                   have c3 := X2.cell1 3 _ rfl
                   have c4 := X2.cell1 4 _ rfl
                   have hbd : ∀ a, Cb Ld t a → a ≠ wr.heap.size := fun a ha e => by have := A.d.ca.lt ha; omega
                   have HFc := k_free K2 hppI
                   rw [q3, hcb2] at HFc
                   have hb2 : ∀ a, Cb L2 s2 a → a ≠ wr.heap.size := fun a ha e => by
                     rcases E2 a ha with h1 | h1
                     · exact hbx a h1 e
                     · have := X1.lt; omega
                   clear HPc)
                | (go_at_call 16; have hq := HFc; clear hq; refine HFc.mono ?_; rintro e w3 ⟨rfl, K3, U3⟩
                   have P3 := P2.c1 K3 U3 (fun a ha => .inl (cb_len (free_len K2.ci _) ha))
                   have X3 := X2.upd U3 (fun e => hb2 _ e rfl)
                   have d1 := X3.cell1 1 _ rfl
                   have d2 := X3.cell1 2 _ rfl
                   have d3 := X3.cell1 3 _ rfl
                   have d4 := X3.cell1 4 _ rfl
                   have HSc := HS _ _ _ P3.c.ca (q4.n.trans R.n)
                   rw [hcb2] at HSc
                   clear HFc c1 c2 c3 c4)
                | (go_at_call 11; refine HSc.mono ?_; rintro e w4 ⟨rfl, hw⟩; have hw' := hw.symm; subst hw'; have hdone : True := trivial)
                | (go_at_call 16; refine HFd.mono ?_; rintro e w6 ⟨rfl, K6, U6⟩
                   have P6 := P5.d1 K6 U6 (fun a ha => .inl (cb_len (free_len K5.ci _) ha))))
              go_roundw
              case rel => exact ⟨k + 1, L2, L5, _, _, by go_num, hlt, hcb2, hdb5, P6, R.both A1.c.ci q4 r4 hmi, by rw [q4.P]; omega, by rw [r4.P]; omega⟩
              case measure => simp only []; omega
            · have hmi' : ((shd 3 ky.data.toList : Nat) : Int) ≠ i := by omega
              have HPc := k_put A1.c (k := ky) (z := vv) (ch := nn) o6 o3 (by omega)
              obtain ⟨q1, q2, _⟩ := put_x A1.c.ci (v := .int .u64 vv) (ch := nn) hlg R.s1
              rw [q1, q2, hcb] at HPc
              obtain ⟨q3, q4⟩ := pf_free A1.c.ci (v := .int .u64 vv) (ch := nn) hlg R.s1
              have hqq : (putC s ky (.int .u64 vv) nn).2.2.xs.length = 3 := (pf_put A1.c.ci (v := .int .u64 vv) (ch := nn) hlg R.s1).n.trans R.n
              generalize (putC s ky (.int .u64 vv) nn).2.2 = s2 at *
              clear q1 q2
              obtain ⟨pp, hpp⟩ : ∃ pp : Int, (s.P.length : Int) + 1 = pp := ⟨_, rfl⟩
              have hppI : I64 pp := by unfold I64; omega
              rw [hpp] at HPc q3 q4
              clear hpp
              go_wp2_with (first
                | (go_at_call 14; refine HPc.mono ?_; rintro e w2 ⟨rfl, L2, K2, hcb2, U2, E2⟩
                   have P2 := A1.c1 K2 U2 E2
                   have X2 := X1.upd U2 (fun e => hbx _ e rfl)
                   have c1 := X2.cell1 1 _ rfl
                   have c2 := X2.cell1 2 _ rfl
                   have c3 := X2.cell1 3 _ rfl
                   have c4 := X2.cell1 4 _ rfl
                   have hbd : ∀ a, Cb Ld t a → a ≠ wr.heap.size := fun a ha e => by have := A.d.ca.lt ha; omega
                   have HFc := k_free K2 hppI
                   rw [q3, hcb2] at HFc
                   have hb2 : ∀ a, Cb L2 s2 a → a ≠ wr.heap.size := fun a ha e => by
                     rcases E2 a ha with h1 | h1
                     · exact hbx a h1 e
                     · have := X1.lt; omega
                   clear HPc)
                | (go_at_call 16; have hq := HFc; clear hq; refine HFc.mono ?_; rintro e w3 ⟨rfl, K3, U3⟩
                   have P3 := P2.c1 K3 U3 (fun a ha => .inl (cb_len (free_len K2.ci _) ha))
                   have X3 := X2.upd U3 (fun e => hb2 _ e rfl)
                   have d1 := X3.cell1 1 _ rfl
                   have d2 := X3.cell1 2 _ rfl
                   have d3 := X3.cell1 3 _ rfl
                   have d4 := X3.cell1 4 _ rfl
                   have HSc := HS _ _ _ P3.c.ca (q4.n.trans R.n)
                   rw [hcb2] at HSc
                   clear HFc c1 c2 c3 c4)
                | (go_at_call 11; refine HSc.mono ?_; rintro e w4 ⟨rfl, hw⟩; have hw' := hw.symm; subst hw'; have hdone : True := trivial))
              go_roundw
              case rel => exact ⟨k + 1, L2, Ld, _, t, by go_num, hlt, hcb2, hdb, P3, R.other q4 hmi, by rw [q4.P]; omega, by omega⟩
              case measure => simp only []; omega
          · by_cases hmi : shd 3 ky.data.toList = i
            · have hmi' : ((shd 3 ky.data.toList : Nat) : Int) = i := by omega
              have HPc := k_put A1.c (k := ky) (z := vv) (ch := nn) o6 o3 (by omega)
              obtain ⟨q1, q2, _⟩ := put_x A1.c.ci (v := .int .u64 vv) (ch := nn) hlg R.s1
              rw [q1, q2, hcb] at HPc
              have q4 := pf_put A1.c.ci (v := .int .u64 vv) (ch := nn) hlg R.s1
              have hqq : (putC s ky (.int .u64 vv) nn).2.2.xs.length = 3 := (pf_put A1.c.ci (v := .int .u64 vv) (ch := nn) hlg R.s1).n.trans R.n
              generalize (putC s ky (.int .u64 vv) nn).2.2 = s2 at *
              clear q1 q2
              obtain ⟨pp, hpp⟩ : ∃ pp : Int, (s.P.length : Int) + 1 = pp := ⟨_, rfl⟩
              have hppI : I64 pp := by unfold I64; omega
              rw [hpp] at HPc
              clear hpp
              go_wp2_with (first
                | (go_at_call 14; have hq := hdone; clear hq
                   have HPd := k_put P2.d (k := ky) (z := vv) (ch := nn) o6 o3 (by omega)
                   obtain ⟨r1, r2, _⟩ := put_x A1.d.ci (v := .int .u64 vv) (ch := nn) hlg R.t1
                   rw [r1, r2, hdb] at HPd
                   refine HPd.mono ?_; rintro e w5 ⟨rfl, L5, K5, hdb5, U5, E5⟩
                   have P5 := P2.d1 K5 U5 E5
                   have X5 := X2.upd U5 (fun e => hbd _ e rfl)
                   have f1 := X5.cell1 1 _ rfl
                   have r4 := pf_put A1.d.ci (v := .int .u64 vv) (ch := nn) hlg R.t1)
                | (go_at_call 14; refine HPc.mono ?_; rintro e w2 ⟨rfl, L2, K2, hcb2, U2, E2⟩
                   have P2 := A1.c1 K2 U2 E2
                   have X2 := X1.upd U2 (fun e => hbx _ e rfl)
                   have c1 := X2.cell1 1 _ rfl
                   have c2 := X2.cell1 2 _ rfl
                   have c3 := X2.cell1 3 _ rfl
                   have c4 := X2.cell1 4 _ rfl
                   have hbd : ∀ a, Cb Ld t a → a ≠ wr.heap.size := fun a ha e => by have := A.d.ca.lt ha; omega
                   have HSc := HS _ _ _ P2.c.ca hqq
                   rw [hcb2] at HSc
                   clear HPc)
                | (go_at_call 11; refine HSc.mono ?_; rintro e w4 ⟨rfl, hw⟩; have hw' := hw.symm; subst hw'; have hdone : True := trivial))
              go_roundw
              case rel => exact ⟨k + 1, L2, L5, _, _, by go_num, hlt, hcb2, hdb5, P5, R.both A1.c.ci q4 r4 hmi, by rw [q4.P]; omega, by rw [r4.P]; omega⟩
              case measure => simp only []; omega
            · have hmi' : ((shd 3 ky.data.toList : Nat) : Int) ≠ i := by omega
              have HPc := k_put A1.c (k := ky) (z := vv) (ch := nn) o6 o3 (by omega)
              obtain ⟨q1, q2, _⟩ := put_x A1.c.ci (v := .int .u64 vv) (ch := nn) hlg R.s1
              rw [q1, q2, hcb] at HPc
              have q4 := pf_put A1.c.ci (v := .int .u64 vv) (ch := nn) hlg R.s1
              have hqq : (putC s ky (.int .u64 vv) nn).2.2.xs.length = 3 := (pf_put A1.c.ci (v := .int .u64 vv) (ch := nn) hlg R.s1).n.trans R.n
              generalize (putC s ky (.int .u64 vv) nn).2.2 = s2 at *
              clear q1 q2
              obtain ⟨pp, hpp⟩ : ∃ pp : Int, (s.P.length : Int) + 1 = pp := ⟨_, rfl⟩
              have hppI : I64 pp := by unfold I64; omega
              rw [hpp] at HPc
              clear hpp
              go_wp2_with (first
                | (go_at_call 14; refine HPc.mono ?_; rintro e w2 ⟨rfl, L2, K2, hcb2, U2, E2⟩
                   have P2 := A1.c1 K2 U2 E2
                   have X2 := X1.upd U2 (fun e => hbx _ e rfl)
                   have c1 := X2.cell1 1 _ rfl
                   have c2 := X2.cell1 2 _ rfl
                   have c3 := X2.cell1 3 _ rfl
                   have c4 := X2.cell1 4 _ rfl
                   have hbd : ∀ a, Cb Ld t a → a ≠ wr.heap.size := fun a ha e => by have := A.d.ca.lt ha; omega
                   have HSc := HS _ _ _ P2.c.ca hqq
                   rw [hcb2] at HSc
                   clear HPc)
                | (go_at_call 11; refine HSc.mono ?_; rintro e w4 ⟨rfl, hw⟩; have hw' := hw.symm; subst hw'; have hdone : True := trivial))
              go_roundw
              case rel => exact ⟨k + 1, L2, Ld, _, t, by go_num, hlt, hcb2, hdb, P2, R.other q4 hmi, by rw [q4.P]; omega, by omega⟩
              case measure => simp only []; omega
      · go_wp2_with fail
        go_roundw
        case rel => exact ⟨k + 1, Lc, Ld, s, t, by go_num, hlt, hcb, hdb, A1, R, by omega, by omega⟩
        case measure => simp only []; omega
    · have hlt' : (k : Int) = (xs.length : Int) := by omega
      obtain rfl : k = xs.length := by omega
      have hxs : s.xs[i]? = some (s.x i) := by
        have := List.getElem?_eq_getElem (l := s.xs) (i := i) (by rw [R.n]; exact hi3)
        rw [this, xs_get this]
      have hxt : t.xs[i]? = some (t.x i) := by
        have := List.getElem?_eq_getElem (l := t.xs) (i := i) (by rw [R.m]; exact hi3)
        rw [this, xs_get this]
      have hq1 : (s.x i).q.length ≤ 3000000000000 := by
        have h1 := (A.c.ci.iv _ _ hxs).qle
        have h2 := A.c.ci.el _ _ hxs
        omega
      have HK1 := Keys_any A.c hxs (by omega)
      have hKl : (ksX (s.x i)).length ≤ 3000000000000 := by unfold ksX; simpa using hq1
      have hRx : Hid (s.x i = t.x i) := R.x
      go_wp2_with (first
        | (go_at_call 22; have hq := hR1; clear hq
           have HK2 := Keys_any A2.d hxt (by rw [← hRx.out]; omega)
           rw [← hRx.out, hdb] at HK2
           refine HK2.mono ?_; rintro e w3 ⟨v2, rfl, hR2, hU2⟩
           have A3 : Pr w w3 Lc Ld s t := A2.upd hU2 (fun _ _ e => e) (fun _ _ e => e) (fun _ e => e.elim)
           have hR1' := row_upd hR1 hU2 (fun _ _ e => e)
           obtain ⟨a2, c2, hv2⟩ := row_slice hR2
           subst hv2
           clear HK2)
        | (go_at_call 22; rw [hcb] at HK1; refine HK1.mono ?_; rintro e w2 ⟨v1, rfl, hR1, hU1⟩
           have A2 : Pr w w2 Lc Ld s t := A.upd hU1 (fun _ _ e => e) (fun _ _ e => e) (fun _ e => e.elim)
           obtain ⟨a1, c1, hv1⟩ := row_slice hR1
           subst hv1
           clear HK1))
      generalize hKS : ksX (s.x i) = KS at *
      clear hKS hR1 hU1 hU2 A2 A
      obtain ⟨B1, hB1⟩ : ∃ B, wr.heap.size = B := ⟨_, rfl⟩
      obtain ⟨B2, hB2⟩ : ∃ B, w2.heap.size = B := ⟨_, rfl⟩
      rw [hB1] at hR1'
      rw [hB2] at hR2
      clear hB1 hB2
      go_loopw [20] (fun ii wv => ∃ m : Nat, ii = .int .i64 m ∧ m ≤ KS.length ∧ Pr w wv Lc Ld s t ∧ RowS wv B1 (.slice a1 KS.length c1) KS ∧ RowS wv B2 (.slice a2 KS.length c2) KS) (fun ii _ => match ii with | .int _ z => KS.length - z.toNat | _ => 0)
      case atStart => exact ⟨0, rfl, Nat.zero_le _, A3, hR1', hR2⟩
      case round =>
        clear A3 hR1' hR2
        obtain ⟨m, rfl, hml, A4, r1, r2⟩ := hrel
        by_cases hm : m < KS.length
        · have hm' : (m : Int) < (KS.length : Int) := by omega
          obtain ⟨y, hy⟩ : ∃ y, KS[m]? = some y := ⟨_, List.getElem?_eq_getElem hm⟩
          obtain ⟨g1, hg1, cc1⟩ : ∃ g, a1 = some ⟨g, 0, none⟩ ∧ wr.cell? ⟨g, m, none⟩ = some (.string y) := by
            obtain ⟨a', c', e1, _, hrd, ho⟩ := row_rd sc_k r1
            cases e1
            obtain ⟨g, o, rfl, hAt⟩ := hrd.at_ hy
            have ho2 := (ho g o rfl).1
            subst ho2
            have := hAt 0 _ rfl
            simp only [Nat.zero_add, Nat.mul_one, Nat.add_zero] at this
            exact ⟨g, rfl, this⟩
          obtain ⟨g2, hg2, cc2⟩ : ∃ g, a2 = some ⟨g, 0, none⟩ ∧ wr.cell? ⟨g, m, none⟩ = some (.string y) := by
            obtain ⟨a', c', e1, _, hrd, ho⟩ := row_rd sc_k r2
            cases e1
            obtain ⟨g, o, rfl, hAt⟩ := hrd.at_ hy
            have ho2 := (ho g o rfl).1
            subst ho2
            have := hAt 0 _ rfl
            simp only [Nat.zero_add, Nat.mul_one, Nat.add_zero] at this
            exact ⟨g, rfl, this⟩
          subst hg1 hg2
          have r1' : Hid _ := r1
          have r2' : Hid _ := r2
          have A4' : Hid _ := A4
          clear r1 r2 A4
          go_wp2_with fail
          go_region
          all_goals
            go_wp2_with fail
            go_roundw
            case rel => exact ⟨m + 1, by go_num, hm, A4'.out.upd (Upd.drew (Upd.refl Non wr)) (fun _ _ e => e) (fun _ _ e => e) (fun _ e => e.elim), row_upd r1'.out (Upd.drew (Upd.refl Non wr)) (fun _ _ e => e), row_upd r2'.out (Upd.drew (Upd.refl Non wr)) (fun _ _ e => e)⟩
            case measure => simp only []; omega
        · have hm' : (m : Int) = (KS.length : Int) := by omega
          obtain rfl : m = KS.length := by omega
          clear r1 r2
          have hix : s.ix key.data.toList = i := by unfold Cs.ix; rw [R.n]; exact hi
          have hiy : t.ix key.data.toList = i := by unfold Cs.ix; rw [R.m]; exact hi
          have HG1 := k_get A4.c hk (by omega)
          obtain ⟨z, hz⟩ := getv A4.c.ci key.data.toList (by rw [hix]; exact R.v)
          obtain ⟨e1, e2⟩ := get_eq (hix.trans hiy.symm) (by rw [hix, hiy]; exact hRx.out)
          rw [hz, hcb] at HG1
          have hz2 : (getC t key.data.toList).2.1 = .int .u64 z := by rw [← e1]; exact hz
          have e2' : Hid _ := e2
          generalize hbb : (getC s key.data.toList).2.2.1 = bb at HG1
          have hbt : (getC t key.data.toList).2.2.1 = bb := by rw [← e2, hbb]
          clear hbb e2 e1 hz
          go_wp2_with (first
            | (go_at_call 18; have hq := A5; clear hq
               have HG2 := k_get A5.d hk (by omega)
               rw [hz2, hdb, hbt] at HG2
               refine HG2.mono ?_; rintro e w6 ⟨rfl, K6, U6⟩
               have A6 := A5.d1 K6 U6 (fun a ha => .inl (cb_len (get_len A5.d.ci _) ha))
               clear HG2)
            | (go_at_call 18; refine HG1.mono ?_; rintro e w5 ⟨rfl, K5, U5⟩
               have A5 := A4.c1 K5 U5 (fun a ha => .inl (cb_len (get_len A4.c.ci _) ha))
               clear HG1)
            | (go_at_call 9; refine (HLv _).mono ?_; rintro e w7 ⟨rfl, hb7⟩))
          go_ret
          exact ⟨rfl, A6.c.bel.trans (hb7.mono A6.c.bel.size)⟩
end Go.Proofs.Ytlkfabejecgfgaa
