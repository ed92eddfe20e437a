import Derived.Test.YtbnllobofndckaaRw
namespace Go.Proofs.Ytbnllobofndckaa
open Go.RowKit
set_option linter.unusedVariables false
set_option linter.unusedSimpArgs false
theorem row3_get {w : World} {a : Option Addr} {n c : Nat} {l : List Nat} (h : w.ownsRow 0 3 1 (.slice a n c) l.length (ic l)) {j x : Nat} (hj : l[j]? = some x) : ∃ g, a = some ⟨g, 0, none⟩ ∧ w.cell? ⟨g, j, none⟩ = some (.int .i64 x) := by
  have h0 := h
  rcases h.2 with ⟨e, h1⟩ | ⟨g, cap, cur, e, _⟩
  · have : l = [] := List.length_eq_zero_iff.1 h1
    rw [this] at hj; simp at hj
  · cases e
    refine ⟨g, rfl, ?_⟩
    have := h0.cells (g := g) rfl j (.int .i64 x) (by unfold ic; rw [List.getElem?_map, hj]; rfl)
    rw [add_at, Nat.zero_add] at this
    exact this
theorem row_one (W : World) : (W.alloc (.cells #[.int .i64 0] 3)).ownsRow 0 3 1 (.slice (some ⟨W.heap.size, 0, none⟩) 1 1) [0].length (ic [0]) :=
  ⟨rfl, .inr ⟨W.heap.size, 1, #[.int .i64 0], rfl, Nat.zero_le _, Blk.new W 3 [.int .i64 0], Nat.le_refl _, by unfold maxLen; omega, rfl, rfl⟩⟩
theorem take_flat (P : List Nat) (j x : Nat) (h : P[j]? = some x) : (P.take (j + 1)).flatMap (fun (x : Nat) => byts 4 (x : Int)) = (P.take j).flatMap (fun (x : Nat) => byts 4 (x : Int)) ++ byts 4 x := by
  obtain ⟨h1, h2⟩ := List.getElem?_eq_some_iff.1 h
  rw [List.take_succ_eq_append_getElem h1, List.flatMap_append, h2]
  simp
theorem flat_len (P : List Nat) : (P.flatMap (fun (x : Nat) => byts 4 (x : Int))).length = 4 * P.length := by
  induction P with
  | nil => rfl
  | cons x P ih => rw [List.flatMap_cons, List.length_append, ih, byts_len, List.length_cons]; omega
set_option maxRecDepth 100000 in
set_option maxHeartbeats 1000000 in
theorem written_any {w : World} {a : Option Addr} {l : List Ent} (hl : RdE w a l) (hf : Fit l) (r : Nat) (hr1 : 1 ≤ r) (hN : l.length ≤ 65536) (c : Nat) :
    Calls Try.prog 34 #[.int .i64 r, .slice a l.length c] w fun e w' => ∃ v, e = .returned v ∧ OwnB w' w.heap.size v (wr8 r l) ∧ Below w.heap.size w w' := by
  obtain ⟨i0, hi, hz0, hz1, hz2⟩ := info_parts info5
  obtain ⟨N, hNN⟩ : ∃ N, Hid (l.length = N) := ⟨_, rfl⟩
  have HL : Hid (RdE w a l) := hl
  have hN' : N ≤ 65536 := by rw [← hNN.out]; exact hN
  have hrz : ¬ (r : Int) = 0 := by omega
  rw [hNN.out]
  clear hl hN
  go_enter Try.func34, Try.ntmps34
  go_wp2
  go_loopw [5, 6, 7, 8] (fun s5 s6 s7 i wr => ∃ k : Nat, k ≤ N ∧ i = .int .i64 k ∧ ∃ la na ca, s6 = .slice la na ca ∧ Hid (Arg wr la na ca (kP l k)) ∧ Hid (Ws w (bt r l k) (pI r l k) s5 s7 wr)) (fun _ _ _ i _ => ((N : Int) - intOf i).toNat)
  case atStart => exact ⟨0, Nat.zero_le _, rfl, none, 0, 0, rfl, arg_none w, ⟨OwnB.nil _ _, World.ownsRow_nil w _ 3 1, fun j hj => (by cases hj), fun j hj => (by cases hj), Below.refl _ _⟩⟩
  case round =>
    obtain ⟨k, hk, rfl, la, na, ca, rfl, HLa, HW⟩ := hrel
    have hbz : bz r l k ≤ k * 17500 := bz_le hf k
    have hbzN : k * 17500 ≤ 65536 * 17500 := Nat.mul_le_mul_right _ (by omega)
    obtain ⟨B, hB⟩ : ∃ B, Hid (bt r l k = B) := ⟨_, rfl⟩
    obtain ⟨P, hP⟩ : ∃ P, Hid (pI r l k = P) := ⟨_, rfl⟩
    obtain ⟨BL, hBL⟩ : ∃ BL, Hid (B.length = BL) := ⟨_, rfl⟩
    have hBLz : BL ≤ 2000000000 := by rw [← hBL.out, ← hB.out, bt_len]; omega
    have hPlz : P.length ≤ 65536 := by rw [← hP.out, pI_len]; exact Nat.le_trans (wn_le r k) (by omega)
    rw [hB.out, hP.out] at HW
    clear hbz hbzN
    obtain ⟨ab, cb, hvb⟩ := own_slice HW.out.ob
    rw [hBL.out] at hvb
    subst hvb
    rcases Nat.lt_or_ge k N with hkN | hkN
    · have hkz : (k : Int) < N := by omega
      obtain ⟨x, hx⟩ : ∃ x, l[k]? = some x := ⟨l[k]'(by rw [hNN.out]; exact hkN), List.getElem?_eq_getElem _⟩
      obtain ⟨b, off, rfl, hbl, hat⟩ := HL.out.get HW.out.bel hx
      obtain ⟨e0, e1, e2, e3⟩ := hat k x hx
      have HAt : Hid (∀ W, Below w.heap.size w W → EAt W b (off + k * 4) x) := fun W hW => by
        obtain ⟨b', off', e', _, h⟩ := HL.out.get hW hx
        cases e'
        exact h k x hx
      have hfe := hf x (List.mem_of_getElem? hx)
      have hkA : kA l k = x.kb := by unfold kA; rw [hx]
      have hvA : vA l k = x.v := by unfold vA; rw [hx]
      have hkl := kb_len hfe.1
      obtain ⟨kn, hkn⟩ : ∃ kn, Hid (x.kb.length = kn) := ⟨_, rfl⟩
      have HEnc : Hid (∀ W, Calls Try.prog 62 #[.agg #[.string x.u, .int .u64 x.s, .int .i64 x.k]] W fun e' w' => ∃ kb ko kc, e' = .returned (.tuple #[.slice (some ⟨kb, ko, none⟩) kn kc, .int .i64 0]) ∧ Arg w' (some ⟨kb, ko, none⟩) kn kc x.kb ∧ kn ≤ kc ∧ W.heap.size ≤ kb ∧ kb < w'.heap.size ∧ Below W.heap.size W w') := fun W => by
        refine (rencode_yes x.u x.s x.k W hfe.1 hfe.2.1).mono ?_
        rintro e' w' ⟨v, rfl, ho, hb⟩
        have ho' : OwnB w' W.heap.size v x.kb := ho
        rcases ho' with ⟨h1, h2⟩ | ⟨kb, ko, kc, h1, h2, h3, h4, h5, h6, h7⟩
        · rw [h2] at hkl; simp at hkl
        · rw [hkn.out] at h1 h4
          subst h1
          exact ⟨kb, ko, kc, rfl, ⟨hkn.out, kb_bd x, by rw [← hkn.out]; omega, .inr ⟨kb, ko, rfl, h3, h6⟩⟩, h4, h2, h3, hb⟩
      obtain ⟨C, hC⟩ : ∃ C, Hid (com (kP l k) x.kb = C) := ⟨_, rfl⟩
      have hCk : C ≤ kn := by rw [← hC.out, ← hkn.out]; exact (com_le _ _).2
      obtain ⟨m, hm⟩ : ∃ m, Hid (k % r = m) := ⟨_, rfl⟩
      have htm : Int.tmod (k : Int) r = m := by rw [← hm.out]; exact Int.tmod_eq_emod_of_nonneg (by omega)
      have HCm : Hid (∀ W kb ko kc, Arg W la na ca (kP l k) → Arg W (some ⟨kb, ko, none⟩) kn kc x.kb → Calls Try.prog 63 #[.slice la na ca, .slice (some ⟨kb, ko, none⟩) kn kc] W fun e w' => e = .returned (.int .i64 C) ∧ Below W.heap.size W w') := fun W kb ko kc h1 h2 => by
        have := rcommon_any h1 h2
        rw [hC.out] at this; exact this
      have hknl : kn ≤ 1032 := by rw [← hkn.out]; exact hkl.1
      have HRe : Hid (∀ (D : Nat) (v : Value) (W : World) kb ko kc, D ≤ kn → OwnB W w.heap.size v B → w.heap.size ≤ W.heap.size → Arg W (some ⟨kb, ko, none⟩) kn kc x.kb → kn ≤ kc → (∀ j, v.ownBlock = some j → j ≠ kb) → Calls Try.prog 64 #[v, .slice (some ⟨kb, ko, none⟩) kn kc, .string x.v, .int .i64 D] W fun e w' => ∃ v', e = .returned v' ∧ AppB W w' w.heap.size v v' (B ++ pcB D (x.kb.drop D) x.v)) := fun D v W kb ko kc hD ho hw ha hc hne =>
        rentry_any ho hw ha hc (fun b' off' e => by cases e; exact fun e' => hne _ e' rfl) D hD x.v (by omega) (by omega) (by rw [hBL.out]; omega)
      have HCA : Hid (cA r l k = if m = 0 then 0 else C) := by
        show _ = _
        unfold cA; rw [hm.out, hkA, hC.out]
      have HBt : Hid (∀ D, cA r l k = D → bt r l (k + 1) = B ++ pcB D (x.kb.drop D) x.v) := fun D hD => by
        show bt r l k ++ wA r l k = _
        unfold wA
        rw [hB.out, hD, hkA, hvA]
      have HKP : Hid (kP l (k + 1) = x.kb) := hkA
      clear hkA hvA hat hx hkl
      rcases Nat.eq_zero_or_pos m with hm0 | hm0
      · have HPI : Hid (pI r l (k + 1) = P ++ [BL]) := by
          show pI r l k ++ _ = _
          rw [if_pos (by rw [hm.out]; exact hm0), hP.out, hB.out, hBL.out]
        have HC0 : Hid (cA r l k = 0) := by rw [HCA.out, if_pos hm0]; rfl
        have hmz : ((m : Int) == 0) = true := by simp; omega
        have HPs : Hid (∀ W kb, Ws w B P (.slice ab BL cb) u7 W → kb < W.heap.size → ∃ v' w', (Builtin.append_ #[70, 70] 70 #[u7, .slice (some ⟨W.heap.size, 0, none⟩) 1 1]).run Try.prog (W.alloc (.cells #[.int .i64 BL] 3)) = .ok v' w' ∧ Ws w B (P ++ [BL]) (.slice ab BL cb) v' w' ∧ Upd (fun j => u7.ownBlock = some j) (W.alloc (.cells #[.int .i64 BL] 3)) w') := fun W kb hW hkb => by
          have hW' := hW.below ((Below.refl _ _).alloc (Nat.le_refl _) (.cells #[.int .i64 BL] 3))
          obtain ⟨v', w', h1, h2, h3, h4⟩ := push_int hW'.op (Blk.new W 3 [.int .i64 BL]) (by omega)
          exact ⟨v', w', h1, hW'.place h2 h3 h4, h3⟩
        have HRe0 : Hid (∀ (v : Value) (W : World) kb ko kc, OwnB W w.heap.size v B → w.heap.size ≤ W.heap.size → Arg W (some ⟨kb, ko, none⟩) kn kc x.kb → kn ≤ kc → (∀ j, v.ownBlock = some j → j ≠ kb) → Calls Try.prog 64 #[v, .slice (some ⟨kb, ko, none⟩) kn kc, .string x.v, .int .i64 0] W fun e w' => ∃ v', e = .returned v' ∧ AppB W w' w.heap.size v v' (bt r l (k + 1))) := fun v W kb ko kc h1 h2 h3 h4 h5 => by
          rw [HBt.out 0 HC0.out]; exact HRe.out 0 v W kb ko kc (Nat.zero_le _) h1 h2 h3 h4 h5
        have HNv : Hid (∀ kb, wr.heap.size ≤ kb → (∀ j, (Value.slice ab BL cb).ownBlock = some j → j ≠ kb) ∧ (∀ j, u7.ownBlock = some j → j ≠ kb)) := fun kb hkb => ⟨fun j hj => by have := (HW.out.ob.lt j hj).2; omega, fun j hj => by have := row_lt3 HW.out.op j hj; omega⟩
        have HFin : Hid (∀ w2 kb ko kc (v3 : Value) w3, wr.heap.size ≤ kb → Arg w2 (some ⟨kb, ko, none⟩) kn kc x.kb → Upd (fun j => u7.ownBlock = some j) (w2.alloc (.cells #[.int .i64 BL] 3)) w3 → Arg w3 (some ⟨kb, ko, none⟩) kn kc x.kb) := fun w2 kb ko kc v3 w3 hkb ha u => by
          refine (ha.below ((Below.refl _ _).alloc (Nat.le_refl _) _)).upd u (fun b' off' e => ?_)
          cases e
          exact fun e' => (HNv.out kb hkb).2 _ e' rfl
        clear hm0 hCk
        go_wp2_with (first
          | (go_at_call 64; have hq := W3; clear hq; refine (HRe0.out _ _ _ _ _ W3.ob W3.bel.size hk3 hkc (HNv.out kb hkb).1).mono ?_; rintro e w4 ⟨v4, rfl, ha4⟩; have W4 := W3.bytes ha4)
          | (at_builtin; refine wpList_append_run rfl (.tmp 35) (.tmp 38) 70 70 rfl rfl rfl hr3 ?_)
          | (go_at_call 63; refine (HCm.out _ _ _ _ L1 hk1).mono ?_; rintro e w2 ⟨rfl, hb2⟩; have W2 := W1.below hb2; have hk2 := hk1.below hb2; obtain ⟨v3, w3, hr3, W3, u3⟩ := HPs.out w2 kb W2 (Nat.lt_of_lt_of_le hkb2 hb2.size); have hk3 := HFin.out w2 kb ko kc v3 w3 hkb hk2 u3; have e5 := (HAt.out w3 W3.bel).2.2.2)
          | (go_at_call 62; refine (HEnc.out _).mono ?_; rintro e w1 ⟨kb, ko, kc, rfl, hk1, hkc, hkb, hkb2, hb1⟩; have W1 := HW.out.below hb1; have L1 := HLa.out.below hb1))
        go_roundw
        case rel =>
          refine ⟨k + 1, by omega, by go_num, _, _, _, rfl, ?_, ?_⟩
          · show Arg _ _ _ _ _
            rw [HKP.out]
            exact hk3.upd ha4.upd (fun b' off' e => by cases e; exact fun e' => (HNv.out kb hkb).1 _ e' rfl)
          · rw [HPI.out]; exact W4
        case measure => simp [intOf]; omega
      · have HPI : Hid (pI r l (k + 1) = P) := by
          show pI r l k ++ _ = _
          rw [if_neg (by rw [hm.out]; omega), hP.out, List.append_nil]
        have HC0 : Hid (cA r l k = C) := by show _ = _; rw [HCA.out, if_neg (by omega)]
        have hmz : ((m : Int) == 0) = false := by simp; omega
        have HRe0 : Hid (∀ (v : Value) (W : World) kb ko kc, OwnB W w.heap.size v B → w.heap.size ≤ W.heap.size → Arg W (some ⟨kb, ko, none⟩) kn kc x.kb → kn ≤ kc → (∀ j, v.ownBlock = some j → j ≠ kb) → Calls Try.prog 64 #[v, .slice (some ⟨kb, ko, none⟩) kn kc, .string x.v, .int .i64 C] W fun e w' => ∃ v', e = .returned v' ∧ AppB W w' w.heap.size v v' (bt r l (k + 1))) := fun v W kb ko kc h1 h2 h3 h4 h5 => by
          rw [HBt.out C HC0.out]; exact HRe.out C v W kb ko kc hCk h1 h2 h3 h4 h5
        have HNv : Hid (∀ kb, wr.heap.size ≤ kb → (∀ j, (Value.slice ab BL cb).ownBlock = some j → j ≠ kb)) := fun kb hkb => fun j hj => by have := (HW.out.ob.lt j hj).2; omega
        go_wp2_with (first
          | (go_at_call 64; refine (HRe0.out _ _ _ _ _ W2.ob W2.bel.size hk2 hkc (HNv.out kb hkb)).mono ?_; rintro e w4 ⟨v4, rfl, ha4⟩; have W4 := W2.bytes ha4)
          | (go_at_call 63; refine (HCm.out _ _ _ _ L1 hk1).mono ?_; rintro e w2 ⟨rfl, hb2⟩; have W2 := W1.below hb2; have hk2 := hk1.below hb2; have e5 := (HAt.out w2 W2.bel).2.2.2)
          | (go_at_call 62; refine (HEnc.out _).mono ?_; rintro e w1 ⟨kb, ko, kc, rfl, hk1, hkc, hkb, hkb2, hb1⟩; have W1 := HW.out.below hb1; have L1 := HLa.out.below hb1))
        go_roundw
        case rel =>
          refine ⟨k + 1, by omega, by go_num, _, _, _, rfl, ?_, ?_⟩
          · show Arg _ _ _ _ _
            rw [HKP.out]
            exact hk2.upd ha4.upd (fun b' off' e => by cases e; exact fun e' => (HNv.out kb hkb) _ e' rfl)
          · rw [HPI.out]; exact W4
        case measure => simp [intOf]; omega
    · have hkz : ¬ (k : Int) < N := by omega
      obtain rfl : k = N := by omega
      have hBall : Hid (B = bt r l l.length) := by show _ = _; rw [hNN.out, hB.out]
      rcases Nat.eq_zero_or_pos k with hk0 | hk0
      · have HK0 : Hid (k = 0) := hk0
        obtain ⟨M, hM⟩ : ∃ M : Nat, Hid (M = 1) := ⟨1, rfl⟩
        have hM1 : M ≤ 100000 := by rw [hM.out]; omega
        obtain ⟨PP, hPP⟩ : ∃ PP : List Nat, Hid (PP = [0]) := ⟨_, rfl⟩
        have hML : Hid (PP.length = M) := by show _ = _; rw [hPP.out, hM.out]; rfl
        have HPb : Hid (∀ x ∈ PP, x ≤ 2000000000) := by show ∀ x ∈ PP, _; rw [hPP.out]; intro x hx; simp at hx; omega
        have HTT : Hid (B ++ PP.flatMap (fun (x : Nat) => byts 4 (x : Int)) ++ byts 4 M = wr8 r l) := by
          show _ = _
          unfold wr8
          rw [hBall.out, if_pos (by rw [hNN.out]; exact hk0), if_pos (by rw [hNN.out]; exact hk0), hPP.out, hM.out]
          simp
        have hPz : P.length = 0 := by rw [← hP.out, hk0]; rfl
        have HWz : Hid (∀ ap cp, ap = some ⟨wr.heap.size, 0, none⟩ → cp = 1 → Ws w B PP (.slice ab BL cb) (.slice ap M cp) (wr.alloc (.cells #[.int .i64 0] 3))) := fun ap cp e1 e2 => by
          have h := HW.out.below ((Below.refl _ _).alloc (Nat.le_refl _) (.cells #[.int .i64 0] 3))
          rw [hPP.out, hM.out, e1, e2]
          exact ⟨h.ob, row_one wr, fun j hj => (by cases hj; exact HW.out.bel.size), fun j hj e => (by cases e; exact absurd (HW.out.ob.lt _ hj).2 (Nat.lt_irrefl _)), h.bel⟩
        obtain ⟨ap0, cp0, hu7⟩ := row_slice3 HW.out.op
        rw [hPz] at hu7
        subst hu7
        clear hk0 hPz
        have HW0 := HWz.out _ _ rfl rfl
        rw [hM.out] at HW0 HTT hML
        obtain ⟨WQ, rfl⟩ : ∃ WQ, WQ = wr := ⟨_, rfl⟩
        go_wp2
        go_loopw [5, 12] (fun s5 i wr => ∃ j : Nat, j ≤ 1 ∧ i = .int .i64 j ∧ Hid (Ws w (B ++ (PP.take j).flatMap (fun (x : Nat) => byts 4 (x : Int))) PP s5 (.slice (some ⟨WQ.heap.size, 0, none⟩) 1 1) wr)) (fun _ i _ => ((1 : Int) - intOf i).toNat)
        case atStart => exact ⟨0, Nat.zero_le _, rfl, by show Ws _ _ _ _ _ _; simpa using HW0⟩
        case round =>
          obtain ⟨j, hj, rfl, HWj⟩ := hrel
          have hlj : ((PP.take j).flatMap (fun (x : Nat) => byts 4 (x : Int))).length ≤ 400000 := by rw [flat_len, List.length_take]; have := hML.out; omega
          obtain ⟨G, hG⟩ : ∃ G, Hid (B ++ (PP.take j).flatMap (fun (x : Nat) => byts 4 (x : Int)) = G) := ⟨_, rfl⟩
          have hGl : G.length ≤ 2100000000 := by rw [← hG.out, List.length_append, hBL.out]; omega
          rw [hG.out] at HWj
          clear hlj
          rcases Nat.lt_or_ge j 1 with hjM | hjM
          · have hjz : (j : Int) < 1 := by omega
            obtain ⟨x, hx⟩ : ∃ x, PP[j]? = some x := ⟨PP[j]'(by rw [hML.out]; exact hjM), List.getElem?_eq_getElem _⟩
            have hxl : x ≤ 2000000000 := HPb.out x (List.mem_of_getElem? hx)
            obtain ⟨g, hge, cx⟩ := row3_get HWj.out.op hx
            cases hge
            have hwx : IntKind.u64.wrap (x : Int) = x := by rw [IntKind.wrap_u64]; omega
            have HTk : Hid (B ++ (PP.take (j + 1)).flatMap (fun (x : Nat) => byts 4 (x : Int)) = G ++ byts 4 x) := by show _ = _; rw [take_flat PP j x hx, ← List.append_assoc, hG.out]
            have HLn : Hid (G.length + (byts 4 x).length ≤ 140737488355328) := by show _ ≤ _; rw [byts_len]; omega
            clear hx
            go_wp2_with (first
              | (at_builtin; refine OwnB.wpList_append rfl _ _ 23 23 rfl rfl (base := w.heap.size) (v := u5) (l := G) W1.ob i0 Try.underlying23 hi hz0 hz1 hz2 v1 rfl (byts 4 x) ho1.src W1.bel.size HLn.out ?_; intro v2 w2 ho2 hg2 hl2; have W2 := W1.bytes (AppB.grow ho2 hg2 hl2))
              | (go_at_call 65; refine (rfixed_any 4 (by omega) x _ (by omega) (by omega)).mono ?_; rintro e w1 ⟨v1, rfl, ho1, hb1⟩; have W1 := HWj.out.below hb1))
            go_roundw
            case rel => exact ⟨j + 1, by omega, by go_num, by rw [HTk.out]; exact W2⟩
            case measure => simp [intOf]; omega
          · have hjz : ¬ (j : Int) < 1 := by omega
            have hj1 : Hid (j = 1) := by show _ = _; omega
            have HTk : Hid (G ++ byts 4 1 = wr8 r l) := by
              show _ = _
              rw [← hG.out, List.take_of_length_le (by rw [hML.out, hj1.out]; exact Nat.le_refl _)]
              exact HTT.out
            have HLn : Hid (G.length + (byts 4 1).length ≤ 140737488355328) := by show _ ≤ _; rw [byts_len]; omega
            go_wp2_with (first
              | (at_builtin; refine OwnB.wpList_append rfl _ _ 23 23 rfl rfl (base := w.heap.size) (v := u5) (l := G) W1.ob i0 Try.underlying23 hi hz0 hz1 hz2 v1 rfl (byts 4 1) ho1.src W1.bel.size HLn.out ?_; intro v2 w2 ho2 hg2 hl2; have W2 := W1.bytes (AppB.grow ho2 hg2 hl2))
              | (go_at_call 65; refine (rfixed_any 4 (by omega) 1 _ (by omega) (by omega)).mono ?_; rintro e w1 ⟨v1, rfl, ho1, hb1⟩; have W1 := HWj.out.below hb1))
            go_ret
            refine ⟨_, rfl, ?_, W2.bel⟩
            rw [← HTk.out]; exact W2.ob
      · obtain ⟨M, hM⟩ : ∃ M : Nat, Hid (M = wn r k) := ⟨_, rfl⟩
        have hM1 : M ≤ 100000 := by rw [hM.out]; exact Nat.le_trans (wn_le r k) (by omega)
        have hM0 : 0 < M := by rw [hM.out]; exact wn_pos r k hk0
        have hML : Hid (P.length = M) := by show _ = _; rw [← hP.out, pI_len, hM.out]
        have HPb : Hid (∀ x ∈ P, x ≤ 2000000000) := by
          intro x hx
          rw [← hP.out] at hx
          have h1 := pI_bd hf k x hx
          have h2 := Nat.mul_le_mul_right 17500 hN'
          omega
        have HTT : Hid (B ++ P.flatMap (fun (x : Nat) => byts 4 (x : Int)) ++ byts 4 M = wr8 r l) := by
          show _ = _
          unfold wr8
          rw [hBall.out, if_neg (by rw [hNN.out]; omega), if_neg (by rw [hNN.out]; omega), ← hP.out, pI_pl, hNN.out, hM.out]
        obtain ⟨ap, cp, hu7⟩ := row_slice3 HW.out.op
        rw [hML.out] at hu7
        subst hu7
        have hMz : ((M : Int) == 0) = false := by simp; omega
        have HW0 := HW.out
        obtain ⟨WQ, rfl⟩ : ∃ WQ, WQ = wr := ⟨_, rfl⟩
        go_wp2
        go_loopw [5, 12] (fun s5 i wr => ∃ j : Nat, j ≤ M ∧ i = .int .i64 j ∧ Hid (Ws w (B ++ (P.take j).flatMap (fun (x : Nat) => byts 4 (x : Int))) P s5 (.slice ap M cp) wr)) (fun _ i _ => ((M : Int) - intOf i).toNat)
        case atStart => exact ⟨0, Nat.zero_le _, rfl, by show Ws _ _ _ _ _ _; simpa using HW0⟩
        case round =>
          obtain ⟨j, hj, rfl, HWj⟩ := hrel
          have hlj : ((P.take j).flatMap (fun (x : Nat) => byts 4 (x : Int))).length ≤ 400000 := by rw [flat_len, List.length_take]; have := hML.out; omega
          obtain ⟨G, hG⟩ : ∃ G, Hid (B ++ (P.take j).flatMap (fun (x : Nat) => byts 4 (x : Int)) = G) := ⟨_, rfl⟩
          have hGl : G.length ≤ 2100000000 := by rw [← hG.out, List.length_append, hBL.out]; omega
          rw [hG.out] at HWj
          clear hlj
          rcases Nat.lt_or_ge j M with hjM | hjM
          · have hjz : (j : Int) < M := by omega
            obtain ⟨x, hx⟩ : ∃ x, P[j]? = some x := ⟨P[j]'(by rw [hML.out]; exact hjM), List.getElem?_eq_getElem _⟩
            have hxl : x ≤ 2000000000 := HPb.out x (List.mem_of_getElem? hx)
            obtain ⟨g, rfl, cx⟩ := row3_get HWj.out.op hx
            have hwx : IntKind.u64.wrap (x : Int) = x := by rw [IntKind.wrap_u64]; omega
            have HTk : Hid (B ++ (P.take (j + 1)).flatMap (fun (x : Nat) => byts 4 (x : Int)) = G ++ byts 4 x) := by show _ = _; rw [take_flat P j x hx, ← List.append_assoc, hG.out]
            have HLn : Hid (G.length + (byts 4 x).length ≤ 140737488355328) := by show _ ≤ _; rw [byts_len]; omega
            clear hx
            go_wp2_with (first
              | (at_builtin; refine OwnB.wpList_append rfl _ _ 23 23 rfl rfl (base := w.heap.size) (v := u5) (l := G) W1.ob i0 Try.underlying23 hi hz0 hz1 hz2 v1 rfl (byts 4 x) ho1.src W1.bel.size HLn.out ?_; intro v2 w2 ho2 hg2 hl2; have W2 := W1.bytes (AppB.grow ho2 hg2 hl2))
              | (go_at_call 65; refine (rfixed_any 4 (by omega) x _ (by omega) (by omega)).mono ?_; rintro e w1 ⟨v1, rfl, ho1, hb1⟩; have W1 := HWj.out.below hb1))
            go_roundw
            case rel => exact ⟨j + 1, by omega, by go_num, by rw [HTk.out]; exact W2⟩
            case measure => simp [intOf]; omega
          · have hjz : ¬ (j : Int) < M := by omega
            obtain rfl : j = M := by omega
            have hwx : IntKind.u64.wrap (j : Int) = j := by rw [IntKind.wrap_u64]; omega
            have HTk : Hid (G ++ byts 4 j = wr8 r l) := by
              show _ = _
              rw [← hG.out, List.take_of_length_le (by rw [hML.out]; exact Nat.le_refl _)]
              exact HTT.out
            have HLn : Hid (G.length + (byts 4 j).length ≤ 140737488355328) := by show _ ≤ _; rw [byts_len]; omega
            go_wp2_with (first
              | (at_builtin; refine OwnB.wpList_append rfl _ _ 23 23 rfl rfl (base := w.heap.size) (v := u5) (l := G) W1.ob i0 Try.underlying23 hi hz0 hz1 hz2 v1 rfl (byts 4 j) ho1.src W1.bel.size HLn.out ?_; intro v2 w2 ho2 hg2 hl2; have W2 := W1.bytes (AppB.grow ho2 hg2 hl2))
              | (go_at_call 65; refine (rfixed_any 4 (by omega) j _ (by omega) (by omega)).mono ?_; rintro e w1 ⟨v1, rfl, ho1, hb1⟩; have W1 := HWj.out.below hb1))
            go_ret
            refine ⟨_, rfl, ?_, W2.bel⟩
            rw [← HTk.out]; exact W2.ob
end Go.Proofs.Ytbnllobofndckaa
