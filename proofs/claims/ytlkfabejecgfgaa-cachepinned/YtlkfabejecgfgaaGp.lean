import Derived.Test.YtlkfabejecgfgaaGb
import Derived.Deep.DeepCutAuto
namespace Go.Proofs.Ytlkfabejecgfgaa
open Go.RowKit Go.Maps
set_option linter.unusedVariables false
set_option linter.unusedSimpArgs false
theorem new_exc {n room : Nat} {st : Bool} {k : List UInt8} (h1 : 1 ≤ n) (h : excX ((newC n room st).rm ((newC n room st).ix k) 1) 1 (newC n room st).r = true) : room / n < 1 := by
  have hx : (newC n room st).x ((newC n room st).ix k) = x0 := by
    have hl : (newC n room st).ix k < n := by
      have := shd_lt (n := (newC n room st).xs.length) (by simpa [newC] using h1) k
      simpa [newC, Cs.ix] using this
    refine xs_get ?_
    show (List.replicate n x0)[(newC n room st).ix k]? = some x0
    rw [List.getElem?_replicate, if_pos hl]
  unfold Cs.rm at h
  rw [hx] at h
  have : roomX 1 (newC n room st).r x0.q.length x0 = x0 := rfl
  rw [this] at h
  unfold excX at h
  have h2 := of_decide_eq_true h
  have h3 : plusT 1 (tolT x0.us) = 1 := rfl
  rw [h3] at h2
  exact h2
theorem new_pd {n room : Nat} {st : Bool} {k : ByteArray} {z : Value} (h0 : (putC (newC n room st) k z 1).2.1 = 0) (h1 : 1 ≤ n) : ∃ ij, Pd (putC (newC n room st) k z 1).2.2 ij z := by
  have hl : (newC n room st).ix k.data.toList < n := by
    have := shd_lt (n := (newC n room st).xs.length) (by simpa [newC] using h1) k.data.toList
    simpa [newC, Cs.ix] using this
  have hi : (newC n room st).xs[(newC n room st).ix k.data.toList]? = some x0 := by
    show (List.replicate n x0)[(newC n room st).ix k.data.toList]? = some x0
    rw [List.getElem?_replicate, if_pos hl]
  have hx : (newC n room st).rm ((newC n room st).ix k.data.toList) 1 = x0 := by
    unfold Cs.rm; rw [xs_get hi]; rfl
  unfold putC at h0 ⊢
  split at h0
  · cases h0
  · rename_i hk
    rw [if_neg hk]
    split at h0
    · cases h0
    · rename_i he
      rw [if_neg he]
      refine ⟨((newC n room st).ix k.data.toList, 0), ?_, ?_⟩
      · simp only [hx]
        rfl
      · simp only [hx]
        unfold vat
        have h3 : (((newC n room st).setx ((newC n room st).ix k.data.toList) (putX x0 k z 1)).give ((newC n room st).ix k.data.toList, x0.ent.length)).x ((newC n room st).ix k.data.toList) = putX x0 k z 1 := by
          refine xs_get ?_
          show ((newC n room st).xs.set ((newC n room st).ix k.data.toList) (putX x0 k z 1))[(newC n room st).ix k.data.toList]? = _
          rw [xget hi, if_pos rfl]
        rw [h3, (iv0.put k z 1).2]
        rfl
theorem k_value {w0 w : World} {L : Lo} {s : Cs} (K : K0 w0 w L s) {ij : Nat × Nat} {v : Value} (h : Pd s ij v) :
    Calls Try.prog 21 #[.pointer (some ⟨L.cb, 0, none⟩), .int .i64 1] w fun r w' => r = .returned (.tuple #[v, .int .i64 0]) ∧ w' = w := by
  have hv := h.v
  unfold vat at hv
  obtain ⟨i, j⟩ := ij
  obtain ⟨x, hx, hj⟩ := K.ci.pr i j (List.mem_of_getElem? h.p)
  rw [xs_get hx] at hv
  simp only [] at hv
  cases he : x.ent[j]? with
  | none => rw [he] at hv; cases hv
  | some e =>
    rw [he] at hv
    simp at hv
    rw [← hv]
    exact value_some K.ca (by unfold I64; omega) h.pin hx he
set_option maxRecDepth 100000 in
set_option maxHeartbeats 8000000 in
theorem pinned_walk (HLv : ∀ w, Calls Try.prog 9 #[] w fun e w' => e = .returned (.bool true) ∧ Below w.heap.size w w') (w : World) {n : Int} {room : Nat} (hr : room < 18446744073709551616) {st : Bool} {key : ByteArray} (hk : key.size ≤ maxLen) (hn : I64 n) (v : Value) (xs : List Ac) (h : RdA w v xs) (hok : ∀ x ∈ xs, AcOk x) (hln : xs.length ≤ 3000000000000) :
    Calls Try.prog 5 #[.agg #[.int .i64 n, .int .u64 room, .bool st], .string key, v] w fun e w' => e = .returned (.bool true) ∧ Below w.heap.size w w' := by
  obtain ⟨a, c, rfl⟩ := h.len
  obtain ⟨W1, hW1⟩ : ∃ W, w.alloc (.cells #[.int .i64 n, .int .u64 room, .bool st] 24) = W := ⟨_, rfl⟩
  have B1 : Below w.heap.size w W1 := by rw [← hW1]; exact (Below.refl _ w).alloc (Nat.le_refl _) _
  have F1 : Blk W1 w.heap.size 24 [.int .i64 n, .int .u64 room, .bool st] := by rw [← hW1]; exact Blk.new w 24 _
  have g0 := F1.cell1 0 _ rfl
  have g1 := F1.cell1 1 _ rfl
  have g2 := F1.cell1 2 _ rfl
  by_cases hv : n < 1 ∨ 64 < n
  · have HN := new_no W1 hv (room := room) (st := st)
    clear hln hok h hv
    go_enter Try.func5, Try.ntmps5
    go_wp2_with (first
      | (go_at_call 7; refine HN.mono ?_; rintro e w2 ⟨rfl, hw⟩; have hw' := hw.symm; subst hw')
      | (go_at_call 9; refine (HLv _).mono ?_; rintro e w3 ⟨rfl, hb3⟩))
    go_ret
    exact ⟨rfl, B1.trans (hb3.mono B1.size)⟩
  · obtain ⟨m, rfl⟩ : ∃ m : Nat, n = m := ⟨n.toNat, by omega⟩
    have h1 : 1 ≤ m := by omega
    have h2 : m ≤ 64 := by omega
    have HN := k_new W1 h1 h2 hr (st := st)
    rcases put_ways (newC m room st) key (.int .u64 4711) 1 with ⟨hp1, hp2, hp3⟩ | ⟨hp1, hp2, hp3, hp4, hp5⟩ | ⟨hp1, hp2, hp3, hp4⟩
    · have hp2' : (1024 : Int) < key.size := by omega
      go_enter Try.func5, Try.ntmps5
      go_wp2_with (first
        | (go_at_call 7; refine HN.mono ?_; rintro e w2 ⟨L, rfl, K2⟩
           have HP := k_put K2 (k := key) (z := 4711) (ch := 1) (by omega) hk (by simp [newC])
           rw [hp1] at HP
           clear HN)
        | (go_at_call 14; refine HP.mono ?_; rintro e w3 ⟨rfl, L3, K3, _, _, _⟩; clear HP)
        | (go_at_call 9; refine (HLv _).mono ?_; rintro e w4 ⟨rfl, hb4⟩))
      go_ret
      exact ⟨rfl, B1.trans ((K3.bel.mono B1.size).trans (hb4.mono (Nat.le_trans B1.size K3.bel.size)))⟩
    · have hp6 := new_exc h1 hp4
      have hst : st = true := hp3
      subst hst
      have hdv : ((room : Nat) : Int).tdiv (m : Nat) = 0 := by
        have : ((room : Nat) : Int).tdiv (m : Nat) = ((room / m : Nat) : Int) := rfl
        rw [this, Nat.lt_one_iff.1 hp6]; rfl
      have hp2' : ¬ (1024 : Int) < key.size := by omega
      clear hp4 hp5 hp3 hp2
      go_enter Try.func5, Try.ntmps5
      go_wp2_with (first
        | (go_at_call 7; refine HN.mono ?_; rintro e w2 ⟨L, rfl, K2⟩
           have HP := k_put K2 (k := key) (z := 4711) (ch := 1) (by omega) hk (by simp [newC])
           rw [hp1] at HP
           clear HN)
        | (go_at_call 14; refine HP.mono ?_; rintro e w3 ⟨rfl, L3, K3, _, _, _⟩
           have F3 := F1.upd (S := Non) (Upd.ofBelow K3.bel) (fun e => e)
           have k0 := F3.cell1 0 _ rfl
           have k1 := F3.cell1 1 _ rfl
           have k2 := F3.cell1 2 _ rfl
           clear HP)
        | (go_at_call 9; refine (HLv _).mono ?_; rintro e w4 ⟨rfl, hb4⟩))
      go_ret
      exact ⟨rfl, B1.trans ((K3.bel.mono B1.size).trans (hb4.mono (Nat.le_trans B1.size K3.bel.size)))⟩
    · obtain ⟨ij, hpd⟩ := new_pd hp1 h1
      have hp3' : (putC (newC m room st) key (.int .u64 4711) 1).1 = 1 := by rw [hp3]; rfl
      have hp4' : (putC (newC m room st) key (.int .u64 4711) 1).2.2.P.length = 1 := by rw [hp4]; rfl
      clear hp3 hp4 hp2
      go_enter Try.func5, Try.ntmps5
      go_wp2_with (first
        | (go_at_call 7; refine HN.mono ?_; rintro e w2 ⟨L, rfl, K2⟩
           have HP := k_put K2 (k := key) (z := 4711) (ch := 1) (by omega) hk (by simp [newC])
           rw [hp1, hp3'] at HP
           clear HN)
        | (go_at_call 14; refine HP.mono ?_; rintro e w3 ⟨rfl, L3, K3, hcb, _, _⟩; clear HP))
      clear g0 g1 g2 hW1 hp3' hp1
      generalize putC (newC m room st) key (.int .u64 4711) 1 = r3 at *
      obtain ⟨r1, r2, s3⟩ := r3
      simp only [] at hpd hp4' K3
      generalize L.cb = cb at *
      clear K2
      go_loopw [11] (fun i wr => ∃ (k : Nat) (L : Lo) (s : Cs), i = .int .i64 k ∧ k ≤ xs.length ∧ L.cb = cb ∧ K0 W1 wr L s ∧ Pd s ij (.int .u64 4711) ∧ s.P.length ≤ k + 1) (fun i _ => match i with | .int _ z => xs.length - z.toNat | _ => 0)
      case atStart => exact ⟨0, L3, s3, rfl, Nat.zero_le _, hcb, K3, hpd, by omega⟩
      case round =>
        clear K3 hpd hcb hp4'
        obtain ⟨k, L, s, rfl, hkl, hcb, K, hpd, hP⟩ := hrel
        by_cases hlt : k < xs.length
        · have hlt' : (k : Int) < (xs.length : Int) := by omega
          obtain ⟨bb, off, cap, e, hbl, hat⟩ := h.at hlt
          cases e
          have hx := hok _ (List.getElem_mem hlt)
          have hat2 := hat.below hbl (B1.trans (K.bel.mono B1.size))
          clear hat
          generalize xs[k] = x at *
          obtain ⟨ak, pn, ky, vv, nn⟩ := x
          obtain ⟨o1, o2, o3, o4, o5, o6⟩ := hx
          obtain ⟨a0, a1, a2, a3, a4⟩ := hat2
          dsimp only at *
          obtain ⟨w1, hw1⟩ : ∃ W, wr.alloc (.cells #[.int .i64 ak, .int .i64 pn, .string ky, .int .u64 vv, .int .u64 nn] 36) = W := ⟨_, rfl⟩
          have U1 : Upd Non wr w1 := by rw [← hw1]; exact (Upd.refl _ _).alloc _
          have X1 : Blk w1 wr.heap.size 36 [.int .i64 ak, .int .i64 pn, .string ky, .int .u64 vv, .int .u64 nn] := by rw [← hw1]; exact Blk.new wr 36 _
          have K1 : K0 W1 w1 L s := K.upd U1 (fun _ _ e => e) (fun _ e => e.elim)
          have hbx : ∀ a, Cb L s a → a ≠ wr.heap.size := fun a ha e => by have := K.ca.lt ha; omega
          have b0 := X1.cell1 0 _ rfl
          have b1 := X1.cell1 1 _ rfl
          have b2 := X1.cell1 2 _ rfl
          have b3 := X1.cell1 3 _ rfl
          have b4 := X1.cell1 4 _ rfl
          clear K U1
          have hP' : s.P.length < 1152921504606846976 := by omega
          go_upto_region 13 with fail
          clear hw1 a0 a1 a2 a3 a4
          by_cases z0 : ak = 0
          · subst z0
            have HP := k_put K1 (k := ky) (z := vv) (ch := nn) o6 o3 hP'
            have hpd2 := hpd.put K1.ci ky (.int .u64 vv) nn
            rw [hcb] at HP
            rcases put_ways s ky (.int .u64 vv) nn with ⟨q1, q2, q3⟩ | ⟨q1, q2, q3, q4, q5⟩ | ⟨q1, q2, q3, q4⟩
            · rw [q1] at HP
              have q6 : (putC s ky (.int .u64 vv) nn).2.2.P.length ≤ k + 1 + 1 := by rw [q3]; omega
              clear q3 q2
              generalize putC s ky (.int .u64 vv) nn = r at *
              obtain ⟨r1, r2, s2⟩ := r
              dsimp only at *
              go_wp2_with (first
                | (go_at_call 14; refine HP.mono ?_; rintro e w2 ⟨rfl, L2, K2, hcb2, U2, _⟩
                   have HV := k_value K2 hpd2
                   rw [hcb2] at HV
                   have c1 := (X1.upd U2 (fun e => hbx _ e rfl)).cell1 1 _ rfl
                   clear HP)
                | (go_at_call 21; refine HV.mono ?_; rintro e w4 ⟨rfl, hw⟩; have hw' := hw.symm; subst hw'))
              go_roundw
              case rel => exact ⟨k + 1, L2, s2, by go_num, hlt, hcb2, K2, hpd2, q6⟩
              case measure => simp only []; omega
            · rw [q1] at HP
              have q6 : (putC s ky (.int .u64 vv) nn).2.2.P.length ≤ k + 1 + 1 := by rw [q5]; omega
              clear q2 q3 q4 q5
              generalize putC s ky (.int .u64 vv) nn = r at *
              obtain ⟨r1, r2, s2⟩ := r
              dsimp only at *
              go_wp2_with (first
                | (go_at_call 14; refine HP.mono ?_; rintro e w2 ⟨rfl, L2, K2, hcb2, U2, _⟩
                   have HV := k_value K2 hpd2
                   rw [hcb2] at HV
                   have c1 := (X1.upd U2 (fun e => hbx _ e rfl)).cell1 1 _ rfl
                   clear HP)
                | (go_at_call 21; refine HV.mono ?_; rintro e w4 ⟨rfl, hw⟩; have hw' := hw.symm; subst hw'))
              go_roundw
              case rel => exact ⟨k + 1, L2, s2, by go_num, hlt, hcb2, K2, hpd2, q6⟩
              case measure => simp only []; omega
            · have hge : 1 ≤ s.P.length := (List.getElem?_eq_some_iff.1 hpd.p).1
              rw [q1, q3] at HP
              have q6 : (putC s ky (.int .u64 vv) nn).2.2.P.length ≤ k + 1 + 1 := by rw [q4]; omega
              clear q2 q3 q4 q1
              generalize putC s ky (.int .u64 vv) nn = r at *
              obtain ⟨r1, r2, s2⟩ := r
              dsimp only at *
              obtain ⟨pp, hpp⟩ : ∃ pp : Int, pp = (s.P.length : Int) + 1 := ⟨_, rfl⟩
              have hpp2 : 2 ≤ pp := by omega
              have hppI : I64 pp := by unfold I64; omega
              rw [← hpp] at HP
              clear hpp
              by_cases hz : pn.tmod 2 = 0
              · go_wp2_with (first
                  | (go_at_call 14; refine HP.mono ?_; rintro e w2 ⟨rfl, L2, K2, hcb2, U2, _⟩
                     have HF := k_free K2 hppI
                     rw [hcb2] at HF
                     have hpd3 := hpd2.free K2.ci hpp2
                     have c1 := (X1.upd U2 (fun e => hbx _ e rfl)).cell1 1 _ rfl
                     clear HP)
                  | (go_at_call 16; refine HF.mono ?_; rintro e w3 ⟨rfl, K3, U3⟩
                     have HV := k_value K3 hpd3
                     rw [hcb2] at HV
                     clear HF)
                  | (go_at_call 21; refine HV.mono ?_; rintro e w4 ⟨rfl, hw⟩; have hw' := hw.symm; subst hw'))
                go_roundw
                case rel => exact ⟨k + 1, L2, _, by go_num, hlt, hcb2, K3, hpd3, by rw [free_P]; exact q6⟩
                case measure => simp only []; omega
              · go_wp2_with (first
                  | (go_at_call 14; refine HP.mono ?_; rintro e w2 ⟨rfl, L2, K2, hcb2, U2, _⟩
                     have HV := k_value K2 hpd2
                     rw [hcb2] at HV
                     have c1 := (X1.upd U2 (fun e => hbx _ e rfl)).cell1 1 _ rfl
                     clear HP)
                  | (go_at_call 21; refine HV.mono ?_; rintro e w4 ⟨rfl, hw⟩; have hw' := hw.symm; subst hw'))
                go_roundw
                case rel => exact ⟨k + 1, L2, s2, by go_num, hlt, hcb2, K2, hpd2, q6⟩
                case measure => simp only []; omega
          · by_cases z1 : ak = 1
            · subst z1
              have HP := k_get K1 (k := ky) o3 hP'
              have hpd2 := hpd.get K1.ci ky.data.toList
              have q6 := get_P s ky.data.toList
              rw [hcb] at HP
              generalize getC s ky.data.toList = r at *
              obtain ⟨r1, r2, r3, s2⟩ := r
              dsimp only at *
              go_wp2_with (first
                | (go_at_call 18; refine HP.mono ?_; rintro e w2 ⟨rfl, K2, U2⟩
                   have HV := k_value K2 hpd2
                   rw [hcb] at HV
                   clear HP)
                | (go_at_call 21; refine HV.mono ?_; rintro e w4 ⟨rfl, hw⟩; have hw' := hw.symm; subst hw'))
              go_roundw
              case rel => exact ⟨k + 1, L, s2, by go_num, hlt, hcb, K2, hpd2, by omega⟩
              case measure => simp only []; omega
            · by_cases z4 : ak = 4
              · subst z4
                have HP := k_drop K1 (k := ky) o3
                have hpd2 := hpd.drop K1.ci ky.data.toList
                have q6 := drop_P s ky.data.toList
                rw [hcb] at HP
                generalize dropC s ky.data.toList = r at *
                obtain ⟨r1, s2⟩ := r
                dsimp only at *
                go_wp2_with (first
                  | (go_at_call 19; refine HP.mono ?_; rintro e w2 ⟨rfl, K2, U2⟩
                     have HV := k_value K2 hpd2
                     rw [hcb] at HV
                     clear HP)
                  | (go_at_call 21; refine HV.mono ?_; rintro e w4 ⟨rfl, hw⟩; have hw' := hw.symm; subst hw'))
                go_roundw
                case rel => exact ⟨k + 1, L, s2, by go_num, hlt, hcb, K2, hpd2, by rw [q6]; omega⟩
                case measure => simp only []; omega
              · by_cases z5 : ak = 5
                · subst z5
                  have HP := k_room K1 o6
                  have hpd2 := hpd.room K1.ci nn
                  have q6 : (roomC s nn).P = s.P := rfl
                  rw [hcb] at HP
                  generalize roomC s nn = s2 at *
                  go_wp2_with (first
                    | (go_at_call 20; refine HP.mono ?_; rintro e w2 ⟨rfl, K2, U2⟩
                       have HV := k_value K2 hpd2
                       rw [hcb] at HV
                       clear HP)
                    | (go_at_call 21; refine HV.mono ?_; rintro e w4 ⟨rfl, hw⟩; have hw' := hw.symm; subst hw'))
                  go_roundw
                  case rel => exact ⟨k + 1, L, s2, by go_num, hlt, hcb, K2, hpd2, by rw [q6]; omega⟩
                  case measure => simp only []; omega
                · have HV := k_value K1 hpd
                  rw [hcb] at HV
                  go_wp2_with (go_at_call 21; refine HV.mono ?_; rintro e w4 ⟨rfl, hw⟩; have hw' := hw.symm; subst hw')
                  go_roundw
                  case rel => exact ⟨k + 1, L, s, by go_num, hlt, hcb, K1, hpd, by omega⟩
                  case measure => simp only []; omega
        · have hlt' : (k : Int) = (xs.length : Int) := by omega
          obtain rfl : k = xs.length := by omega
          have HF := k_free K (p := 1) (by unfold I64; omega)
          have hf1 : (freeC s 1).1 = 0 := by unfold freeC; rw [hpd.pin]
          have hf2 : (freeC s 1).2.pin 1 = none := by
            unfold freeC
            rw [hpd.pin]
            unfold Cs.pin
            rw [if_pos (by omega)]
            show (s.P.set ((1 : Int) - 1).toNat none).getD ((1 : Int) - 1).toNat none = none
            rw [List.getD_eq_getElem?_getD, List.getElem?_set_self (by have := (List.getElem?_eq_some_iff.1 hpd.p).1; simpa using this)]
            rfl
          rw [hf1] at HF
          generalize (freeC s 1).2 = s4 at *
          have hf3 : (freeC s4 1).1 = 111 := by unfold freeC; rw [hf2]
          rw [hcb] at HF
          go_wp2_with (first
            | (go_at_call 16; have hq := HG; clear hq; refine HG.mono ?_; rintro e w5 ⟨rfl, K5, _⟩; clear HG)
            | (go_at_call 16; refine HF.mono ?_; rintro e w4 ⟨rfl, K4, _⟩
               have HG := k_free K4 (p := 1) (by unfold I64; omega)
               rw [hf3, hcb] at HG)
            | (go_at_call 9; refine (HLv _).mono ?_; rintro e w6 ⟨rfl, hb6⟩))
          go_ret
          exact ⟨rfl, B1.trans ((K5.bel.mono B1.size).trans (hb6.mono (Nat.le_trans B1.size K5.bel.size)))⟩
end Go.Proofs.Ytlkfabejecgfgaa
