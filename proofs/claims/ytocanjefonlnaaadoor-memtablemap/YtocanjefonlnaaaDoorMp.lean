import Derived.Test.YtocanjefonlnaaaDoorMr
namespace Go.Proofs.YtocanjefonlnaaaDoor
open Go.RowKit
set_option linter.unusedVariables false
set_option linter.unusedSimpArgs false
theorem fold_step {how : Int} {key : ByteArray} {d : List Rec} {i : Nat} {r : Rec} (h : d[i]? = some r) : (d.take (i + 1)).foldl (stepF how key) (⟨#[]⟩, false) = stepF how key ((d.take i).foldl (stepF how key) (⟨#[]⟩, false)) r := by
  obtain ⟨hi, rfl⟩ := List.getElem?_eq_some_iff.1 h
  rw [List.take_succ_eq_append_getElem hi, List.foldl_append]
  rfl
set_option maxRecDepth 100000 in
set_option maxHeartbeats 1000000 in
theorem map_no {w : World} (hz : Tz w) (h2 : 2 < w.heap.size) {how : Int} (h0 : ¬ how = 0) (h1 : ¬ how = 1) (a c : Option Addr) (n ca m cc : Nat) :
    Calls Tryd.prog 5 #[.int .i64 how, .slice a n ca, .slice c m cc] w fun e w' => e = .returned (.bool true) ∧ Below w.heap.size w w' := by
  have hb0 : Below w.heap.size w (w.alloc (.cells #[.int .u8 2, .int .u8 1] 5)) := (Below.refl _ _).alloc (Nat.le_refl _) _
  have HN : Hid (∀ W : World, Calls Tryd.prog 7 #[.int .i64 how, .slice (some ⟨w.heap.size, 0, none⟩) 2 2] W fun e w' => e = .returned (.tuple #[.pointer none, .int .i64 1]) ∧ w' = W) := fun W => new_no h0 h1
  have HLv : Hid (∀ W, Below w.heap.size w W → Calls Tryd.prog 9 #[] W fun e w' => e = .returned (.bool true) ∧ Below W.heap.size W w') := fun W hb => lives_any (tz_keep hz hb h2) (Nat.lt_of_lt_of_le h2 hb.size)
  have g0 : (how != 0) = true := by simpa using h0
  have g1 : (how != 1) = true := by simpa using h1
  clear hz h2 h0 h1
  go_enter Tryd.func5, Tryd.ntmps5
  go_wp2_with (first
    | (go_at_call 9; refine (HLv.out _ hb1).mono ?_; rintro e w3 ⟨rfl, b3⟩)
    | (go_at_call 7; refine (HN.out _).mono ?_; rintro e w1 ⟨rfl, hw1⟩; have hb1 : Below w.heap.size w w1 := hw1 ▸ hb0; clear hw1))
  go_ret
  exact ⟨rfl, hb1.trans (b3.mono hb1.size)⟩
set_option maxRecDepth 100000 in
set_option maxHeartbeats 4000000 in
theorem map_walk {w : World} (hz : Tz w) (h2 : 2 < w.heap.size) {how : Int} (hhow : how = 0 ∨ how = 1) {a c : Option Addr} {l : List Rec} {ks : List ByteArray} (hl : RdR w a l) (hk : RdS w c ks) (ca cc : Nat) (hll : l.length ≤ 281474976710656) (hkk : ks.length ≤ 281474976710656) :
    Calls Tryd.prog 5 #[.int .i64 how, .slice a l.length ca, .slice c ks.length cc] w fun e w' => e = .returned (.bool true) ∧ Below w.heap.size w w' := by
  have NA := new_any (rdb_21 w) (Nat.le_refl 2) (by omega) (by simp) hhow
  have HNA : Hid (Calls Tryd.prog 7 #[.int .i64 how, .slice (some ⟨w.heap.size, 0, none⟩) 2 2] (w.alloc (.cells #[.int .u8 2, .int .u8 1] 5)) fun e w' => ∃ T, e = .returned (.tuple #[ptr T, .int .i64 0]) ∧ Tb w' T (newB (w.alloc (.cells #[.int .u8 2, .int .u8 1] 5)) w') how st0 ∧ Below (w.alloc (.cells #[.int .u8 2, .int .u8 1] 5)).heap.size (w.alloc (.cells #[.int .u8 2, .int .u8 1] 5)) w' ∧ (w.alloc (.cells #[.int .u8 2, .int .u8 1] 5)).heap.size ≤ T) := NA
  have hb0 : Below w.heap.size w (w.alloc (.cells #[.int .u8 2, .int .u8 1] 5)) := (Below.refl _ _).alloc (Nat.le_refl _) _
  have HLv : Hid (∀ W, Below w.heap.size w W → Calls Tryd.prog 9 #[] W fun e w' => e = .returned (.bool true) ∧ Below W.heap.size W w') := fun W hb => lives_any (tz_keep hz hb h2) (Nat.lt_of_lt_of_le h2 hb.size)
  have HL : Hid (RdR w a l) := hl
  have HK : Hid (RdS w c ks) := hk
  have HZ : Hid (Tz w) := hz
  obtain ⟨N, hN⟩ : ∃ N, Hid (N = l.length) := ⟨_, rfl⟩
  obtain ⟨Q, hQ⟩ : ∃ Q, Hid (Q = ks.length) := ⟨_, rfl⟩
  rw [← hN.out] at hll ⊢
  rw [← hQ.out] at hkk ⊢
  clear NA hl hk hz hhow
  go_enter Tryd.func5, Tryd.ntmps5
  go_wp2_with (first
    | (go_at_call 7; refine HNA.out.mono ?_; rintro e w1 ⟨T, rfl, t1, b1', _⟩; have b1 := hb0.trans (b1'.mono (by simp))))
  have MD0 : Hid (Md w (w1.alloc (.cells #[] 36)) T how (run how l 1 0 st0) (.slice (some ⟨w1.heap.size, 0, none⟩) 0 0) (dn how l 0)) := by
    refine ⟨⟨_, t1.below ((Below.refl _ _).alloc (Nat.le_refl _) _), fun k hk => ⟨Nat.le_trans (by simp) hk.1, by have := hk.2; simp; omega⟩, fun k hk => ?_⟩, World.ownsRow_made w1 #[] 0 (Nat.zero_le _) (by unfold maxLen; omega) rfl, b1.alloc b1.size _⟩
    cases hk
    exact ⟨b1.size, fun hh => Nat.lt_irrefl _ hh.2⟩
  clear t1 b1 b1' hb0 HNA
  obtain ⟨W1, hW1⟩ : ∃ W1, W1 = w1.alloc (.cells #[] 36) := ⟨_, rfl⟩
  rw [← hW1] at MD0 ⊢
  clear hW1
  go_loopw [9, 10] (fun v i wr => ∃ (k d cp : Nat) (va : Option Addr), k ≤ N ∧ k ≤ 8192 ∧ i = .int .i64 k ∧ v = .slice va d cp ∧ Hid (d = (dn how l k).length) ∧ Hid (Md w wr T how (run how l 1 k st0) (.slice va d cp) (dn how l k))) (fun _ i _ => ((N : Int) - intOf i).toNat)
  case atStart => exact ⟨0, 0, 0, _, Nat.zero_le _, Nat.zero_le _, rfl, rfl, rfl, MD0⟩
  case round =>
    obtain ⟨k, d, cp, va, hk, hk2, rfl, rfl, HD, HT⟩ := hrel
    by_cases hgo : k < N ∧ k < 8192
    · obtain ⟨hkN, hk8⟩ := hgo
      have hkz : (k : Int) < N := by omega
      have hkz8 : (k : Int) < 8192 := by omega
      have hkl : k < l.length := by rw [← hN.out]; exact hkN
      obtain ⟨b, off, rfl, hat⟩ := HL.out.at hkl
      have HAt : Hid (∀ W, Below w.heap.size w W → RAt W b (off + k * 4) l[k]) := hat
      have hel : l[k]? = some l[k] := List.getElem?_eq_getElem hkl
      have HRun : Hid (run how l 1 (k + 1) st0 = (addM how (run how l 1 k st0) (1 + k) l[k].kind l[k].key l[k].val).2) := run_step how l 1 k st0 l[k] hel
      have HI : Hid (Inv how (run how l 1 k st0)) := run_inv how l 1 (by omega) st0 (inv_nil how) k
      have HYes : Hid ((addM how (run how l 1 k st0) (1 + k) l[k].kind l[k].key l[k].val).1 = 0 → dn how l (k + 1) = dn how l k ++ [l[k]]) := fun h => dn_yes hel h
      have HNo : Hid (¬ (addM how (run how l 1 k st0) (1 + k) l[k].kind l[k].key l[k].val).1 = 0 → dn how l (k + 1) = dn how l k) := fun h => dn_no hel h
      have hDl : (dn how l k).length ≤ k := dn_len how l k
      generalize l[k] = r at *
      generalize hst : run how l 1 k st0 = st at *
      generalize hdn : dn how l k = dd at *
      have HA1 : Hid (∀ wr, Md w wr T how st (.slice va d cp) dd → Calls Tryd.prog 12 #[ptr T, .int .u64 ((k : Int) + 1), recV r.fam r.kind r.key r.val] wr fun e w' => e = .returned (.int .i64 (addM how st (1 + k) r.kind r.key r.val).1) ∧ Md w w' T how (addM how st (1 + k) r.kind r.key r.val).2 (.slice va d cp) dd) := fun wr h => by
        rw [show (k : Int) + 1 = 1 + k by omega]; exact h.add HZ.out h2 HI.out _ _ _ _ _
      have hw0 : IntKind.i64.wrap ((k : Int) + 1) = (k : Int) + 1 := by rw [IntKind.wrap_i64]; omega
      have hw : IntKind.u64.wrap ((k : Int) + 1) = (k : Int) + 1 := by rw [IntKind.wrap_u64]; omega
      have c0 := (HAt.out wr HT.out.bel).1
      have c1 := (HAt.out wr HT.out.bel).2.1
      have c2 := (HAt.out wr HT.out.bel).2.2.1
      have c3 := (HAt.out wr HT.out.bel).2.2.2
      obtain ⟨X, hX⟩ : ∃ X, (addM how st (1 + k) r.kind r.key r.val).1 = X := ⟨_, rfl⟩
      rw [hX] at HA1 HYes HNo
      clear hX hat hst hdn hel
      by_cases hx0 : X = 0
      · have hxb : (X == 0) = true := by simp [hx0]
        have hy := HYes.out hx0
        have HY2 : Hid (dn how l (k + 1) = dd ++ [r]) := hy
        clear hy hx0 HYes HNo
        go_wp2_with (first
          | (at_builtin; have hmd := tw1; obtain ⟨v', w9, hr9, md9⟩ := (hmd.step ((Below.refl _ _).alloc (Nat.le_refl _) (.cells #[.int .u32 r.fam, .int .i64 r.kind, .string r.key, .string r.val] 36))).push (Blk.new w2 36 r.c) 43 (by omega); obtain ⟨va9, cp9, hv9⟩ := row_slice md9.row; subst hv9; refine Lib.wpList_append_run _ rfl _ _ _ _ rfl _ _ rfl rfl _ _ hr9 ?_)
          | (go_at_call 12; refine (HA1.out _ HT.out).mono ?_; rintro e w2 ⟨rfl, tw1⟩; have d0 := (HAt.out w2 tw1.bel).1; have d1 := (HAt.out w2 tw1.bel).2.1; have d2 := (HAt.out w2 tw1.bel).2.2.1; have d3 := (HAt.out w2 tw1.bel).2.2.2))
        rw [List.length_append, List.length_singleton] at md9
        refine ⟨⟨k + 1, dd.length + 1, cp9, va9, by omega, by omega, by go_num, rfl, by rw [HY2.out]; simp [Hid], by rw [HRun.out, HY2.out]; exact md9⟩, by simp [intOf]; omega⟩
      · have hxb : (X == 0) = false := by simp [hx0]
        have hy := HNo.out hx0
        have HY2 : Hid (dn how l (k + 1) = dd) := hy
        clear hy hx0 HYes HNo
        go_wp2_with (go_at_call 12; refine (HA1.out _ HT.out).mono ?_; rintro e w2 ⟨rfl, tw1⟩)
        go_roundw
        case rel => exact ⟨k + 1, d, cp, va, by omega, by omega, by go_num, rfl, by rw [HY2.out]; exact HD, by rw [HRun.out, HY2.out]; exact tw1⟩
        case measure => simp [intOf]; omega
    · have hgd : (decide ((k : Int) < N) && decide ((k : Int) < 8192)) = false := by
        rw [Bool.eq_false_iff]
        intro h
        simp at h
        exact hgo (by omega)
      have hi : Inv how (run how l 1 k st0) := run_inv how l 1 (by omega) st0 (inv_nil how) k
      have HMp : Hid (∀ key, Mp how key ((dn how l k).foldl (stepF how key) (⟨#[]⟩, false)) (run how l 1 k st0)) := fun key => (mp_run how l key k hk2).1
      have HKd : Hid (∀ r ∈ dn how l k, r.kind = 0 ∨ r.kind = 1 ∨ r.kind = 2) := (mp_run how l ⟨#[]⟩ k hk2).2
      have hDl : (dn how l k).length ≤ k := dn_len how l k
      have HI : Hid (Inv how (run how l 1 k st0)) := hi
      generalize run how l 1 k st0 = st at *
      generalize dn how l k = dd at *
      have hd8 : d ≤ 8192 := by rw [HD.out]; omega
      clear hi hDl
      have hor : ¬ ((k : Int) < N) ∨ ((k : Int) < N ∧ ¬ ((k : Int) < 8192)) := by omega
      clear hgd
      obtain ⟨W2, hW2⟩ : ∃ W2, W2 = wr := ⟨_, rfl⟩
      rw [← hW2] at HT ⊢
      clear hW2
      rcases hor with hor | ⟨hor1, hor2⟩
      all_goals
        go_wp2_with fail
        go_loopw [11] (fun q wr => ∃ j : Nat, j ≤ Q ∧ q = .int .i64 j ∧ Hid (Md w wr T how st (.slice va d cp) dd)) (fun q _ => ((Q : Int) - intOf q).toNat)
        case atStart => exact ⟨0, Nat.zero_le _, rfl, HT⟩
        case round =>
          obtain ⟨j, hj, rfl, HT2⟩ := hrel
          rcases Nat.lt_or_ge j Q with hjQ | hjQ
          · have hjz : (j : Int) < Q := by omega
            have hjl : j < ks.length := by rw [← hQ.out]; exact hjQ
            obtain ⟨kb, koff, rfl, hkat⟩ := HK.out.at hjl
            have HKat : Hid (∀ W : World, Below w.heap.size w W → W.cell? ⟨kb, koff + j, none⟩ = some (.string ks[j])) := hkat
            generalize ks[j] = key at *
            clear hkat
            go_wp2_with fail
            obtain ⟨W3, hW3⟩ : ∃ W3, W3 = wr := ⟨_, rfl⟩
            rw [← hW3] at HT2 ⊢
            clear hW3
            go_loopw [12, 13, 14] (fun s12 s13 s14 wr => ∃ (i : Nat) (av : ByteArray) (ab : Bool), i ≤ d ∧ s12 = .string av ∧ s13 = .bool ab ∧ s14 = .int .i64 i ∧ Hid ((dd.take i).foldl (stepF how key) (⟨#[]⟩, false) = (av, ab)) ∧ Hid (Md w wr T how st (.slice va d cp) dd)) (fun _ _ s14 _ => ((d : Int) - intOf s14).toNat)
            case atStart => exact ⟨0, _, _, Nat.zero_le _, rfl, rfl, rfl, rfl, HT2⟩
            case round =>
              obtain ⟨i, av, ab, hi, rfl, rfl, rfl, HF, HT3⟩ := hrel
              rcases Nat.lt_or_ge i d with hid | hid
              · have hiz : (i : Int) < d := by omega
                obtain ⟨g, rfl, hrat⟩ : ∃ g, va = some ⟨g, 0, none⟩ ∧ ∀ (j : Nat) (r : Rec), dd[j]? = some r → RAt wr g (j * 4) r := by
                  have hro := HT3.out.row
                  rcases hro.2 with ⟨h1, h2⟩ | ⟨g', cap', cur, h1, _⟩
                  · have := HD.out; omega
                  · cases h1; exact ⟨g', rfl, fun j r hj => row_rat hro j r hj⟩
                obtain ⟨r, hr⟩ : ∃ r, dd[i]? = some r := ⟨dd[i]'(by rw [← HD.out]; exact hid), List.getElem?_eq_getElem _⟩
                have RA := hrat i r hr
                have c0 := RA.1
                have c1 := RA.2.1
                have c2 := RA.2.2.1
                have c3 := RA.2.2.2
                have HFs : Hid ((dd.take (i + 1)).foldl (stepF how key) (⟨#[]⟩, false) = stepF how key (av, ab) r) := by show _ = _; rw [fold_step hr, HF.out]
                have hkd := HKd.out r (List.mem_of_getElem? hr)
                -- the box
                have BX : Blk (wr.alloc (.cells #[.int .u32 r.fam, .int .i64 r.kind, .string r.key, .string r.val] 36)) wr.heap.size 36 r.c := Blk.new wr 36 r.c
                have HT4 : Hid (Md w (wr.alloc (.cells #[.int .u32 r.fam, .int .i64 r.kind, .string r.key, .string r.val] 36)) T how st (.slice (some ⟨g, 0, none⟩) d cp) dd) := HT3.out.step ((Below.refl _ _).alloc (Nat.le_refl _) _)
                have kc := HKat.out _ HT4.out.bel
                have e1 := BX.cell1 1 _ rfl
                have e2 := BX.cell1 2 _ rfl
                have e3 := BX.cell1 3 _ rfl
                clear RA hrat hr BX
                go_upto_region 18 with fail
                clear c0 c1 c2 c3
                generalize wr.alloc (.cells #[.int .u32 r.fam, .int .i64 r.kind, .string r.key, .string r.val] 36) = W5 at *
                generalize wr.heap.size = X at *
                rcases hkd with hkd | hkd | hkd
                · -- Delete
                  have hk1 : (r.kind == 1) = false := by simp [hkd]
                  have hk0 : (r.kind == 0) = true := by simp [hkd]
                  cases ab with
                  | false =>
                    have HS : Hid (stepF how key (av, false) r = (av, false)) := by show _ = _; unfold stepF; rw [if_neg (by omega), if_pos hkd]; simp
                    clear hkd
                    go_wp2_with fail
                    first | go_quiet (fail) | go_big_quiet (fail)
                    go_wp2_with fail
                    go_roundw
                    case rel => exact ⟨i + 1, av, false, by omega, rfl, rfl, by go_num, by rw [HFs.out, HS.out]; rfl, HT4.out.step (belN (Below.refl _ _) _)⟩
                    case measure => simp [intOf]; omega
                  | true =>
                    by_cases hu : r.key = key
                    · have hub : (r.key.toList == key.toList) = true := by rw [bytes_beq]; simp [hu]
                      have hub2 : (r.key.toList != key.toList) = false := by rw [bne, hub]; rfl
                      have HS : Hid (stepF how key (av, true) r = (av, false)) := by show _ = _; unfold stepF; rw [if_neg (by omega), if_pos hkd]; simp [hu]
                      clear hkd hu
                      go_wp2_with fail
                      go_big_quiet (fail)
                      go_wp2_with fail
                      go_roundw
                      case rel => exact ⟨i + 1, av, false, by omega, rfl, rfl, by go_num, by rw [HFs.out, HS.out]; rfl, HT4.out.step (belN (Below.refl _ _) _)⟩
                      case measure => simp [intOf]; omega
                    · have hub : (r.key.toList == key.toList) = false := by rw [bytes_beq]; simp [hu]
                      have hub2 : (r.key.toList != key.toList) = true := by rw [bne, hub]; rfl
                      have HS : Hid (stepF how key (av, true) r = (av, true)) := by show _ = _; unfold stepF; rw [if_neg (by omega), if_pos hkd]; simp [hu]
                      clear hkd hu
                      go_wp2_with fail
                      go_big_quiet (fail)
                      go_wp2_with fail
                      go_roundw
                      case rel => exact ⟨i + 1, av, true, by omega, rfl, rfl, by go_num, by rw [HFs.out, HS.out]; rfl, HT4.out.step (belN (Below.refl _ _) _)⟩
                      case measure => simp [intOf]; omega
                · -- Put
                  have hk1 : (r.kind == 1) = true := by simp [hkd]
                  by_cases hu : r.key = key
                  · have hub : (r.key.toList == key.toList) = true := by rw [bytes_beq]; simp [hu]
                    have HS : Hid (stepF how key (av, ab) r = (r.val, true)) := by show _ = _; unfold stepF; rw [if_pos hkd, if_pos hu]
                    clear hkd hu
                    go_wp2_with fail
                    go_region
                    go_wp2_with fail
                    go_roundw
                    case rel => exact ⟨i + 1, r.val, true, by omega, rfl, rfl, by go_num, by rw [HFs.out, HS.out]; rfl, HT4.out.step ((Below.refl _ _).drew)⟩
                    case measure => simp [intOf]; omega
                  · have hub : (r.key.toList == key.toList) = false := by rw [bytes_beq]; simp [hu]
                    have HS : Hid (stepF how key (av, ab) r = (av, ab)) := by show _ = _; unfold stepF; rw [if_pos hkd, if_neg hu]
                    clear hkd hu
                    go_wp2_with fail
                    go_region
                    go_wp2_with fail
                    go_roundw
                    case rel => exact ⟨i + 1, av, ab, by omega, rfl, rfl, by go_num, by rw [HFs.out, HS.out]; rfl, HT4.out.step ((Below.refl _ _).drew)⟩
                    case measure => simp [intOf]; omega
                · -- RangeDelete
                  have hk1 : (r.kind == 1) = false := by simp [hkd]
                  have hk0 : (r.kind == 0) = false := by simp [hkd]
                  have hk2' : (r.kind == 2) = true := by simp [hkd]
                  cases ab with
                  | false =>
                    have HS : Hid (stepF how key (av, false) r = (av, false)) := by show _ = _; unfold stepF; rw [if_neg (by omega), if_neg (by omega), if_pos hkd]; simp
                    clear hkd
                    go_wp2_with fail
                    first | go_quiet (fail) | go_big_quiet (fail)
                    go_wp2_with fail
                    go_roundw
                    case rel => exact ⟨i + 1, av, false, by omega, rfl, rfl, by go_num, by rw [HFs.out, HS.out]; rfl, HT4.out.step (belN (Below.refl _ _) _)⟩
                    case measure => simp [intOf]; omega
                  | true =>
                    by_cases g1 : cmpH how r.key key ≤ 0
                    · by_cases g2 : cmpH how key r.val < 0
                      · have HS : Hid (stepF how key (av, true) r = (av, false)) := by show _ = _; unfold stepF; rw [if_neg (by omega), if_neg (by omega), if_pos hkd]; simp [g1, g2]
                        clear hkd
                        go_wp2_with fail
                        go_big_quiet ((go_at_call 14; exact Calls.quiet_of_same (rcmp_any _ _ _ _)))
                        go_wp2_with fail
                        go_roundw
                        case rel => exact ⟨i + 1, av, false, by omega, rfl, rfl, by go_num, by rw [HFs.out, HS.out]; rfl, HT4.out.step (belN (Below.refl _ _) _)⟩
                        case measure => simp [intOf]; omega
                      · have HS : Hid (stepF how key (av, true) r = (av, true)) := by show _ = _; unfold stepF; rw [if_neg (by omega), if_neg (by omega), if_pos hkd]; simp [g1, g2]
                        have g2d : decide (cmpH how key r.val < 0) = false := decide_eq_false g2
                        clear hkd
                        go_wp2_with fail
                        go_big_quiet ((go_at_call 14; exact Calls.quiet_of_same (rcmp_any _ _ _ _)))
                        go_wp2_with fail
                        go_roundw
                        case rel => exact ⟨i + 1, av, true, by omega, rfl, rfl, by go_num, by rw [HFs.out, HS.out]; rfl, HT4.out.step (belN (Below.refl _ _) _)⟩
                        case measure => simp [intOf]; omega
                    · have HS : Hid (stepF how key (av, true) r = (av, true)) := by show _ = _; unfold stepF; rw [if_neg (by omega), if_neg (by omega), if_pos hkd]; simp [g1]
                      have g1d : decide (cmpH how r.key key ≤ 0) = false := decide_eq_false g1
                      clear hkd
                      go_wp2_with fail
                      go_big_quiet ((go_at_call 14; exact Calls.quiet_of_same (rcmp_any _ _ _ _)))
                      go_wp2_with fail
                      go_roundw
                      case rel => exact ⟨i + 1, av, true, by omega, rfl, rfl, by go_num, by rw [HFs.out, HS.out]; rfl, HT4.out.step (belN (Below.refl _ _) _)⟩
                      case measure => simp [intOf]; omega
              · have hiz : ¬ ((i : Int) < d) := by omega
                have HF2 : Hid (dd.foldl (stepF how key) (⟨#[]⟩, false) = (av, ab)) := by have := HF.out; rw [List.take_of_length_le (by rw [← HD.out]; exact hid)] at this; exact this
                have hmp := HMp.out key
                rw [HF2.out] at hmp
                have hg := mp_get hmp HI.out
                obtain ⟨G, hG⟩ : ∃ G, Hid (gV (look st.E key topS) (ovS how key topS st.R) = G) := ⟨_, rfl⟩
                have HG1 : Hid (∀ wr, Md w wr T how st (.slice va d cp) dd → Calls Tryd.prog 13 #[ptr T, .string key, .int .u64 72057594037927935] wr fun e w' => e = .returned (gv G) ∧ Md w w' T how st (.slice va d cp) dd) := fun wr h => by rw [← hG.out]; exact h.get HI.out key topS
                rw [hG.out] at hg
                obtain ⟨g1, g2, g3⟩ := G
                have hc := HKat.out wr HT3.out.bel
                have hgab : (g3 && (g2 == 1)) = ab := hg.1
                have hgv : ab = true → g1 = av := hg.2
                clear hg hmp hG
                cases ab with
                | true =>
                  obtain rfl := hgv rfl
                  cases g3 with
                  | false => simp at hgab
                  | true =>
                    have hg2 : (g2 == 1) = true := by simpa using hgab
                    clear hgab hgv
                    go_wp2_with (go_at_call 13; refine (HG1.out _ HT3.out).mono ?_; rintro e w3 ⟨rfl, tw2⟩)
                    go_roundw
                    case rel => exact ⟨j + 1, by omega, by go_num, tw2⟩
                    case measure => simp [intOf]; omega
                | false =>
                  clear hgv
                  cases g3 with
                  | false =>
                    clear hgab
                    go_wp2_with (go_at_call 13; refine (HG1.out _ HT3.out).mono ?_; rintro e w3 ⟨rfl, tw2⟩)
                    go_roundw
                    case rel => exact ⟨j + 1, by omega, by go_num, tw2⟩
                    case measure => simp [intOf]; omega
                  | true =>
                    have hg2 : (g2 == 1) = false := by simpa using hgab
                    clear hgab
                    go_wp2_with (go_at_call 13; refine (HG1.out _ HT3.out).mono ?_; rintro e w3 ⟨rfl, tw2⟩)
                    go_roundw
                    case rel => exact ⟨j + 1, by omega, by go_num, tw2⟩
                    case measure => simp [intOf]; omega
          · have hjz : ¬ ((j : Int) < Q) := by omega
            have HL9 := HLv.out wr HT2.out.bel
            go_wp2_with (go_at_call 9; refine HL9.mono ?_; rintro e w5 ⟨rfl, b5⟩)
            go_ret
            exact ⟨rfl, HT2.out.bel.trans (b5.mono HT2.out.bel.size)⟩
end Go.Proofs.YtocanjefonlnaaaDoor
