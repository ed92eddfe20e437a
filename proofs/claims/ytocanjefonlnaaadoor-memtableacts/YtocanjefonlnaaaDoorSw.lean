import Derived.Test.YtocanjefonlnaaaDoorSe
namespace Go.Proofs.YtocanjefonlnaaaDoor
open Go.RowKit
set_option linter.unusedVariables false
set_option linter.unusedSimpArgs false
theorem RdR.at {w : World} {a : Option Addr} {l : List Rec} (h : RdR w a l) {k : Nat} (hk : k < l.length) : ∃ b off, a = some ⟨b, off, none⟩ ∧ ∀ W : World, Below w.heap.size w W → RAt W b (off + k * 4) l[k] := by
  rcases h with rfl | ⟨b, off, rfl, hb, hc⟩
  · simp at hk
  · refine ⟨b, off, rfl, fun W hB => ?_⟩
    obtain ⟨h0, h1, h2, h3⟩ := hc k l[k] (List.getElem?_eq_getElem hk)
    exact ⟨keepc hB h0, keepc hB h1, keepc hB h2, keepc hB h3⟩
theorem rdb_123 (w : World) : RdB (w.alloc (.cells #[.int .u8 1, .int .u8 2, .int .u8 3] 5)) (.slice (some ⟨w.heap.size, 0, none⟩) 3 3) [1, 2, 3] := by
  refine .inr ⟨w.heap.size, 0, 3, rfl, by simp, fun j u hj => ?_⟩
  rw [add_at, Nat.zero_add, World.cell?_alloc_at (w := w) _ _ w.heap.size j rfl]
  simpa [bc] using hj
set_option maxRecDepth 100000 in
set_option maxHeartbeats 2000000 in
theorem sees_walk {w : World} (hz : Tz w) (h2 : 2 < w.heap.size) {a c : Option Addr} {l m : List Rec} (hl : RdR w a l) (hm : RdR w c m) (ca cc : Nat) (key : ByteArray) (hll : l.length ≤ 281474976710656) (hmm : m.length ≤ 281474976710656) :
    Calls Tryd.prog 4 #[.slice a l.length ca, .slice c m.length cc, .string key] w fun e w' => e = .returned (.bool true) ∧ Below w.heap.size w w' := by
  have NA := new_any (rdb_123 w) (Nat.le_refl 3) (by omega) (by simp) (how := 0) (.inl rfl)
  have HNA : Hid (Calls Tryd.prog 7 #[.int .i64 0, .slice (some ⟨w.heap.size, 0, none⟩) 3 3] (w.alloc (.cells #[.int .u8 1, .int .u8 2, .int .u8 3] 5)) fun e w' => ∃ T, e = .returned (.tuple #[ptr T, .int .i64 0]) ∧ Tb w' T (newB (w.alloc (.cells #[.int .u8 1, .int .u8 2, .int .u8 3] 5)) w') 0 st0 ∧ Below (w.alloc (.cells #[.int .u8 1, .int .u8 2, .int .u8 3] 5)).heap.size (w.alloc (.cells #[.int .u8 1, .int .u8 2, .int .u8 3] 5)) w' ∧ (w.alloc (.cells #[.int .u8 1, .int .u8 2, .int .u8 3] 5)).heap.size ≤ T) := NA
  have hb0 : Below w.heap.size w (w.alloc (.cells #[.int .u8 1, .int .u8 2, .int .u8 3] 5)) := (Below.refl _ _).alloc (Nat.le_refl _) _
  have HNB : Hid (∀ W : World, Calls Tryd.prog 7 #[.int .i64 0, .slice none 0 0] W fun e w' => ∃ T, e = .returned (.tuple #[ptr T, .int .i64 0]) ∧ Tb w' T (newB W w') 0 st0 ∧ Below W.heap.size W w' ∧ W.heap.size ≤ T) := fun W => new_any (rdb_nil W) (Nat.le_refl 0) (by omega) (by simp) (how := 0) (.inl rfl)
  have HLv : Hid (∀ W, Below w.heap.size w W → Calls Tryd.prog 9 #[] W fun e w' => e = .returned (.bool true) ∧ Below W.heap.size W w') := fun W hb => lives_any (tz_keep hz hb h2) (Nat.lt_of_lt_of_le h2 hb.size)
  have HL : Hid (RdR w a l) := hl
  have HM : Hid (RdR w c m) := hm
  have HZ : Hid (Tz w) := hz
  obtain ⟨N, hN⟩ : ∃ N, Hid (N = l.length) := ⟨_, rfl⟩
  obtain ⟨M, hM⟩ : ∃ M, Hid (M = m.length) := ⟨_, rfl⟩
  rw [← hN.out] at hll ⊢
  rw [← hM.out] at hmm ⊢
  have hsum : IntKind.i64.wrap ((N : Int) + M) = (N : Int) + M := by rw [IntKind.wrap_i64]; omega
  clear NA hl hm hz
  by_cases hbig : (8192 : Int) < (N : Int) + M
  · go_enter Tryd.func4, Tryd.ntmps4
    go_wp2_with (first
      | (go_at_call 9; refine (HLv.out _ b2).mono ?_; rintro e w3 ⟨rfl, b3⟩)
      | (go_at_call 7; have hb1x := b1; clear hb1x; refine (HNB.out _).mono ?_; rintro e w2 ⟨T2, rfl, t2, b2', _⟩; have b2 := b1.trans (b2'.mono b1.size))
      | (go_at_call 7; refine HNA.out.mono ?_; rintro e w1 ⟨T1, rfl, t1, b1', _⟩; have b1 := hb0.trans (b1'.mono (by simp))))
    go_ret
    exact ⟨rfl, b2.trans (b3.mono b2.size)⟩
  · go_enter Tryd.func4, Tryd.ntmps4
    go_wp2_with (first
      | (go_at_call 7; have hb1x := b1; clear hb1x; refine (HNB.out _).mono ?_; rintro e w2 ⟨T2, rfl, t2, b2', _⟩; have b2 := b1.trans (b2'.mono b1.size))
      | (go_at_call 7; refine HNA.out.mono ?_; rintro e w1 ⟨T1, rfl, t1, b1', _⟩; have b1 := hb0.trans (b1'.mono (by simp))))
    have TW0 : Hid (Two w w2 T1 T2 st0 st0) := by
      refine ⟨⟨_, _, t1.below b2', t2, fun k hk => ⟨Nat.le_trans (by simp) hk.1, Nat.lt_of_lt_of_le hk.2 b2'.size⟩, fun k hk => ⟨Nat.le_trans b1.size hk.1, hk.2⟩, fun k hk hk' => ?_⟩, b2⟩
      have h1 : k < w1.heap.size := hk.2
      have h2 : w1.heap.size ≤ k := hk'.1
      omega
    clear t1 t2 b1' b2' b1 b2 hb0 HNA HNB
    obtain ⟨W2, rfl⟩ : ∃ W2, W2 = w2 := ⟨_, rfl⟩
    go_loopw [11] (fun i wr => ∃ k : Nat, k ≤ N ∧ i = .int .i64 k ∧ Hid (Two w wr T1 T2 (run 0 l 0 k st0) (run 0 l 0 k st0))) (fun i _ => ((N : Int) - intOf i).toNat)
    case atStart => exact ⟨0, Nat.zero_le _, rfl, TW0⟩
    case round =>
      obtain ⟨k, hk, rfl, HT⟩ := hrel
      rcases Nat.lt_or_ge k N with hkN | hkN
      · have hkz : (k : Int) < N := by omega
        have hkl : k < l.length := by rw [← hN.out]; exact hkN
        obtain ⟨b, off, rfl, hat⟩ := HL.out.at hkl
        have HAt : Hid (∀ W, Below w.heap.size w W → RAt W b (off + k * 4) l[k]) := hat
        have HRun : Hid (run 0 l 0 (k + 1) st0 = (addM 0 (run 0 l 0 k st0) k l[k].kind l[k].key l[k].val).2) := by
          have := run_step 0 l 0 k st0 l[k] (List.getElem?_eq_getElem hkl)
          rw [Int.zero_add] at this; exact this
        have HI : Hid (Inv 0 (run 0 l 0 k st0)) := run_inv 0 l 0 (Int.le_refl 0) st0 (inv_nil 0) k
        generalize l[k] = r at *
        generalize hst : run 0 l 0 k st0 = st at *
        have HA1 : Hid (∀ wr, Two w wr T1 T2 st st → Calls Tryd.prog 12 #[ptr T1, .int .u64 k, recV r.fam r.kind r.key r.val] wr fun e w' => e = .returned (.int .i64 (addM 0 st k r.kind r.key r.val).1) ∧ Two w w' T1 T2 (addM 0 st k r.kind r.key r.val).2 st) := fun wr h => h.add HZ.out h2 HI.out _ _ _ _ _
        have HA2 : Hid (∀ wr st', Two w wr T1 T2 st' st → Calls Tryd.prog 12 #[ptr T2, .int .u64 k, recV r.fam r.kind r.key r.val] wr fun e w' => e = .returned (.int .i64 (addM 0 st k r.kind r.key r.val).1) ∧ Two w w' T1 T2 st' (addM 0 st k r.kind r.key r.val).2) := fun wr st' h => (h.swap.add HZ.out h2 HI.out _ _ _ _ _).mono fun e w' hh => ⟨hh.1, hh.2.swap⟩
        have hw : IntKind.u64.wrap (k : Int) = k := by rw [IntKind.wrap_u64]; omega
        have c0 := (HAt.out wr HT.out.bel).1
        have c1 := (HAt.out wr HT.out.bel).2.1
        have c2 := (HAt.out wr HT.out.bel).2.2.1
        have c3 := (HAt.out wr HT.out.bel).2.2.2
        obtain ⟨X, hX⟩ : ∃ X, (addM 0 st k r.kind r.key r.val).1 = X := ⟨_, rfl⟩
        rw [hX] at HA1 HA2
        clear hX hat hst
        have HTd : Hid (Two w wr.drew T1 T2 st st) := HT.out.step ((Below.refl _ _).drew)
        go_wp2_with fail
        go_region_held_law (fun w' => w'.cell? ⟨b, off + k * 4, none⟩ = some (.int .u32 r.fam) ∧ w'.cell? ⟨b, off + k * 4 + 1, none⟩ = some (.int .i64 r.kind) ∧ w'.cell? ⟨b, off + k * 4 + 2, none⟩ = some (.string r.key) ∧ w'.cell? ⟨b, off + k * 4 + 3, none⟩ = some (.string r.val))
          (first | (go_keep; done) | exact HAt.out _ tw2.bel | exact HAt.out _ tw1.bel)
          (first
            | (go_at_call_of 12 (ptr T1); refine (HA1.out _ HTd.out).mono ?_; rintro e w1 ⟨rfl, tw1⟩)
            | (go_at_call_of 12 (ptr T2); refine (HA2.out _ _ tw1).mono ?_; rintro e w3 ⟨rfl, tw2⟩))
        go_wp2_with fail
        go_roundw
        case rel => exact ⟨k + 1, by omega, by go_num, by rw [HRun.out]; exact tw2⟩
        case measure => simp [intOf]; omega
      · have hkz : ¬ ((k : Int) < N) := by omega
        obtain rfl : k = N := by omega
        obtain ⟨sl, hsl⟩ : ∃ sl, Hid (run 0 l 0 k st0 = sl) := ⟨_, rfl⟩
        have HIl : Hid (Inv 0 sl) := by show Inv 0 sl; rw [← hsl.out]; exact run_inv 0 l 0 (Int.le_refl 0) st0 (inv_nil 0) k
        rw [hsl.out] at HT
        go_wp2_with fail
        obtain ⟨W3, rfl⟩ : ∃ W3, W3 = wr := ⟨_, rfl⟩
        go_loopw [12] (fun i wr => ∃ j : Nat, j ≤ M ∧ i = .int .i64 j ∧ Hid (Two w wr T1 T2 sl (run 0 m k j sl))) (fun i _ => ((M : Int) - intOf i).toNat)
        case atStart => exact ⟨0, Nat.zero_le _, rfl, HT⟩
        case round =>
          obtain ⟨j, hj, rfl, HT2⟩ := hrel
          rcases Nat.lt_or_ge j M with hjM | hjM
          · have hjz : (j : Int) < M := by omega
            have hjl : j < m.length := by rw [← hM.out]; exact hjM
            obtain ⟨b, off, rfl, hat⟩ := HM.out.at hjl
            have HAt : Hid (∀ W, Below w.heap.size w W → RAt W b (off + j * 4) m[j]) := hat
            have HRun : Hid (run 0 m k (j + 1) sl = (addM 0 (run 0 m k j sl) (k + j) m[j].kind m[j].key m[j].val).2) := run_step 0 m k j sl m[j] (List.getElem?_eq_getElem hjl)
            have HI : Hid (Inv 0 (run 0 m k j sl)) := run_inv 0 m k (by omega) sl HIl.out j
            generalize m[j] = r at *
            generalize hst : run 0 m k j sl = st at *
            have HA2 : Hid (∀ wr, Two w wr T1 T2 sl st → Calls Tryd.prog 12 #[ptr T2, .int .u64 ((k : Int) + j), recV r.fam r.kind r.key r.val] wr fun e w' => e = .returned (.int .i64 (addM 0 st (k + j) r.kind r.key r.val).1) ∧ Two w w' T1 T2 sl (addM 0 st (k + j) r.kind r.key r.val).2) := fun wr h => (h.swap.add HZ.out h2 HI.out _ _ _ _ _).mono fun e w' hh => ⟨hh.1, hh.2.swap⟩
            have hw0 : IntKind.i64.wrap ((k : Int) + j) = (k : Int) + j := by rw [IntKind.wrap_i64]; omega
            have hw : IntKind.u64.wrap ((k : Int) + j) = (k : Int) + j := by rw [IntKind.wrap_u64]; omega
            have c0 := (HAt.out wr HT2.out.bel).1
            have c1 := (HAt.out wr HT2.out.bel).2.1
            have c2 := (HAt.out wr HT2.out.bel).2.2.1
            have c3 := (HAt.out wr HT2.out.bel).2.2.2
            clear hat hst
            go_wp2_with (go_at_call 12; refine (HA2.out _ HT2.out).mono ?_; rintro e w1 ⟨rfl, tw1⟩)
            go_roundw
            case rel => exact ⟨j + 1, by omega, by go_num, by rw [HRun.out]; exact tw1⟩
            case measure => simp [intOf]; omega
          · have hjz : ¬ ((j : Int) < M) := by omega
            obtain ⟨sm, hsm⟩ : ∃ sm, Hid (run 0 m k j sl = sm) := ⟨_, rfl⟩
            have HIm : Hid (Inv 0 sm) := by show Inv 0 sm; rw [← hsm.out]; exact run_inv 0 m k (by omega) sl HIl.out j
            have HUn : Hid (∀ i : Int, i < k → gV (look sm.E key i) (ovS 0 key i sm.R) = gV (look sl.E key i) (ovS 0 key i sl.R)) := fun i hi => by
              have := run_unseen 0 m k sl key i hi j
              rw [hsm.out] at this
              rw [this.1, this.2]
            rw [hsm.out] at HT2
            go_wp2_with fail
            obtain ⟨W4, rfl⟩ : ∃ W4, W4 = wr := ⟨_, rfl⟩
            go_loopw [13] (fun i wr => ∃ q : Nat, q ≤ k ∧ i = .int .i64 q ∧ Hid (Two w wr T1 T2 sl sm)) (fun i _ => ((k : Int) - intOf i).toNat)
            case atStart => exact ⟨0, Nat.zero_le _, rfl, HT2⟩
            case round =>
              obtain ⟨q, hq, rfl, HT3⟩ := hrel
              rcases Nat.lt_or_ge q k with hqk | hqk
              · have hqz : (q : Int) < k := by omega
                have hw : IntKind.u64.wrap (q : Int) = q := by rw [IntKind.wrap_u64]; omega
                obtain ⟨G, hG⟩ : ∃ G, Hid (gV (look sl.E key q) (ovS 0 key q sl.R) = G) := ⟨_, rfl⟩
                have HG1 : Hid (∀ wr, Two w wr T1 T2 sl sm → Calls Tryd.prog 13 #[ptr T1, .string key, .int .u64 q] wr fun e w' => e = .returned (gv G) ∧ Two w w' T1 T2 sl sm) := fun wr h => by rw [← hG.out]; exact h.get HIl.out key q
                have HG2 : Hid (∀ wr, Two w wr T1 T2 sl sm → Calls Tryd.prog 13 #[ptr T2, .string key, .int .u64 q] wr fun e w' => e = .returned (gv G) ∧ Two w w' T1 T2 sl sm) := fun wr h => by
                  rw [← hG.out, ← HUn.out q hqz]; exact (h.swap.get HIm.out key q).mono fun e w' hh => ⟨hh.1, hh.2.swap⟩
                obtain ⟨g1, g2, g3⟩ := G
                clear hG
                go_wp2_with (first
                  | (go_at_call 13; have hx := tw1; clear hx; refine (HG2.out _ tw1).mono ?_; rintro e w3 ⟨rfl, tw2⟩)
                  | (go_at_call 13; refine (HG1.out _ HT3.out).mono ?_; rintro e w1 ⟨rfl, tw1⟩))
                go_roundw
                case rel => exact ⟨q + 1, by omega, by go_num, tw2⟩
                case measure => simp [intOf]; omega
              · have hqz : ¬ ((q : Int) < k) := by omega
                have HL9 := HLv.out wr HT3.out.bel
                go_wp2_with (go_at_call 9; refine HL9.mono ?_; rintro e w5 ⟨rfl, b5⟩)
                go_ret
                exact ⟨rfl, HT3.out.bel.trans (b5.mono HT3.out.bel.size)⟩
end Go.Proofs.YtocanjefonlnaaaDoor
