/-
  Split: tombstones as fragments, or what is wrong with them.
-/
import Derived.Test.YtagnnocecfoggaaSv
namespace Go.Proofs.Ytagnnocecfoggaa
open Go.RowKit
set_option linter.unusedVariables false
set_option linter.unusedSimpArgs false
/-- The first thing that is wrong. -/
def chkE : List Tm → Int
  | [] => 0
  | t :: l => if 72057594037927935 < t.s then 1 else if longB t.b t.e = true then 2 else chkE l
def splE (how : Int) (l : List Tm) : Int := if isHowB how = true then (if 1024 < l.length then 2 else chkE l) else 1
def sL (how : Int) (l : List Tm) : List Fg := if splE how l = 0 then frs how l else []
theorem chkE_drop {l : List Tm} {k : Nat} {t : Tm} (h : l[k]? = some t) : chkE (l.drop k) = if 72057594037927935 < t.s then 1 else if longB t.b t.e = true then 2 else chkE (l.drop (k + 1)) := by
  obtain ⟨hk, rfl⟩ := List.getElem?_eq_some_iff.1 h
  rw [List.drop_eq_getElem_cons hk]; rfl
theorem rdf_nil (w : World) (a : Option Addr) : RdF w a [] := ⟨[], rfl, .inl rfl, fun i p f hp => by simp at hp⟩
set_option maxRecDepth 100000 in
set_option maxHeartbeats 1000000 in
theorem Split_any {w : World} {a : Option Addr} {cap : Nat} {l : List Tm} (h : RdT w a l) (how : Int) :
    Calls Try.prog 7 #[.int .i64 how, .slice a l.length cap] w fun e w' => ∃ a' c, e = .returned (.tuple #[.slice a' (sL how l).length c, .int .i64 (splE how l)]) ∧ (sL how l).length ≤ c ∧ RdF w' a' (sL how l) ∧ Below w.heap.size w w' := by
  have H : Hid (RdT w a l) := h
  clear h
  obtain ⟨ER, hER⟩ : ∃ ER, Hid (splE how l = ER) := ⟨_, rfl⟩
  obtain ⟨LR, hLR⟩ : ∃ LR, Hid (sL how l = LR) := ⟨_, rfl⟩
  rw [hER.out, hLR.out]
  have HNo : Hid (ER ≠ 0 → LR = []) := fun h0 => by rw [← hLR.out]; unfold sL; rw [hER.out, if_neg h0]
  obtain ⟨N, hN⟩ : ∃ N, Hid (N = l.length) := ⟨_, rfl⟩
  rw [← hN.out]
  cases hh : isHowB how
  · have HE : Hid (1 = ER) := by show _ = _; rw [← hER.out]; simp [splE, hh]
    have HC := ishow_any how w
    rw [hh] at HC
    go_enter Try.func7, Try.ntmps7
    go_wp2_with (go_at_call 30; refine HC.mono ?_; rintro e w1 ⟨rfl, hw⟩; have hw' := hw.symm; subst hw')
    go_ret2
    rw [← HE.out, HNo.out (by rw [← HE.out]; decide)]
    first | exact ⟨none, 0, rfl, Nat.zero_le _, rdf_nil _ _, Below.refl _ _⟩ | exact ⟨none, 0, rfl, by simp, rdf_nil _ _, Below.refl _ _⟩
  · have HC := ishow_any how w
    rw [hh] at HC
    rcases Nat.lt_or_ge 1024 N with hN1 | hN1
    · have HE : Hid (2 = ER) := by show _ = _; rw [← hER.out]; simp [splE, hh, ← hN.out, hN1]
      have hNz : (1024 : Int) < N := by omega
      go_enter Try.func7, Try.ntmps7
      go_wp2_with (go_at_call 30; refine HC.mono ?_; rintro e w1 ⟨rfl, hw⟩; have hw' := hw.symm; subst hw')
      go_ret2
      rw [← HE.out, HNo.out (by rw [← HE.out]; decide)]
      first | exact ⟨none, 0, rfl, Nat.zero_le _, rdf_nil _ _, Below.refl _ _⟩ | exact ⟨none, 0, rfl, by simp, rdf_nil _ _, Below.refl _ _⟩
    · have hNz : ¬ (1024 : Int) < N := by omega
      have HE : Hid (chkE l = ER) := by show _ = _; rw [← hER.out]; unfold splE; rw [if_pos hh, ← hN.out, if_neg (by omega)]
      go_enter Try.func7, Try.ntmps7
      go_wp2_with (go_at_call 30; refine HC.mono ?_; rintro e w1 ⟨rfl, hw⟩; have hw' := hw.symm; subst hw')
      go_loopw [16] (fun i wr => ∃ k : Nat, k ≤ N ∧ i = .int .i64 k ∧ Hid (Below w.heap.size w wr ∧ chkE (l.drop k) = ER)) (fun i _ => ((N : Int) - intOf i).toNat)
      case atStart => exact ⟨0, Nat.zero_le _, rfl, Below.refl _ _, HE.out⟩
      case round =>
        obtain ⟨k, hk, rfl, HB⟩ := hrel
        rcases Nat.lt_or_ge k N with hkN | hkN
        · have hkz : (k : Int) < N := by omega
          obtain ⟨t, ht⟩ : ∃ t, l[k]? = some t := ⟨l[k]'(by rw [← hN.out]; omega), List.getElem?_eq_getElem _⟩
          obtain ⟨g, o, rfl, hat⟩ := (H.out.below HB.out.1).at_ ht
          obtain ⟨t0, t1, t2⟩ := hat.t
          have HD : Hid ((if 72057594037927935 < t.s then 1 else if longB t.b t.e = true then 2 else chkE (l.drop (k + 1))) = ER) := (chkE_drop ht).symm.trans HB.out.2
          have HB2 : Hid (Below w.heap.size w (wr.alloc (.cells #[.string t.b, .string t.e, .int .u64 t.s] 56))) := HB.out.1.alloc HB.out.1.size _
          clear hat ht
          by_cases hs : 72057594037927935 < t.s
          · go_wp2_with fail
            go_ret2
            have e1 : 1 = ER := by rw [← HD.out, if_pos hs]
            rw [← e1, HNo.out (by rw [← e1]; decide)]
            first | exact ⟨none, 0, rfl, Nat.zero_le _, rdf_nil _ _, HB2.out⟩ | exact ⟨none, 0, rfl, by simp, rdf_nil _ _, HB2.out⟩
          · cases hlg : longB t.b t.e
            · have HLo := fun W => islong_any t.b t.e W
              rw [hlg] at HLo
              go_wp2_with (go_at_call 31; refine (HLo _).mono ?_; rintro e w1 ⟨rfl, hw⟩; have hw' := hw.symm; subst hw')
              go_roundw
              case rel => 
                refine ⟨k + 1, by omega, by go_num, HB2.out, ?_⟩
                rw [← HD.out, if_neg (by omega), hlg]
                rfl
              case measure => simp [intOf]; omega
            · have HLo := fun W => islong_any t.b t.e W
              rw [hlg] at HLo
              go_wp2_with (go_at_call 31; refine (HLo _).mono ?_; rintro e w1 ⟨rfl, hw⟩; have hw' := hw.symm; subst hw')
              go_ret2
              have e1 : 2 = ER := by rw [← HD.out, if_neg (by omega), if_pos hlg]
              rw [← e1, HNo.out (by rw [← e1]; decide)]
              first | exact ⟨none, 0, rfl, Nat.zero_le _, rdf_nil _ _, HB2.out⟩ | exact ⟨none, 0, rfl, by simp, rdf_nil _ _, HB2.out⟩
        · obtain rfl : k = N := by omega
          have hz : ¬ ((k : Int) < k) := by omega
          have e0 : (0 : Int) = ER := by rw [← HB.out.2, List.drop_eq_nil_of_le (by rw [← hN.out]; omega)]; rfl
          have HLf : Hid (frs how l = LR) := by
            show _ = _
            rw [← hLR.out]; unfold sL; rw [hER.out, if_pos e0.symm]
          subst e0
          have HLy : Hid (Calls Try.prog 33 #[.int .i64 how, .slice a k cap] wr fun e w' => ∃ v, e = .returned v ∧ RowT w' wr.heap.size v (l.filter (lies how)) ∧ Below wr.heap.size wr w') := by
            have := lying_any (cap := cap) (H.out.below HB.out.1) how (by rw [← hN.out]; omega)
            rw [← hN.out] at this; exact this
          go_wp2_with (first
            | (go_at_call 33; refine HLy.out.mono ?_; rintro e w2 ⟨v, rfl, r1, r2⟩
               have HSp : Hid (Calls Try.prog 32 #[.int .i64 how, v] w2 fun e w' => ∃ a c, e = .returned (.slice a (frs how l).length c) ∧ (frs how l).length ≤ c ∧ RdF w' a (frs how l) ∧ Upd (fun k => v.ownBlock = some k) w2 w') := split_any rfl r1 (Nat.le_trans (List.length_filter_le _ _) (by rw [← hN.out]; omega))
               have HV : Hid ((∀ j, v.ownBlock = some j → w.heap.size ≤ j) ∧ Below w.heap.size w w2) := ⟨fun j hj => Nat.le_trans HB.out.1.size (row_blk r1 j hj).1, HB.out.1.trans (r2.mono HB.out.1.size)⟩
               obtain ⟨va, vc, hv⟩ := row_slice r1
               obtain ⟨M, hM⟩ : ∃ M, Hid ((l.filter (lies how)).length = M) := ⟨_, rfl⟩
               rw [hM.out] at hv
               subst hv
               clear r1 r2)
            | (go_at_call 32; refine HSp.out.mono ?_; rintro e w3 ⟨a3, c3, rfl, r0, r1, r2⟩
               have HF : Hid (LR.length ≤ c3 ∧ RdF w3 a3 LR ∧ Below w.heap.size w w3) := ⟨HLf.out ▸ r0, HLf.out ▸ r1, HV.out.2.trans (r2.below (fun k hk => Nat.lt_of_lt_of_le hk HV.out.2.size) HV.out.1)⟩
               clear r0 r1 r2
               rw [HLf.out]))
          go_ret2
          first | exact ⟨a3, c3, rfl, HF.out⟩ | exact ⟨a3, ⟨c3, rfl⟩, HF.out⟩
end Go.Proofs.Ytagnnocecfoggaa
