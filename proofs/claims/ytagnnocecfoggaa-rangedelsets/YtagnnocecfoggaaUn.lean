/-
  RangedelUnion: the law's walk.
-/
import Derived.Test.YtagnnocecfoggaaLv
import Derived.Deep.RegionWith
namespace Go.Proofs.Ytagnnocecfoggaa
open Go.RowKit
set_option linter.unusedVariables false
set_option linter.unusedSimpArgs false
theorem New_opt {w : World} {a : Option Addr} {cap : Nat} {l : List Tm} (h : RdT w a l) (how : Int) :
    Calls Try.prog 15 #[.int .i64 how, .slice a l.length cap] w fun e w' => ∃ p, e = .returned (.tuple #[.pointer p, .int .i64 (splE how l)]) ∧ Below w.heap.size w w' ∧ (splE how l ≠ 0 → p = none) ∧ (splE how l = 0 → ∃ S a' c, p = some ⟨S, 0, none⟩ ∧ St w' S how a' c (frs how l)) := by
  refine (New_any h how).mono ?_
  rintro e w' ⟨h1, ⟨h2, rfl⟩ | ⟨h2, S, a', c, _, rfl, hst⟩⟩
  · exact ⟨none, rfl, h1, fun _ => rfl, fun h => absurd h h2⟩
  · exact ⟨some ⟨S, 0, none⟩, by rw [h2], h1, fun h => absurd h2 h, fun _ => ⟨S, a', c, rfl, hst⟩⟩
theorem chkE_app (a b : List Tm) : chkE (a ++ b) = if chkE a = 0 then chkE b else chkE a := by
  induction a with
  | nil => simp [chkE]
  | cons t a ih =>
    simp only [List.cons_append, chkE]
    split
    · simp
    · split
      · simp
      · exact ih
theorem chkE_or (l : List Tm) : chkE l = 0 ∨ chkE l = 1 ∨ chkE l = 2 := by
  induction l with
  | nil => simp [chkE]
  | cons t l ih =>
    simp only [chkE]
    split
    · simp
    · split
      · simp
      · exact ih
theorem splE_app0 {how : Int} {a b : List Tm} (h : splE how (a ++ b) = 0) : splE how a = 0 ∧ splE how b = 0 := by
  obtain ⟨h1, h2, h3⟩ := splE_len h
  rw [chkE_app] at h3
  rw [List.length_append] at h1
  have ha : chkE a = 0 := by
    split at h3
    · assumption
    · exact h3
  rw [if_pos ha] at h3
  unfold splE
  rw [if_pos h2, if_pos h2, if_neg (by omega), if_neg (by omega)]
  exact ⟨ha, h3⟩
theorem splE_app1 {how : Int} {a b : List Tm} (h : splE how (a ++ b) ≠ 0) (ha : splE how a = 0) (hb : splE how b = 0) : splE how (a ++ b) = 2 ∧ 1024 < a.length + b.length := by
  obtain ⟨a1, a2, a3⟩ := splE_len ha
  obtain ⟨b1, b2, b3⟩ := splE_len hb
  by_cases hl : 1024 < (a ++ b).length
  · refine ⟨?_, by simpa using hl⟩
    unfold splE
    rw [if_pos a2, if_pos hl]
  · exfalso
    apply h
    unfold splE
    rw [if_pos a2, if_neg hl, chkE_app, if_pos a3, b3]
set_option maxRecDepth 100000 in
set_option maxHeartbeats 2000000 in
theorem union_walk {w : World} {how : Int} {aa ab : Option Addr} {ca cb : Nat} {la lb : List Tm} {key : ByteArray} (ha : RdT w aa la) (hna : aa = none → ca = 0) (hb : RdT w ab lb) (hnb : ab = none → cb = 0) (hla : la.length ≤ 2000000) (hlb : lb.length ≤ 2000000) (hsa : ∀ t ∈ la, 0 ≤ t.s) (hsb : ∀ t ∈ lb, 0 ≤ t.s) :
    Calls Try.prog 6 #[.int .i64 how, .slice aa la.length ca, .agg #[.slice ab lb.length cb, .string key]] w fun e w' => e = .returned (.bool true) ∧ Below w.heap.size w w' := by
  have HA : Hid (∀ W, Below w.heap.size w W → Calls Try.prog 8 #[.slice aa la.length ca] W fun e w' => ∃ v, e = .returned v ∧ RowT w' W.heap.size v la ∧ Below W.heap.size W w') := fun W hb => copied_any (ha.below hb) hna (by omega)
  have HBc : Hid (∀ W, Below w.heap.size w W → Calls Try.prog 8 #[.slice ab lb.length cb] W fun e w' => ∃ v, e = .returned v ∧ RowT w' W.heap.size v lb ∧ Below W.heap.size W w') := fun W hw => copied_any (hb.below hw) hnb (by omega)
  have HAp : Hid (∀ W v, Below w.heap.size w W → RowT W w.heap.size v la → ∃ v' w', (Builtin.append_ #[22, 22] 22 #[v, .slice ab lb.length cb]).run Try.prog W = .ok v' w' ∧ RowT w' w.heap.size v' (la ++ lb) ∧ Upd (fun k => v.ownBlock = some k) W w') := fun W v hw ho => copy_run (g0 := 0) ho hw.size (hb.below hw) hnb (by omega)
  have HNw : Hid (∀ W v (l : List Tm), (∃ b, RowT W b v l) → Calls Try.prog 15 #[.int .i64 how, v] W fun e w' => ∃ p, e = .returned (.tuple #[.pointer p, .int .i64 (splE how l)]) ∧ Below W.heap.size W w' ∧ (splE how l ≠ 0 → p = none) ∧ (splE how l = 0 → ∃ S a' c, p = some ⟨S, 0, none⟩ ∧ St w' S how a' c (frs how l))) := fun W v l ⟨b, hr⟩ => by
    obtain ⟨a, c, rfl, _, hrd, _⟩ := row_rd tm_k hr
    exact New_opt hrd how
  obtain ⟨W0, hW0⟩ : ∃ W0, W0 = w.alloc (.cells #[.slice ab lb.length cb, .string key] 67) := ⟨_, rfl⟩
  have b0 : Below w.heap.size w W0 := by rw [hW0]; exact (Below.refl _ _).alloc (Nat.le_refl _) _
  have hX : Blk W0 w.heap.size 67 [.slice ab lb.length cb, .string key] := by rw [hW0]; exact Blk.new w 67 _
  have x0 := hX.cell1 0 _ rfl
  have x1 := hX.cell1 1 _ rfl
  have HB0 : Hid (Below w.heap.size w W0) := b0
  obtain ⟨NA, hNA⟩ : ∃ NA, Hid (la.length = NA) := ⟨_, rfl⟩
  obtain ⟨NB, hNB⟩ : ∃ NB, Hid (lb.length = NB) := ⟨_, rfl⟩
  rw [hNA.out] at HA hla ⊢
  rw [hNB.out] at HBc HAp hlb x0 hW0 ⊢
  clear ha hb b0 hX
  go_enter Try.func6, Try.ntmps6
  go_upto_region 1 with fail
  rw [← hW0]
  clear hW0
  go_quiet (fail)
  have HB1 : Hid (Below w.heap.size w (W0.drewN nq)) := belN HB0.out _
  clear x0 x1
  generalize W0.drewN nq = W1 at *
  go_upto_region 3 with (first
    | (go_at_call 8; refine (HA.out _ HB1.out).mono ?_; rintro e w2 ⟨v2, rfl, r1, r2⟩
       have HN2 := HNw.out w2 v2 la ⟨_, r1⟩
       have HB2 : Hid (Below w.heap.size w w2) := HB1.out.trans (r2.mono HB1.out.size)
       clear r1 r2)
    | (go_at_call 15; refine HN2.mono ?_; rintro e w3 ⟨pA, rfl, r1, r2, r3⟩
       have HB3 : Hid (Below w.heap.size w w3) := HB2.out.trans (r1.mono HB2.out.size)
       have HpA : Hid ((splE how la = 0 → ∃ S a' c, pA = some ⟨S, 0, none⟩ ∧ St w3 S how a' c (frs how la))) := r3
       clear r1 r2 r3))
  go_upto_region 4 with (first
    | (go_at_call 8; refine (HBc.out _ HB3.out).mono ?_; rintro e w4 ⟨v4, rfl, r1, r2⟩
       have HN4 := HNw.out w4 v4 lb ⟨_, r1⟩
       have HB4 : Hid (Below w.heap.size w w4 ∧ Below w3.heap.size w3 w4) := ⟨HB3.out.trans (r2.mono HB3.out.size), r2⟩
       clear r1 r2)
    | (go_at_call 15; refine HN4.mono ?_; rintro e w5 ⟨pB, rfl, r1, r2, r3⟩
       have HB5 : Hid (Below w.heap.size w w5 ∧ Below w3.heap.size w3 w5) := ⟨HB4.out.1.trans (r1.mono HB4.out.1.size), HB4.out.2.trans (r1.mono HB4.out.2.size)⟩
       have HpB : Hid ((splE how lb = 0 → ∃ S a' c, pB = some ⟨S, 0, none⟩ ∧ St w5 S how a' c (frs how lb))) := r3
       clear r1 r2 r3))
  go_upto_region 5 with (first
    | (go_at_call 8; refine (HA.out _ HB5.out.1).mono ?_; rintro e w6 ⟨v6, rfl, r1, r2⟩
       have hb6 : Below w.heap.size w w6 := HB5.out.1.trans (r2.mono HB5.out.1.size)
       obtain ⟨v7, w7, hr7, q1, q2⟩ := HAp.out w6 v6 hb6 (row_base r1 HB5.out.1.size)
       have HN7 := HNw.out w7 v7 (la ++ lb) ⟨_, q1⟩
       have hb57 : Below w5.heap.size w5 w7 := r2.trans (q2.below (fun k hk => Nat.lt_of_lt_of_le hk r2.size) (fun j hj => (row_blk r1 j hj).1))
       have HB7 : Hid (Below w.heap.size w w7 ∧ Below w5.heap.size w5 w7) := ⟨HB5.out.1.trans (hb57.mono HB5.out.1.size), hb57⟩
       obtain ⟨va, vc, hv⟩ := row_slice r1
       rw [hNA.out] at hv
       subst hv
       obtain ⟨vb, vd, hv⟩ := row_slice q1
       obtain ⟨M, hM⟩ : ∃ M, Hid ((la ++ lb).length = M) := ⟨_, rfl⟩
       rw [hM.out] at hv
       subst hv
       clear r1 r2 q1 q2 hb6 hb57)
    | (at_builtin; refine Lib.wpList_append_run _ rfl _ _ _ _ rfl _ _ rfl rfl _ _ hr7 ?_)
    | (go_at_call 15; refine HN7.mono ?_; rintro e w8 ⟨pZ, rfl, r1, r2, r3⟩
       have HB8 : Hid (Below w.heap.size w w8 ∧ Below w5.heap.size w5 w8) := ⟨HB7.out.1.trans (r1.mono HB7.out.1.size), HB7.out.2.trans (r1.mono HB7.out.2.size)⟩
       have HpZ : Hid ((splE how (la ++ lb) ≠ 0 → pZ = none) ∧ (splE how (la ++ lb) = 0 → ∃ S a' c, pZ = some ⟨S, 0, none⟩ ∧ St w8 S how a' c (frs how (la ++ lb)))) := ⟨r2, r3⟩
       clear r1 r2 r3))
  clear HN2 HN4 HN7 hr7 HA HBc HAp HNw
  have HLi : Hid (∀ W, Calls Try.prog 14 #[] W fun e w' => e = .returned (.bool true) ∧ Below W.heap.size W w') := lives_any
  by_cases hz : splE how (la ++ lb) = 0
  · obtain ⟨hA0, hB0⟩ := splE_app0 hz
    obtain ⟨SA, aA, cA, rfl, stA⟩ := HpA.out hA0
    obtain ⟨SB, aB, cB, rfl, stB⟩ := HpB.out hB0
    obtain ⟨SZ, aZ, cZ, rfl, stZ⟩ := HpZ.out.2 hz
    have hb38 : Below w3.heap.size w3 w8 := HB5.out.2.trans (HB8.out.2.mono HB5.out.2.size)
    have gA := frs_g (how := how) (splE_len hA0).1
    have gB := frs_g (how := how) (splE_len hB0).1
    have gZ := frs_g (how := how) (splE_len hz).1
    have HMA : Hid (∀ W, Below w8.heap.size w8 W → ∀ n, Calls Try.prog 18 #[.pointer (some ⟨SA, 0, none⟩), .string key, .int .u64 n] W fun e w' => e = .returned (.int .u64 (refMost how la key n)) ∧ Below W.heap.size W w') := fun W hW n => by
      rw [← mostF_ref (frs_frs how la) hsa]
      exact Most_any ((stA.below hb38).below hW) gA key n
    have HMB : Hid (∀ W, Below w8.heap.size w8 W → ∀ n, Calls Try.prog 18 #[.pointer (some ⟨SB, 0, none⟩), .string key, .int .u64 n] W fun e w' => e = .returned (.int .u64 (refMost how lb key n)) ∧ Below W.heap.size W w') := fun W hW n => by
      rw [← mostF_ref (frs_frs how lb) hsb]
      exact Most_any ((stB.below HB8.out.2).below hW) gB key n
    have HMZ : Hid (∀ W, Below w8.heap.size w8 W → ∀ n, Calls Try.prog 18 #[.pointer (some ⟨SZ, 0, none⟩), .string key, .int .u64 n] W fun e w' => e = .returned (.int .u64 (if refMost how lb key n > refMost how la key n then refMost how lb key n else refMost how la key n)) ∧ Below W.heap.size W w') := fun W hW n => by
      rw [← refMost_app hsa hsb, ← mostF_ref (frs_frs how (la ++ lb)) (fun t ht => by rw [List.mem_append] at ht; rcases ht with ht | ht; exact hsa t ht; exact hsb t ht)]
      exact Most_any (stZ.below hW) gZ key n
    rw [hA0, hB0, hz]
    clear stA stB stZ gA gB gZ hb38 HpA HpB HpZ hA0 hB0 hz hsa hsb hna hnb
    go_wp2_with fail
    go_loopw [15] (fun s wr => ∃ k : Nat, k ≤ 12 ∧ s = .int .u64 k ∧ Hid (Below w8.heap.size w8 wr)) (fun s _ => (12 - intOf s).toNat)
    case atStart => exact ⟨0, Nat.zero_le _, rfl, Below.refl _ _⟩
    case round =>
      obtain ⟨k, hk, rfl, HK⟩ := hrel
      rcases Nat.lt_or_ge k 12 with hk12 | hk12
      · have hkz : (k : Int) < 12 := by omega
        have HMA0 := HMA.out wr HK.out k
        generalize hmA : refMost how la key k = mA at HMA0
        generalize hmB : refMost how lb key k = mB
        by_cases hAB : mA < mB
        · go_wp2_with (first
            | (go_at_call_of 18 (Value.pointer (some ⟨SA, 0, none⟩)); refine HMA0.mono ?_; rintro e w9 ⟨rfl, hb9⟩
               have HB9 : Hid (Below w8.heap.size w8 w9) := HK.out.trans (hb9.mono HK.out.size)
               have HMB0 := HMB.out w9 HB9.out k
               rw [hmB] at HMB0
               clear hb9)
            | (go_at_call_of 18 (Value.pointer (some ⟨SB, 0, none⟩)); refine HMB0.mono ?_; rintro e w10 ⟨rfl, hb10⟩
               have HB10 : Hid (Below w8.heap.size w8 w10) := HB9.out.trans (hb10.mono HB9.out.size)
               have HMZ0 := HMZ.out w10 HB10.out k
               rw [hmA, hmB, if_pos hAB] at HMZ0
               clear hb10)
            | (go_at_call_of 18 (Value.pointer (some ⟨SZ, 0, none⟩)); refine HMZ0.mono ?_; rintro e w11 ⟨rfl, hb11⟩
               have HB11 : Hid (Below w8.heap.size w8 w11) := HB10.out.trans (hb11.mono HB10.out.size)
               clear hb11))
          go_roundw
          case rel => exact ⟨k + 1, by omega, by go_num, HB11.out⟩
          case measure => simp [intOf]; omega
        · go_wp2_with (first
            | (go_at_call_of 18 (Value.pointer (some ⟨SA, 0, none⟩)); refine HMA0.mono ?_; rintro e w9 ⟨rfl, hb9⟩
               have HB9 : Hid (Below w8.heap.size w8 w9) := HK.out.trans (hb9.mono HK.out.size)
               have HMB0 := HMB.out w9 HB9.out k
               rw [hmB] at HMB0
               clear hb9)
            | (go_at_call_of 18 (Value.pointer (some ⟨SB, 0, none⟩)); refine HMB0.mono ?_; rintro e w10 ⟨rfl, hb10⟩
               have HB10 : Hid (Below w8.heap.size w8 w10) := HB9.out.trans (hb10.mono HB9.out.size)
               have HMZ0 := HMZ.out w10 HB10.out k
               rw [hmA, hmB, if_neg (by omega)] at HMZ0
               clear hb10)
            | (go_at_call_of 18 (Value.pointer (some ⟨SZ, 0, none⟩)); refine HMZ0.mono ?_; rintro e w11 ⟨rfl, hb11⟩
               have HB11 : Hid (Below w8.heap.size w8 w11) := HB10.out.trans (hb11.mono HB10.out.size)
               clear hb11))
          go_roundw
          case rel => exact ⟨k + 1, by omega, by go_num, HB11.out⟩
          case measure => simp [intOf]; omega
      · obtain rfl : k = 12 := by omega
        go_wp2_with (go_at_call 14; refine (HLi.out _).mono ?_; rintro e w9 ⟨rfl, hb9⟩
                     have HB9 : Hid (Below w.heap.size w w9) := HB8.out.1.trans ((HK.out.trans (hb9.mono HK.out.size)).mono HB8.out.1.size)
                     clear hb9)
        go_ret
        exact ⟨rfl, HB9.out⟩
  · have hpZ := HpZ.out.1 hz
    subst hpZ
    by_cases hAB : splE how la = 0 ∧ splE how lb = 0
    · obtain ⟨hE, hlen⟩ := splE_app1 hz hAB.1 hAB.2
      rw [hAB.1, hAB.2, hE]
      rw [hNA.out, hNB.out] at hlen
      have hlz : (1024 : Int) < (NA : Int) + NB := by omega
      clear HpA HpB HpZ hz hAB hE hsa hsb hna hnb
      go_wp2_with (go_at_call 14; refine (HLi.out _).mono ?_; rintro e w9 ⟨rfl, hb9⟩
                   have HB9 : Hid (Below w.heap.size w w9) := HB8.out.1.trans (hb9.mono HB8.out.1.size)
                   clear hb9)
      go_ret
      exact ⟨rfl, HB9.out⟩
    · have hz' : (splE how (la ++ lb) != 0) = true := by simpa using hz
      have hAB' : ((splE how la != 0) || (splE how lb != 0)) = true := by
        simp only [Bool.or_eq_true, bne_iff_ne, ne_eq]
        by_cases h1 : splE how la = 0
        · exact .inr (fun h2 => hAB ⟨h1, h2⟩)
        · exact .inl h1
      generalize splE how (la ++ lb) = EZ at hz' ⊢
      clear HpA HpB HpZ hz hAB hsa hsb hna hnb
      generalize splE how la = EA at hAB' ⊢
      generalize splE how lb = EB at hAB' ⊢
      cases hEA : (EA != 0)
      · have hEB : (EB != 0) = true := by rw [hEA] at hAB'; simpa using hAB'
        clear hAB'
        go_wp2_with (go_at_call 14; refine (HLi.out _).mono ?_; rintro e w9 ⟨rfl, hb9⟩
                     have HB9 : Hid (Below w.heap.size w w9) := HB8.out.1.trans (hb9.mono HB8.out.1.size)
                     clear hb9)
        go_ret
        exact ⟨rfl, HB9.out⟩
      · clear hAB'
        go_wp2_with (go_at_call 14; refine (HLi.out _).mono ?_; rintro e w9 ⟨rfl, hb9⟩
                     have HB9 : Hid (Below w.heap.size w w9) := HB8.out.1.trans (hb9.mono HB8.out.1.size)
                     clear hb9)
        go_ret
        exact ⟨rfl, HB9.out⟩
end Go.Proofs.Ytagnnocecfoggaa
