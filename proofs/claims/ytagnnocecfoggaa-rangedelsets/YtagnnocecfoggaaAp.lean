/-
  RangedelApart: the law's walk.
-/
import Derived.Test.YtagnnocecfoggaaCk
import Derived.Deep.RegionWith
namespace Go.Proofs.Ytagnnocecfoggaa
open Go.RowKit
set_option linter.unusedVariables false
set_option linter.unusedSimpArgs false
/-- Whether a fragment lies over a key. -/
def fov (how : Int) (k : ByteArray) (f : Fg) : Bool := kle how f.b k && kl how k f.e
theorem frs_any {how : Int} {l : List Tm} (k : ByteArray) : (frs how l).any (fov how k) = l.any (fun t => ovr how t k) := by
  have h := frs_frs how l
  rw [Bool.eq_iff_iff, List.any_eq_true, List.any_eq_true]
  obtain ⟨s1, s2⟩ := seqsAt_facts how l k
  constructor
  · rintro ⟨f, hf, ho⟩
    simp only [fov, Bool.and_eq_true] at ho
    have hq := h.at_ f hf k ho.1 ho.2
    have hne := h.ne f hf
    rw [hq] at hne
    obtain ⟨z, hz⟩ := List.exists_mem_of_ne_nil _ hne
    obtain ⟨t, ht, hov, _⟩ := (s2 z).1 hz
    exact ⟨t, ht, hov⟩
  · rintro ⟨t, ht, hov⟩
    have hne : seqsAt how l k ≠ [] := by
      intro e
      have := (s2 t.s).2 ⟨t, ht, hov, rfl⟩
      rw [e] at this; simp at this
    obtain ⟨f, hf, h1, h2⟩ := h.has k hne
    exact ⟨f, hf, by simp [fov, h1, h2]⟩
theorem any_take {α : Type} (p : α → Bool) (l : List α) (k : Nat) (x : α) (h : l[k]? = some x) : (l.take (k + 1)).any p = ((l.take k).any p || p x) := by
  rw [List.take_add_one, h, List.any_append]
  simp
theorem keep4b {w w' : World} (hb : Below w.heap.size w w') {a b c d a' b' c' d' : Nat} {v0 v1 v2 v3 : Value} (h : w.cell? ⟨a, a', none⟩ = some v0 ∧ w.cell? ⟨b, b', none⟩ = some v1 ∧ w.cell? ⟨c, c', none⟩ = some v2 ∧ w.cell? ⟨d, d', none⟩ = some v3) : w'.cell? ⟨a, a', none⟩ = some v0 ∧ w'.cell? ⟨b, b', none⟩ = some v1 ∧ w'.cell? ⟨c, c', none⟩ = some v2 ∧ w'.cell? ⟨d, d', none⟩ = some v3 := ⟨cell_below hb h.1, cell_below hb h.2.1, cell_below hb h.2.2.1, cell_below hb h.2.2.2⟩
set_option maxRecDepth 100000 in
set_option maxHeartbeats 2000000 in
theorem apart_walk {w : World} {how : Int} {aa ak : Option Addr} {ca ck : Nat} {l : List Tm} {ks : List ByteArray} (ha : RdT w aa l) (hna : aa = none → ca = 0) (hk : Rd sc 1 w ak ks) (hl : l.length * 40 ≤ 140737488355328) (hkl : ks.length * 16 ≤ 140737488355328) :
    Calls Try.prog 5 #[.int .i64 how, .slice aa l.length ca, .slice ak ks.length ck] w fun e w' => e = .returned (.bool true) ∧ Below w.heap.size w w' := by
  have HA : Hid (Calls Try.prog 8 #[.slice aa l.length ca] w fun e w' => ∃ v, e = .returned v ∧ RowT w' w.heap.size v l ∧ Below w.heap.size w w') := copied_any ha hna hl
  have HC : Hid (∀ W, Below w.heap.size w W → Calls Try.prog 28 #[.int .i64 how, .slice aa l.length ca] W fun e w' => e = .returned (.int .i64 (splE how l)) ∧ w' = W) := fun W hb => rcheck_any (ha.below hb) how
  have HNw : Hid (∀ W v, RowT W w.heap.size v l → Calls Try.prog 7 #[.int .i64 how, v] W fun e w' => ∃ a' c, e = .returned (.tuple #[.slice a' (sL how l).length c, .int .i64 (splE how l)]) ∧ (sL how l).length ≤ c ∧ RdF w' a' (sL how l) ∧ Below W.heap.size W w') := fun W v hr => by
    obtain ⟨a, c, rfl, _, hrd, _⟩ := row_rd tm_k hr
    exact Split_any hrd how
  have HLi : Hid (∀ W, Calls Try.prog 14 #[] W fun e w' => e = .returned (.bool true) ∧ Below W.heap.size W w') := lives_any
  have HRk : Hid (Rd sc 1 w ak ks) := hk
  have HRl : Hid (RdT w aa l) := ha
  have HLen : Hid (splE how l = 0 → l.length ≤ 1024 ∧ sL how l = frs how l) := fun h0 => ⟨(splE_len h0).1, by unfold sL; rw [if_pos h0]⟩
  have HLn0 : Hid (splE how l ≠ 0 → sL how l = []) := fun h0 => by unfold sL; rw [if_neg h0]
  obtain ⟨E, hE⟩ : ∃ E, Hid (splE how l = E) := ⟨_, rfl⟩
  rw [hE.out] at HC HNw HLen HLn0
  obtain ⟨L, hL⟩ : ∃ L, Hid (sL how l = L) := ⟨_, rfl⟩
  rw [hL.out] at HNw HLen HLn0
  obtain ⟨N, hN⟩ : ∃ N, Hid (l.length = N) := ⟨_, rfl⟩
  rw [hN.out] at HA HC hl HLen ⊢
  obtain ⟨KN, hKN⟩ : ∃ KN, Hid (ks.length = KN) := ⟨_, rfl⟩
  rw [hKN.out] at hkl ⊢
  obtain ⟨FN, hFN⟩ : ∃ FN, Hid (L.length = FN) := ⟨_, rfl⟩
  rw [hFN.out] at HNw
  clear ha hk
  go_enter Try.func5, Try.ntmps5
  go_upto_region 2 with (first
    | (go_at_call 8; refine HA.out.mono ?_; rintro e w2 ⟨v2, rfl, r1, r2⟩
       have HN2 := HNw.out w2 v2 r1
       have HB2 : Hid (Below w.heap.size w w2) := r2
       clear r1 r2)
    | (go_at_call 7; refine HN2.mono ?_; rintro e w3 ⟨a3, c3, rfl, r1, r2, r3⟩
       have HB3 : Hid (Below w.heap.size w w3) := HB2.out.trans (r3.mono HB2.out.size)
       have HF3 : Hid (RdF w3 a3 L) := r2
       clear r1 r2 r3))
  clear HN2 HNw HA
  by_cases h0 : E = 0
  · subst h0
    obtain ⟨hN1, hLf⟩ := HLen.out rfl
    clear HLen HLn0 HC
    have HG : Hid (FrG how L) := by rw [hLf]; exact frs_g (by rw [hN.out]; exact hN1)
    have hF : FN ≤ 10000 := by rw [← hFN.out]; exact HG.out.len
    have HAny : Hid (∀ k, L.any (fov how k) = l.any (fun t => ovr how t k)) := fun k => by rw [hLf]; exact frs_any k
    clear hLf
    go_wp2_with fail
    go_loopw [9] (fun i wr => ∃ k : Nat, k ≤ FN ∧ i = .int .i64 k ∧ Hid (Below w.heap.size w wr ∧ Below w3.heap.size w3 wr)) (fun i _ => ((FN : Int) - intOf i).toNat)
    case atStart => exact ⟨0, Nat.zero_le _, rfl, HB3.out, Below.refl _ _⟩
    case round =>
      obtain ⟨k, hk, rfl, HB⟩ := hrel
      rcases Nat.lt_or_ge k FN with hkN | hkN
      · have hkz : (k : Int) < FN := by omega
        obtain ⟨f, hf⟩ : ∃ f, L[k]? = some f := ⟨_, List.getElem?_eq_getElem (by rw [hFN.out]; exact hkN)⟩
        obtain ⟨g, o, pa, pk, rfl, t0, t1, t2, _⟩ := (HF3.out.below HB.out.2).at_ hf
        have hbe := HG.out.o.be f (List.mem_of_getElem? hf)
        have hd1 : decide (0 ≤ cmpH how f.b f.e) = false := by
          rw [ge_of]; simp [kle, hbe]
        rcases Nat.eq_zero_or_pos k with hk0 | hk0
        · have hkp : ¬ (0 : Int) < k := by omega
          have hkd : decide ((0 : Int) < (k : Int)) = false := by simpa using hkp
          have hkd2 : decide (0 < k) = false := by simp; omega
          have HBn : Hid (∀ n, Below w.heap.size w (wr.drewN n) ∧ Below w3.heap.size w3 (wr.drewN n)) := fun n => ⟨belN HB.out.1 n, belN HB.out.2 n⟩
          clear hf t2 hk0
          go_wp2_with fail
          go_quiet ((go_at_call 26; exact Calls.quiet_of_same (rcmp_any _ _ _ _)))
          go_wp2_with fail
          go_roundw
          case rel => exact ⟨k + 1, by omega, by go_num, HBn.out _⟩
          case measure => simp [intOf]; omega
        · obtain ⟨j, hj⟩ : ∃ j, k = j + 1 := ⟨k - 1, by omega⟩
          obtain ⟨f', hf'⟩ : ∃ f', L[j]? = some f' := ⟨_, List.getElem?_eq_getElem (by rw [hFN.out]; omega)⟩
          obtain ⟨g', o', pa', pk', e', u0, u1, u2, _⟩ := (HF3.out.below HB.out.2).at_ hf'
          cases e'
          have hup : kle how f'.e f.b = true := by
            obtain ⟨i1, rfl⟩ := List.getElem?_eq_some_iff.1 hf'
            obtain ⟨i2, rfl⟩ := List.getElem?_eq_some_iff.1 hf
            exact List.pairwise_iff_getElem.1 HG.out.o.up _ _ i1 i2 (by omega)
          have hd2 : decide (0 < cmpH how f'.e f.b) = false := by
            rw [gt_of]; simpa [kle] using hup
          have hkp : (0 : Int) < k := by omega
          have hjz : (k : Int) - 1 = j := by omega
          have hwj : IntKind.i64.wrap (j : Int) = j := by rw [IntKind.wrap_i64]; omega
          have hwk : IntKind.i64.wrap ((k : Int) - 1) = j := by rw [IntKind.wrap_i64]; omega
          have hjN : (j : Int) < FN := by omega
          have HBn : Hid (∀ n, Below w.heap.size w (wr.drewN n) ∧ Below w3.heap.size w3 (wr.drewN n)) := fun n => ⟨belN HB.out.1 n, belN HB.out.2 n⟩
          clear hf hf' t2 u2 hj u0
          go_wp2_with fail
          go_quiet ((go_at_call 26; exact Calls.quiet_of_same (rcmp_any _ _ _ _)))
          go_wp2_with fail
          go_roundw
          case rel => exact ⟨k + 1, by omega, by go_num, HBn.out _⟩
          case measure => simp [intOf]; omega
      · obtain rfl : k = FN := by omega
        have hz : ¬ ((k : Int) < k) := by omega
        clear HG
        go_wp2_with fail
        clear hz
        go_loopw [10] (fun i wr => ∃ q : Nat, q ≤ KN ∧ i = .int .i64 q ∧ Hid (Below w.heap.size w wr ∧ Below w3.heap.size w3 wr)) (fun i _ => ((KN : Int) - intOf i).toNat)
        case atStart => exact ⟨0, Nat.zero_le _, rfl, HB.out⟩
        case round =>
          clear HB
          obtain ⟨q, hq, rfl, HQ⟩ := hrel
          rcases Nat.lt_or_ge q KN with hqN | hqN
          · have hqz : (q : Int) < KN := by omega
            obtain ⟨key, hkey⟩ : ∃ key, ks[q]? = some key := ⟨_, List.getElem?_eq_getElem (by rw [hKN.out]; exact hqN)⟩
            obtain ⟨gk, ok, rfl, _⟩ := HRk.out.at_ hkey
            have HKc : Hid (∀ W, Below w.heap.size w W → W.cell? ⟨gk, ok + q, none⟩ = some (.string key)) := fun W hb => by
              obtain ⟨g', o', e, hat⟩ := (HRk.out.below hb).at_ hkey
              cases e
              have := hat.s1
              rw [Nat.mul_one] at this
              exact this
            obtain ⟨W0, rfl⟩ : ∃ W0, W0 = wr := ⟨_, rfl⟩
            go_wp2_with fail
            go_loopw [11, 13] (fun s11 s13 wr => ∃ (i : Nat) (B : Bool), i ≤ k ∧ s13 = .int .i64 i ∧ s11 = .bool B ∧ Hid ((L.take i).any (fov how key) = B ∧ Below w.heap.size w wr ∧ Below w3.heap.size w3 wr)) (fun _ s13 _ => ((k : Int) - intOf s13).toNat)
            case atStart => exact ⟨0, false, Nat.zero_le _, rfl, rfl, by simp, HQ.out⟩
            case round =>
              obtain ⟨i, B, hi, rfl, rfl, HI⟩ := hrel
              rcases Nat.lt_or_ge i k with hik | hik
              · have hiz : (i : Int) < k := by omega
                obtain ⟨f, hf⟩ : ∃ f, L[i]? = some f := ⟨_, List.getElem?_eq_getElem (by rw [hFN.out]; exact hik)⟩
                obtain ⟨g, o, pa, pk, rfl, t0, t1, t2, _⟩ := (HF3.out.below HI.out.2.2).at_ hf
                have kc := HKc.out wr HI.out.2.1
                have HS : Hid ((L.take (i + 1)).any (fov how key) = (B || fov how key f)) := by show _ = _; rw [any_take _ _ _ _ hf, HI.out.1]
                have HBn : Hid (∀ n, Below w.heap.size w (wr.drewN n) ∧ Below w3.heap.size w3 (wr.drewN n)) := fun n => ⟨belN HI.out.2.1 n, belN HI.out.2.2 n⟩
                clear hf t2
                cases B
                · cases h1 : kle how f.b key
                  · have hd1 : decide (cmpH how f.b key ≤ 0) = false := by rw [Bool.eq_false_iff]; intro e; rw [decide_eq_true_eq, ← kle_iff, h1] at e; cases e
                    go_wp2_with fail
                    go_quiet ((go_at_call 26; exact Calls.quiet_of_same (rcmp_any _ _ _ _)))
                    go_wp2_with fail
                    go_roundw
                    case rel => exact ⟨i + 1, false, by omega, by go_num, rfl, by rw [HS.out]; simp [fov, h1], HBn.out _⟩
                    case measure => simp [intOf]; omega
                  · have hd1 : decide (cmpH how f.b key ≤ 0) = true := by rw [decide_eq_true_eq, ← kle_iff]; exact h1
                    cases h2 : kl how key f.e
                    · have hd2 : decide (cmpH how key f.e < 0) = false := h2
                      go_wp2_with fail
                      go_quiet ((go_at_call 26; exact Calls.quiet_of_same (rcmp_any _ _ _ _)))
                      go_wp2_with fail
                      go_roundw
                      case rel => exact ⟨i + 1, false, by omega, by go_num, rfl, by rw [HS.out]; simp [fov, h1, h2], HBn.out _⟩
                      case measure => simp [intOf]; omega
                    · have hd2 : decide (cmpH how key f.e < 0) = true := h2
                      go_wp2_with fail
                      go_quiet ((go_at_call 26; exact Calls.quiet_of_same (rcmp_any _ _ _ _)))
                      go_wp2_with fail
                      go_roundw
                      case rel => exact ⟨i + 1, true, by omega, by go_num, rfl, by rw [HS.out]; simp [fov, h1, h2], HBn.out _⟩
                      case measure => simp [intOf]; omega
                · go_wp2_with fail
                  first | go_quiet (fail) | go_big_quiet (fail)
                  go_wp2_with fail
                  go_roundw
                  case rel => exact ⟨i + 1, true, by omega, by go_num, rfl, by rw [HS.out]; simp, HBn.out _⟩
                  case measure => simp [intOf]; omega
              · obtain rfl : i = k := by omega
                have hz : ¬ ((i : Int) < i) := by omega
                have HIn : Hid (L.any (fov how key) = B) := by
                  have := HI.out.1
                  rw [List.take_of_length_le (by rw [hFN.out]; omega)] at this
                  exact this
                go_wp2_with fail
                clear hz
                go_loopw [12, 14] (fun s12 s14 wr => ∃ (j : Nat) (O : Bool), j ≤ N ∧ s14 = .int .i64 j ∧ s12 = .bool O ∧ Hid ((l.take j).any (fun t => ovr how t key) = O ∧ Below w.heap.size w wr ∧ Below w3.heap.size w3 wr)) (fun _ s14 _ => ((N : Int) - intOf s14).toNat)
                case atStart => exact ⟨0, false, Nat.zero_le _, rfl, rfl, by simp, HI.out.2⟩
                case round =>
                  clear HI
                  obtain ⟨j, O, hj, rfl, rfl, HJ⟩ := hrel
                  rcases Nat.lt_or_ge j N with hjN | hjN
                  · have hjz : (j : Int) < N := by omega
                    obtain ⟨t, ht⟩ : ∃ t, l[j]? = some t := ⟨_, List.getElem?_eq_getElem (by rw [hN.out]; exact hjN)⟩
                    obtain ⟨g, o, rfl, hat⟩ := (HRl.out.below HJ.out.2.1).at_ ht
                    obtain ⟨t0, t1, t2⟩ := hat.t
                    have kc := HKc.out wr HJ.out.2.1
                    have HS : Hid ((l.take (j + 1)).any (fun t => ovr how t key) = (O || ovr how t key)) := by show _ = _; rw [any_take _ _ _ _ ht, HJ.out.1]
                    clear ht hat
                    cases O
                    · have HOv : Hid (Calls Try.prog 29 #[.int .i64 how, t.v, .string key] wr.drew fun e w' => e = .returned (.bool (ovr how t key)) ∧ Below wr.drew.heap.size wr.drew w') := over_any how t key _
                      obtain ⟨V, hV⟩ : ∃ V, Hid (ovr how t key = V) := ⟨_, rfl⟩
                      rw [hV.out] at HOv HS
                      go_wp2_with fail
                      go_region_held_law (fun w' => w'.cell? ⟨g, o + j * 3, none⟩ = some (.string t.b) ∧ w'.cell? ⟨g, o + j * 3 + 1, none⟩ = some (.string t.e) ∧ w'.cell? ⟨g, o + j * 3 + 2, none⟩ = some (.int .u64 t.s) ∧ w'.cell? ⟨gk, ok + q, none⟩ = some (.string key))
                        (first | (go_keep; done) | exact keep4b hb3 ‹_›)
                        ((go_at_call 29; refine HOv.out.mono ?_; rintro e w4 ⟨rfl, hb3⟩))
                      have HB4 : Hid (Below w.heap.size w w4 ∧ Below w3.heap.size w3 w4) := ⟨HJ.out.2.1.drew.trans (hb3.mono HJ.out.2.1.drew.size), HJ.out.2.2.drew.trans (hb3.mono HJ.out.2.2.drew.size)⟩
                      clear hb3
                      go_wp2_with fail
                      go_roundw
                      case rel => exact ⟨j + 1, V, by omega, by go_num, rfl, by rw [HS.out]; simp, HB4.out⟩
                      case measure => simp [intOf]; omega
                    · have HBn : Hid (∀ n, Below w.heap.size w (wr.drewN n) ∧ Below w3.heap.size w3 (wr.drewN n)) := fun n => ⟨belN HJ.out.2.1 n, belN HJ.out.2.2 n⟩
                      go_wp2_with fail
                      first | go_quiet (fail) | go_big_quiet (fail)
                      go_wp2_with fail
                      go_roundw
                      case rel => exact ⟨j + 1, true, by omega, by go_num, rfl, by rw [HS.out]; simp, HBn.out _⟩
                      case measure => simp [intOf]; omega
                  · obtain rfl : j = N := by omega
                    have hz : ¬ ((j : Int) < j) := by omega
                    have hBO : B = O := by
                      rw [← HIn.out, HAny.out key, ← HJ.out.1, List.take_of_length_le (by rw [hN.out]; omega)]
                    subst hBO
                    have hbb : (B != B) = false := by simp
                    go_wp2_with fail
                    go_roundw
                    case rel => exact ⟨q + 1, by omega, by go_num, HJ.out.2⟩
                    case measure => simp [intOf]; omega
          · obtain rfl : q = KN := by omega
            have hz : ¬ ((q : Int) < q) := by omega
            go_wp2_with (go_at_call 14; refine (HLi.out _).mono ?_; rintro e w9 ⟨rfl, hb9⟩
                         have HB9 : Hid (Below w.heap.size w w9) := HQ.out.1.trans (hb9.mono HQ.out.1.size)
                         clear hb9)
            go_ret
            exact ⟨rfl, HB9.out⟩
  · have hL0 := HLn0.out h0
    have hFN0 : FN = 0 := by rw [← hFN.out, hL0]; rfl
    subst hFN0
    have hne : (E != 0) = true := by simpa using h0
    have hee : (E == E) = true := by simp
    have HC3 := HC.out w3 HB3.out
    clear HLen HLn0 HC h0 hL0
    go_wp2_with (first
      | (go_at_call 28; refine HC3.mono ?_; rintro e w4 ⟨rfl, hw⟩; have hw' := hw.symm; subst hw')
      | (go_at_call 14; refine (HLi.out _).mono ?_; rintro e w9 ⟨rfl, hb9⟩
         have HB9 : Hid (Below w.heap.size w w9) := HB3.out.trans (hb9.mono HB3.out.size)
         clear hb9))
    go_ret
    exact ⟨rfl, HB9.out⟩
end Go.Proofs.Ytagnnocecfoggaa
