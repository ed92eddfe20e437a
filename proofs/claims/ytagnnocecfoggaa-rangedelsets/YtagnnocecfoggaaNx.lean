/-
  The reference's Most and Covers, the program's Covers.
-/
import Derived.Test.YtagnnocecfoggaaCk
import Derived.Deep.RegionHeldLaw
namespace Go.Proofs.Ytagnnocecfoggaa
open Go.RowKit
set_option linter.unusedVariables false
set_option linter.unusedSimpArgs false
abbrev mstep (how : Int) (k : ByteArray) (n m : Int) (t : Tm) : Int := if ovr how t k = true ∧ t.s ≤ n ∧ m < t.s then t.s else m
abbrev mup (how : Int) (l : List Tm) (k : ByteArray) (n : Int) (i : Nat) : Int := (l.take i).foldl (mstep how k n) 0
theorem mup_step {how : Int} {l : List Tm} {k : ByteArray} {n : Int} {i : Nat} {t : Tm} (h : l[i]? = some t) : mup how l k n (i + 1) = mstep how k n (mup how l k n i) t := by
  show (l.take (i + 1)).foldl _ _ = _
  rw [List.take_add_one, h, Option.toList_some, List.foldl_append]
  rfl
set_option maxRecDepth 100000 in
set_option maxHeartbeats 1000000 in
theorem rMost_any {w : World} {a : Option Addr} {cap : Nat} {l : List Tm} (h : RdT w a l) (how : Int) (key : ByteArray) (n : Int) (hl : l.length ≤ 140737488355328) :
    Calls Try.prog 19 #[.int .i64 how, .slice a l.length cap, .string key, .int .u64 n] w fun e w' => e = .returned (.int .u64 (refMost how l key n)) ∧ Below w.heap.size w w' := by
  have H : Hid (RdT w a l) := h
  clear h
  obtain ⟨N, hN⟩ : ∃ N, Hid (N = l.length) := ⟨_, rfl⟩
  obtain ⟨R, hR⟩ : ∃ R, Hid (refMost how l key n = R) := ⟨_, rfl⟩
  rw [← hN.out] at hl ⊢
  rw [hR.out]
  go_enter Try.func19, Try.ntmps19
  go_wp2_with fail
  go_loopw [9, 10] (fun m i wr => ∃ (k : Nat) (M : Int), k ≤ N ∧ i = .int .i64 k ∧ m = .int .u64 M ∧ Hid (mup how l key n k = M ∧ Below w.heap.size w wr)) (fun _ i _ => ((N : Int) - intOf i).toNat)
  case atStart => exact ⟨0, 0, Nat.zero_le _, rfl, rfl, rfl, Below.refl _ _⟩
  case round =>
    obtain ⟨k, M, hk, rfl, rfl, HB⟩ := hrel
    rcases Nat.lt_or_ge k N with hkN | hkN
    · have hkz : (k : Int) < N := by omega
      obtain ⟨t, ht⟩ : ∃ t, l[k]? = some t := ⟨l[k]'(by rw [← hN.out]; omega), List.getElem?_eq_getElem _⟩
      obtain ⟨g, o, rfl, hat⟩ := (H.out.below HB.out.2).at_ ht
      obtain ⟨t0, t1, t2⟩ := hat.t
      have HS : Hid (mup how l key n (k + 1) = mstep how key n M t) := by show _ = _; rw [mup_step ht, HB.out.1]
      have HOv := over_any how t key wr
      obtain ⟨V, hV⟩ : ∃ V, Hid (ovr how t key = V) := ⟨_, rfl⟩
      rw [hV.out] at HOv
      have HT : Hid (∀ w', Below wr.heap.size wr w' → w'.cell? ⟨g, o + k * 3 + 2, none⟩ = some (.int .u64 t.s) ∧ Below w.heap.size w w') := fun w' hb => ⟨cell_below hb t2, HB.out.2.trans (hb.mono HB.out.2.size)⟩
      clear ht hat
      cases V
      · have HM : Hid (mup how l key n (k + 1) = M) := by show _ = _; rw [HS.out]; unfold mstep; rw [if_neg (by rw [hV.out]; simp)]
        go_wp2_with (go_at_call 29; refine HOv.mono ?_; rintro e w1 ⟨rfl, hb1⟩; have HB1 : Hid (Below w.heap.size w w1) := (HT.out w1 hb1).2; clear hb1)
        go_roundw
        case rel => exact ⟨k + 1, M, by omega, by go_num, rfl, HM.out, HB1.out⟩
        case measure => simp [intOf]; omega
      · by_cases h1 : t.s ≤ n
        · by_cases h2 : M < t.s
          · have HM : Hid (mup how l key n (k + 1) = t.s) := by show _ = _; rw [HS.out]; unfold mstep; rw [if_pos ⟨hV.out, h1, h2⟩]
            go_wp2_with (go_at_call 29; refine HOv.mono ?_; rintro e w1 ⟨rfl, hb1⟩; obtain ⟨t2n, r⟩ := HT.out w1 hb1; have HB1 : Hid (Below w.heap.size w w1) := r; clear hb1 r)
            go_roundw
            case rel => exact ⟨k + 1, t.s, by omega, by go_num, rfl, HM.out, HB1.out⟩
            case measure => simp [intOf]; omega
          · have HM : Hid (mup how l key n (k + 1) = M) := by show _ = _; rw [HS.out]; unfold mstep; rw [if_neg (fun h => h2 h.2.2)]
            have hd : decide (M < t.s) = false := by simpa using h2
            go_wp2_with (go_at_call 29; refine HOv.mono ?_; rintro e w1 ⟨rfl, hb1⟩; obtain ⟨t2n, r⟩ := HT.out w1 hb1; have HB1 : Hid (Below w.heap.size w w1) := r; clear hb1 r)
            go_roundw
            case rel => exact ⟨k + 1, M, by omega, by go_num, rfl, HM.out, HB1.out⟩
            case measure => simp [intOf]; omega
        · have HM : Hid (mup how l key n (k + 1) = M) := by show _ = _; rw [HS.out]; unfold mstep; rw [if_neg (fun h => h1 h.2.1)]
          have hd : decide (t.s ≤ n) = false := by simpa using h1
          go_wp2_with (go_at_call 29; refine HOv.mono ?_; rintro e w1 ⟨rfl, hb1⟩; obtain ⟨t2n, r⟩ := HT.out w1 hb1; have HB1 : Hid (Below w.heap.size w w1) := r; clear hb1 r)
          go_roundw
          case rel => exact ⟨k + 1, M, by omega, by go_num, rfl, HM.out, HB1.out⟩
          case measure => simp [intOf]; omega
    · obtain rfl : k = N := by omega
      have hz : ¬ ((k : Int) < k) := by omega
      have e0 : M = R := by rw [← HB.out.1, ← hR.out]; unfold refMost; rw [mup, List.take_of_length_le (by rw [← hN.out]; omega)]
      go_wp2_with fail
      go_ret
      exact ⟨by rfl, HB.out.2⟩
end Go.Proofs.Ytagnnocecfoggaa
