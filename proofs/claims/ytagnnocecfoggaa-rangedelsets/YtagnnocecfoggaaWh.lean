/-
  The reference's Whole.
-/
import Derived.Test.YtagnnocecfoggaaNc
namespace Go.Proofs.Ytagnnocecfoggaa
open Go.RowKit
set_option linter.unusedVariables false
set_option linter.unusedSimpArgs false
def inB (below n s : Int) : Bool := decide (below < s) && decide (s ≤ n)
def rwholeF (how : Int) (e : ByteArray) (below n : Int) : List Fg → ByteArray → Bool
  | [], b => kle how e b
  | f :: L, b => if kl how b e = false then kle how e b else if kl how b f.e = false then rwholeF how e below n L b else if f.q.any (inB below n) = false ∨ kl how b f.b = true then false else rwholeF how e below n L f.e
theorem rwhole_drop {how : Int} {e : ByteArray} {below n : Int} {L : List Fg} {i : Nat} {f : Fg} (h : L[i]? = some f) (b : ByteArray) : rwholeF how e below n (L.drop i) b = if kl how b e = false then kle how e b else if kl how b f.e = false then rwholeF how e below n (L.drop (i + 1)) b else if f.q.any (inB below n) = false ∨ kl how b f.b = true then false else rwholeF how e below n (L.drop (i + 1)) f.e := by
  obtain ⟨hi, rfl⟩ := List.getElem?_eq_some_iff.1 h
  rw [List.drop_eq_getElem_cons hi]; rfl
theorem any_up {α : Type} {p : α → Bool} {l : List α} {k : Nat} {t : α} (h : l[k]? = some t) : (l.take (k + 1)).any p = ((l.take k).any p || p t) := by
  rw [List.take_add_one, h, Option.toList_some, List.any_append]
  simp
set_option maxRecDepth 100000 in
set_option maxHeartbeats 2000000 in
theorem rWhole_any {w : World} {a : Option Addr} {c : Nat} {L : List Fg} (h : RdF w a L) (how : Int) (b e : ByteArray) (below n : Int) (hl : L.length ≤ 10000) (hq : ∀ f ∈ L, f.q.length ≤ 10000) :
    Calls Try.prog 23 #[.int .i64 how, .slice a L.length c, .string b, .string e, .int .u64 below, .int .u64 n] w fun r w' => r = .returned (.bool (rwholeF how e below n L b)) ∧ w' = w := by
  have H : Hid (RdF w a L) := h
  have HQ : Hid (∀ f ∈ L, f.q.length ≤ 10000) := hq
  clear h hq
  obtain ⟨N, hN⟩ : ∃ N, Hid (N = L.length) := ⟨_, rfl⟩
  obtain ⟨R, hR⟩ : ∃ R, Hid (rwholeF how e below n L b = R) := ⟨_, rfl⟩
  rw [← hN.out] at hl ⊢
  rw [hR.out]
  have HG : Hid (∀ x y : ByteArray, decide (0 ≤ cmpH how x y) = kle how y x) := fun x y => by
    have := cmpH_neg how x y
    unfold kle kl
    rw [Bool.eq_iff_iff]; simp
  go_enter Try.func23, Try.ntmps23
  go_wp2_with fail
  go_loopw [13, 14] (fun s i wr => ∃ (k : Nat) (b' : ByteArray), k ≤ N ∧ s = .string b' ∧ i = .int .i64 k ∧ Hid (rwholeF how e below n (L.drop k) b' = R ∧ wr = w)) (fun _ i _ => ((N : Int) - intOf i).toNat)
  case atStart => exact ⟨0, b, Nat.zero_le _, rfl, rfl, hR.out, rfl⟩
  case round =>
    obtain ⟨k, b', hk, rfl, rfl, HB⟩ := hrel
    obtain ⟨hB, rfl⟩ := HB.out
    rcases Nat.lt_or_ge k N with hkN | hkN
    · have hkz : (k : Int) < N := by omega
      obtain ⟨f, hf⟩ : ∃ f, L[k]? = some f := ⟨L[k]'(by rw [← hN.out]; omega), List.getElem?_eq_getElem _⟩
      obtain ⟨g, o, pa, pk, rfl, t0, t1, t2, t3⟩ := H.out.at_ hf
      have hql := HQ.out f (List.mem_of_getElem? hf)
      have HS : Hid ((if kl how b' e = false then kle how e b' else if kl how b' f.e = false then rwholeF how e below n (L.drop (k + 1)) b' else if f.q.any (inB below n) = false ∨ kl how b' f.b = true then false else rwholeF how e below n (L.drop (k + 1)) f.e) = R) := by show _ = _; rw [← rwhole_drop hf]; exact hB
      clear hf hB
      by_cases h1 : cmpH how b' e < 0
      · have k1 : kl how b' e = true := by simpa [kl] using h1
        by_cases h2 : cmpH how f.e b' ≤ 0
        · have k2 : kl how b' f.e = false := by rw [← gt_of]; simp; omega
          have HE : Hid (rwholeF how e below n (L.drop (k + 1)) b' = R) := by show _ = _; rw [← HS.out, k1, if_neg (by simp), if_pos k2]
          clear k1 k2 t3
          go_wp2_with (go_at_call 26; refine (rcmp_any _ _ _ _).mono ?_; rintro e w1 ⟨rfl, hw⟩; have hw' := hw.symm; subst hw')
          go_roundw
          case rel => exact ⟨k + 1, b', by omega, rfl, by go_num, HE.out, by first | rfl | trivial⟩
          case measure => simp [intOf]; omega
        · have k2 : kl how b' f.e = true := by rw [← gt_of]; simp; omega
          have HS2 : Hid ((if f.q.any (inB below n) = false ∨ kl how b' f.b = true then false else rwholeF how e below n (L.drop (k + 1)) f.e) = R) := by show _ = _; rw [← HS.out, k1, k2]; rfl
          have hd2 : decide (cmpH how f.e b' ≤ 0) = false := by simpa using h2
          have HT3 : Hid (Rd uc 1 wr pa f.q) := t3
          obtain ⟨Q, hQ⟩ : ∃ Q, Hid (f.q.length = Q) := ⟨_, rfl⟩
          rw [hQ.out] at t2 hql
          clear k1 k2 t3
          go_wp2_with (go_at_call 26; refine (rcmp_any _ _ _ _).mono ?_; rintro e w1 ⟨rfl, hw⟩; have hw' := hw.symm; subst hw')
          go_loopw [15, 16] (fun s i wr2 => ∃ (j : Nat) (O : Bool), j ≤ Q ∧ s = .bool O ∧ i = .int .i64 j ∧ Hid ((f.q.take j).any (inB below n) = O ∧ wr2 = wr)) (fun _ i _ => ((Q : Int) - intOf i).toNat)
          case atStart => exact ⟨0, false, Nat.zero_le _, rfl, rfl, rfl, by first | rfl | trivial⟩
          case round =>
            obtain ⟨j, O, hj, rfl, rfl, HJ⟩ := hrel
            obtain ⟨hJ, hwr⟩ := HJ.out
            have hwr' := hwr.symm
            subst hwr'
            rcases Nat.lt_or_ge j Q with hjQ | hjQ
            · have hjz : (j : Int) < Q := by omega
              obtain ⟨s, hs⟩ : ∃ s, f.q[j]? = some s := ⟨f.q[j]'(by rw [hQ.out]; omega), List.getElem?_eq_getElem _⟩
              obtain ⟨g2, o2, rfl, hat⟩ := HT3.out.at_ hs
              have q0 := hat.u1
              rw [Nat.mul_one] at q0
              have HU : Hid ((f.q.take (j + 1)).any (inB below n) = (O || inB below n s)) := by show _ = _; rw [any_up hs, hJ]
              clear hs hat hJ
              cases O
              · by_cases h3 : below < s
                · by_cases h4 : s ≤ n
                  · have HO : Hid ((f.q.take (j + 1)).any (inB below n) = true) := by show _ = _; rw [HU.out]; simp [inB, h3, h4]
                    go_wp2_with fail
                    go_roundw
                    case rel => exact ⟨j + 1, true, by omega, rfl, by go_num, HO.out, by first | rfl | trivial⟩
                    case measure => simp [intOf]; omega
                  · have HO : Hid ((f.q.take (j + 1)).any (inB below n) = false) := by show _ = _; rw [HU.out]; simp [inB, h4]
                    have hd4 : decide (s ≤ n) = false := by simpa using h4
                    go_wp2_with fail
                    go_roundw
                    case rel => exact ⟨j + 1, false, by omega, rfl, by go_num, HO.out, by first | rfl | trivial⟩
                    case measure => simp [intOf]; omega
                · have HO : Hid ((f.q.take (j + 1)).any (inB below n) = false) := by show _ = _; rw [HU.out]; simp [inB, h3]
                  have hd3 : decide (below < s) = false := by simpa using h3
                  go_wp2_with fail
                  go_roundw
                  case rel => exact ⟨j + 1, false, by omega, rfl, by go_num, HO.out, by first | rfl | trivial⟩
                  case measure => simp [intOf]; omega
              · have HO : Hid ((f.q.take (j + 1)).any (inB below n) = true) := by show _ = _; rw [HU.out]; simp
                go_wp2_with fail
                go_roundw
                case rel => exact ⟨j + 1, true, by omega, rfl, by go_num, HO.out, by first | rfl | trivial⟩
                case measure => simp [intOf]; omega
            · obtain rfl : j = Q := by omega
              have hz : ¬ ((j : Int) < j) := by omega
              have HA : Hid (f.q.any (inB below n) = O) := by show _ = _; rw [← hJ, List.take_of_length_le (by rw [hQ.out]; omega)]
              clear hJ
              cases O
              · have HE : Hid (false = R) := by show _ = _; rw [← HS2.out, if_pos (.inl HA.out)]
                go_wp2_with fail
                go_ret
                exact ⟨by rw [← HE.out]; rfl, by first | rfl | trivial⟩
              · by_cases h5 : 0 < cmpH how f.b b'
                · have HE : Hid (false = R) := by show _ = _; rw [← HS2.out, if_pos (.inr (by rw [← gt_of]; simpa using h5))]
                  go_wp2_with (go_at_call 26; refine (rcmp_any _ _ _ _).mono ?_; rintro e w1 ⟨rfl, hw⟩; have hw' := hw.symm; subst hw')
                  go_ret
                  exact ⟨by rw [← HE.out]; rfl, by first | rfl | trivial⟩
                · have k5 : kl how b' f.b = false := by rw [← gt_of]; simpa using h5
                  have HE : Hid (rwholeF how e below n (L.drop (k + 1)) f.e = R) := by show _ = _; rw [← HS2.out, if_neg (by rw [HA.out, k5]; simp)]
                  have hd5 : decide (0 < cmpH how f.b b') = false := by simpa using h5
                  clear k5
                  go_wp2_with (go_at_call 26; refine (rcmp_any _ _ _ _).mono ?_; rintro e w1 ⟨rfl, hw⟩; have hw' := hw.symm; subst hw')
                  go_roundw
                  case rel => exact ⟨k + 1, f.e, by omega, rfl, by go_num, HE.out, by first | rfl | trivial⟩
                  case measure => simp [intOf]; omega
      · have k1 : kl how b' e = false := by simp [kl]; omega
        have HE : Hid (true = R) := by show _ = _; rw [← HS.out, if_pos k1, kle, k1]; rfl
        have hd1 : decide (cmpH how b' e < 0) = false := by simpa using h1
        clear k1 t3
        go_wp2_with (go_at_call 26; refine (rcmp_any _ _ _ _).mono ?_; rintro e w1 ⟨rfl, hw⟩; have hw' := hw.symm; subst hw')
        go_ret
        exact ⟨by rw [← HE.out]; rfl, rfl⟩
    · obtain rfl : k = N := by omega
      have hz : ¬ ((k : Int) < k) := by omega
      have HE : Hid (decide (0 ≤ cmpH how b' e) = R) := by show _ = _; rw [HG.out, ← hB, List.drop_eq_nil_of_le (by rw [← hN.out]; omega)]; rfl
      clear hB
      go_wp2_with (go_at_call 26; refine (rcmp_any _ _ _ _).mono ?_; rintro e w1 ⟨rfl, hw⟩; have hw' := hw.symm; subst hw')
      go_ret
      exact ⟨by rw [← HE.out]; rfl, rfl⟩
end Go.Proofs.Ytagnnocecfoggaa
