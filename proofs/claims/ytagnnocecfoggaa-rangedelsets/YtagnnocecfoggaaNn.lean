/-
  Next: the reference's.
-/
import Derived.Test.YtagnnocecfoggaaNy
namespace Go.Proofs.Ytagnnocecfoggaa
open Go.RowKit
set_option linter.unusedVariables false
set_option linter.unusedSimpArgs false
/-- The next place at which something changes. -/
def nextF (how : Int) (k : ByteArray) : List Fg → ByteArray × Bool
  | [] => (⟨#[]⟩, false)
  | f :: L => if kl how k f.b = true then (f.b, true) else if kl how k f.e = true then (f.e, true) else nextF how k L
theorem nextF_drop {how : Int} {k : ByteArray} {L : List Fg} {i : Nat} {f : Fg} (h : L[i]? = some f) : nextF how k (L.drop i) = if kl how k f.b = true then (f.b, true) else if kl how k f.e = true then (f.e, true) else nextF how k (L.drop (i + 1)) := by
  obtain ⟨hi, rfl⟩ := List.getElem?_eq_some_iff.1 h
  rw [List.drop_eq_getElem_cons hi]; rfl
set_option maxRecDepth 100000 in
set_option maxHeartbeats 1000000 in
theorem rNext_any {w : World} {a : Option Addr} {c : Nat} {L : List Fg} (h : RdF w a L) (how : Int) (key : ByteArray) (hl : L.length ≤ 10000) :
    Calls Try.prog 17 #[.int .i64 how, .slice a L.length c, .string key] w fun e w' => e = .returned (.tuple #[.string (nextF how key L).1, .bool (nextF how key L).2]) ∧ Below w.heap.size w w' := by
  have H : Hid (RdF w a L) := h
  clear h
  obtain ⟨N, hN⟩ : ∃ N, Hid (N = L.length) := ⟨_, rfl⟩
  obtain ⟨R, hR⟩ : ∃ R, Hid (nextF how key L = R) := ⟨_, rfl⟩
  rw [← hN.out] at hl ⊢
  rw [hR.out]
  go_enter Try.func17, Try.ntmps17
  go_wp2_with fail
  go_loopw [8] (fun i wr => ∃ k : Nat, k ≤ N ∧ i = .int .i64 k ∧ Hid (nextF how key (L.drop k) = R ∧ Below w.heap.size w wr)) (fun i _ => ((N : Int) - intOf i).toNat)
  case atStart => exact ⟨0, Nat.zero_le _, rfl, hR.out, Below.refl _ _⟩
  case round =>
    obtain ⟨k, hk, rfl, HB⟩ := hrel
    rcases Nat.lt_or_ge k N with hkN | hkN
    · have hkz : (k : Int) < N := by omega
      obtain ⟨f, hf⟩ : ∃ f, L[k]? = some f := ⟨L[k]'(by rw [← hN.out]; omega), List.getElem?_eq_getElem _⟩
      obtain ⟨g, o, pa, pk, rfl, t0, t1, t2, t3⟩ := (H.out.below HB.out.2).at_ hf
      have HS : Hid ((if kl how key f.b = true then (f.b, true) else if kl how key f.e = true then (f.e, true) else nextF how key (L.drop (k + 1))) = R) := by show _ = _; rw [← nextF_drop hf]; exact HB.out.1
      clear hf t2 t3
      by_cases h1 : 0 < cmpH how f.b key
      · have HE : Hid ((f.b, true) = R) := by show _ = _; rw [← HS.out, if_pos (by rw [← gt_of]; simpa using h1)]
        go_wp2_with (go_at_call 26; refine (rcmp_any _ _ _ _).mono ?_; rintro e w1 ⟨rfl, hw⟩; have hw' := hw.symm; subst hw')
        go_ret2
        exact ⟨by rw [← HE.out]; rfl, HB.out.2⟩
      · have hk1 : kl how key f.b = false := by rw [← gt_of]; simpa using h1
        by_cases h2 : 0 < cmpH how f.e key
        · have HE : Hid ((f.e, true) = R) := by show _ = _; rw [← HS.out, if_neg (by rw [hk1]; simp), if_pos (by rw [← gt_of]; simpa using h2)]
          clear hk1
          go_wp2_with (go_at_call 26; refine (rcmp_any _ _ _ _).mono ?_; rintro e w1 ⟨rfl, hw⟩; have hw' := hw.symm; subst hw')
          go_ret2
          exact ⟨by rw [← HE.out]; rfl, HB.out.2⟩
        · have hk2 : kl how key f.e = false := by rw [← gt_of]; simpa using h2
          have HE : Hid (nextF how key (L.drop (k + 1)) = R) := by show _ = _; rw [← HS.out, if_neg (by rw [hk1]; simp), if_neg (by rw [hk2]; simp)]
          clear hk1 hk2
          go_wp2_with (go_at_call 26; refine (rcmp_any _ _ _ _).mono ?_; rintro e w1 ⟨rfl, hw⟩; have hw' := hw.symm; subst hw')
          go_roundw
          case rel => exact ⟨k + 1, by omega, by go_num, HE.out, HB.out.2⟩
          case measure => simp [intOf]; omega
    · obtain rfl : k = N := by omega
      have hz : ¬ ((k : Int) < k) := by omega
      have e0 : ((⟨#[]⟩ : ByteArray), false) = R := by rw [← HB.out.1, List.drop_eq_nil_of_le (by rw [← hN.out]; omega)]; rfl
      have E0 : Hid (((⟨#[]⟩ : ByteArray), false) = R) := e0
      clear e0
      go_wp2_with fail
      go_ret2
      exact ⟨by rw [← E0.out]; rfl, HB.out.2⟩
end Go.Proofs.Ytagnnocecfoggaa
