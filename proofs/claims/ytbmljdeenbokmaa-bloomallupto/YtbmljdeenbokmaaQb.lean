/-
  The reference's May.
-/
import Derived.Test.YtbmljdeenbokmaaQa
namespace Go.Proofs.Ytbmljdeenbokmaa
open Go.RowKit Go.Maps
set_option linter.unusedVariables false
set_option linter.unusedSimpArgs false

/-- A bit, shifted down. -/
theorem hasb_shr {l : List Int} (hB : Byt l) (p : Int) (q : Nat) (hq : p / 8 = q) (y : Int) (hy : l.getD q 0 = y) : ((y / 2 ^ (p % 8).toNat).tmod 2 == 0) = !hasb l p := by
  have hyb := byt_get hB q
  rw [hy] at hyb
  rw [hasb_test hB, Nat.testBit_eq_decide_div_mod_eq, hq, Int.toNat_natCast, hy]
  obtain ⟨z, rfl⟩ : ∃ z : Nat, y = z := ⟨y.toNat, by omega⟩
  have e : ((z : Int) / 2 ^ (p % 8).toNat) = ((z / 2 ^ (p % 8).toNat : Nat) : Int) := by simp
  rw [e, Int.tmod_eq_emod_of_nonneg (Int.natCast_nonneg _), Int.toNat_natCast]
  generalize z / 2 ^ (p % 8).toNat = t
  have : t % 2 = 0 ∨ t % 2 = 1 := by omega
  rcases this with h | h
  · have h' : (t : Int) % 2 = 0 := by omega
    simp [h, h']
  · have h' : (t : Int) % 2 = 1 := by omega
    simp [h, h']
set_option maxRecDepth 100000 in
set_option maxHeartbeats 1000000 in
theorem rmay_no (a : Option Addr) (len cap : Nat) (l : List Int) (s : ByteArray) (w : World) (h : Arg w a len l) (hk : chkB l = false) :
    Calls Try.prog 20 #[.slice a len cap, .string s] w fun e w' => e = .returned (.bool true) ∧ w' = w := by
  have H : Hid (Arg w a len l) := h
  have HK : Hid (chk l = 3) := chk_no hk
  clear h hk
  go_enter Try.func20, Try.ntmps20
  go_wp2_with (go_at_call 18; refine (rcheck_any a len cap l _ H.out).mono ?_; rw [HK.out]; rintro e w3 ⟨rfl, hw3⟩; have hw4 := hw3.symm; subst hw4; clear hw3)
  go_ret
  exact ⟨rfl, rfl⟩
set_option maxRecDepth 100000 in
set_option maxHeartbeats 2000000 in
theorem rmay_yes (N cap : Nat) (b off : Nat) (l : List Int) (s : ByteArray) (w : World) (hs : s.size ≤ maxLen) (hl : l.length = N + 1) (hN8 : 8 ≤ N) (hN : N ≤ 16777216) (hB : Byt l) (hlt : b < w.heap.size) (hc : ∀ j, j < l.length → w.cell? ⟨b, off + j, none⟩ = some (.int .u8 (l.getD j 0)))
    (hk : chkB l = true) (x : Int) (hx : l.getD N 0 = x) (hx0 : 1 ≤ x) (hx1 : x ≤ 30) (res : Bool) (hres : (prbs (hsh s) (N * 8) x.toNat).all (hasb l) = res) :
    Calls Try.prog 20 #[.slice (some ⟨b, off, none⟩) (N + 1) cap, .string s] w fun e w' => e = .returned (.bool res) ∧ Below w.heap.size w w' := by
  have H : Hid (Arg w (some ⟨b, off, none⟩) (N + 1) l) := ⟨hl, hB, by omega, .inr ⟨b, off, rfl, hlt, hc⟩⟩
  have HK : Hid (chk l = 0) := chk_yes hk
  have hcN : w.cell? ⟨b, off + N, none⟩ = some (.int .u8 x) := by rw [hc N (by omega), hx]
  have HR : Hid ((prbs (hsh s) (N * 8) x.toNat).all (hasb l) = res) := hres
  have HC : Hid (∀ j, j < l.length → w.cell? ⟨b, off + j, none⟩ = some (.int .u8 (l.getD j 0))) := hc
  have HL : Hid (l.length = N + 1) := hl
  obtain ⟨n, rfl⟩ : ∃ n : Nat, x = n := ⟨x.toNat, by omega⟩
  have HRB : Hid (∀ W, Calls Try.prog 25 #[.string s, .int .u64 (8 * (N : Int)), .int .i64 n] W fun e w' => ∃ av cv, e = .returned (.slice av n cv) ∧ w'.ownsRow W.heap.size 31 1 (.slice av n cv) n (lc (prbs (hsh s) (N * 8) n)) ∧ Below W.heap.size W w') := fun W => by
    have := rbits_any s (8 * (N : Int)) n W hs (by omega) (by omega) (by omega)
    rw [Int.mul_comm 8 (N : Int)] at this
    rw [Int.mul_comm 8 (N : Int)]; exact this
  have HPB : Hid (∀ p ∈ prbs (hsh s) (N * 8) n, 0 ≤ p ∧ (p / 8).toNat < N) := prbs_lt (hsh s) N (by omega) n
  have HPL : Hid ((prbs (hsh s) (N * 8) n).length = n) := prbs_length _ _ _
  rw [Int.toNat_natCast] at HR
  generalize prbs (hsh s) (N * 8) n = T at *
  clear hk hres hx hc hl
  go_enter Try.func20, Try.ntmps20
  go_wp2_with (first
    | (go_at_call 25; refine (HRB.out _).mono ?_; rintro e w3 ⟨av, cv, rfl, hrow, hb3⟩)
    | (go_at_call 18; refine (rcheck_any _ (N + 1) cap l _ H.out).mono ?_; rw [HK.out]; rintro e w3 ⟨rfl, hw3⟩; have hw4 := hw3.symm; subst hw4; clear hw3))
  obtain ⟨_, hT⟩ := row_lcell hrow
  obtain ⟨tb, rfl, htb, htl, htc⟩ : ∃ b, av = some ⟨b, 0, none⟩ ∧ w.heap.size ≤ b ∧ b < w3.heap.size ∧ ∀ j, j < n → w3.cell? ⟨b, j, none⟩ = some (.int .u64 (T.getD j 0)) := by
    rcases hT with hT | hT
    · have := HPL.out; rw [hT] at this; simp at this; omega
    · exact hT
  have HTC : Hid (∀ j, j < n → w3.cell? ⟨tb, j, none⟩ = some (.int .u64 (T.getD j 0))) := htc
  clear hT htc hrow
  go_loopw [7] (fun i wr => ∃ k : Nat, k ≤ n ∧ i = .int .i64 k ∧ (∀ j, j < k → hasb l (T.getD j 0) = true) ∧ Below w3.heap.size w3 wr) (fun i _ => ((n : Int) - intOf i).toNat)
  case atStart => exact ⟨0, Nat.zero_le _, rfl, by omega, Below.refl _ _⟩
  case round =>
    obtain ⟨k, hk, rfl, hall, hbr⟩ := hrel
    by_cases hlk : k < n
    · have hpm : T.getD k 0 ∈ T := by rw [List.getD_eq_getElem?_getD, List.getElem?_eq_getElem (by rw [HPL.out]; exact hlk)]; exact List.getElem_mem _
      obtain ⟨hp0, hp1⟩ := HPB.out _ hpm
      have c1 : wr.cell? ⟨tb, k, none⟩ = some (.int .u64 (T.getD k 0)) := (hbr.cell (p := ⟨tb, k, none⟩) htl).trans (HTC.out k hlk)
      have HMEM : Hid (T.getD k 0 ∈ T) := hpm
      obtain ⟨p, hp⟩ : ∃ p, T.getD k 0 = p := ⟨_, rfl⟩
      have HP : Hid (T.getD k 0 = p) := hp
      rw [hp] at hp0 hp1 c1
      obtain ⟨q, hq⟩ : ∃ q : Nat, p / 8 = q := ⟨(p / 8).toNat, by omega⟩
      have hqN : q < N := by omega
      have c2 : wr.cell? ⟨b, off + q, none⟩ = some (.int .u8 (l.getD q 0)) := (hbr.cell (p := ⟨b, off + q, none⟩) (Nat.lt_of_lt_of_le hlt hb3.size)).trans ((hb3.cell (p := ⟨b, off + q, none⟩) hlt).trans (HC.out q (by rw [HL.out]; omega)))
      have hyb := byt_get hB q
      obtain ⟨y, hy⟩ : ∃ y, l.getD q 0 = y := ⟨_, rfl⟩
      rw [hy] at c2 hyb
      obtain ⟨hy0, hy1⟩ := hyb
      have hsh := hasb_shr hB p q hq y hy
      clear hp hpm hy
      obtain ⟨hv, hhv⟩ : ∃ v, hasb l p = v := ⟨_, rfl⟩
      rw [hhv] at hsh
      have HV : Hid (hasb l p = hv) := hhv
      clear hhv
      cases hv with
      | true =>
        have hsh' : ((y / 2 ^ (p % 8).toNat).tmod 2 == 0) = false := hsh
        clear hsh
        go_wp2
        go_quiet (fail)
        go_wp2
        go_roundw
        case rel =>
          refine ⟨k + 1, by omega, by go_num, fun j hj => ?_, hbr.trans ⟨rfl, rfl, rfl, Nat.le_refl _, fun _ _ => rfl⟩⟩
          by_cases hjk : j < k
          · exact hall j hjk
          · obtain rfl : j = k := by omega
            rw [HP.out]; exact HV.out
        case measure => simp [intOf]; omega
      | false =>
        have hsh' : ((y / 2 ^ (p % 8).toNat).tmod 2 == 0) = true := hsh
        have HRF : Hid (res = false) := by
          show res = false
          rw [← HR.out, List.all_eq_false]
          exact ⟨_, HMEM.out, by rw [HP.out, HV.out]; simp⟩
        clear hsh
        go_wp2
        go_quiet (fail)
        go_wp2
        go_ret
        exact ⟨by rw [HRF.out]; rfl, (hb3.trans (hbr.mono hb3.size)).trans ⟨rfl, rfl, rfl, Nat.le_refl _, fun _ _ => rfl⟩⟩
    · have HKN : Hid (k = n) := by show _ = _; omega
      have hki : ¬ ((k : Int) < (n : Int)) := by omega
      have HRT : Hid (res = true) := by
        show res = true
        rw [← HR.out, List.all_eq_true]
        intro p hp
        obtain ⟨j, hj, rfl⟩ := List.getElem_of_mem hp
        have := hall j (by rw [HPL.out] at hj; have := HKN.out; omega)
        rwa [List.getD_eq_getElem?_getD, List.getElem?_eq_getElem hj] at this
      go_wp2
      go_ret
      exact ⟨by rw [HRT.out]; rfl, hb3.trans (hbr.mono hb3.size)⟩
/-- The reference's May, whatever the bytes are. -/
theorem rmay_any (a : Option Addr) (len cap : Nat) (l : List Int) (s : ByteArray) (w : World) (hs : s.size ≤ maxLen) (h : Arg w a len l) :
    Calls Try.prog 20 #[.slice a len cap, .string s] w fun e w' => e = .returned (.bool (mayB l s)) ∧ Below w.heap.size w w' := by
  cases hk : chkB l with
  | false =>
    have e : mayB l s = true := by simp [mayB, hk]
    rw [e]
    exact (rmay_no a len cap l s w h hk).mono fun e w' ⟨h1, h2⟩ => ⟨h1, by rw [h2]; exact Below.refl _ _⟩
  | true =>
    obtain ⟨rfl, hB, hl, h4⟩ := h
    have hk' := hk
    simp only [chkB, isf, Bool.and_eq_true, decide_eq_true_eq] at hk'
    obtain ⟨⟨h9, hx0, hx1⟩, hN⟩ := hk'
    rcases h4 with rfl | ⟨b, off, rfl, hlt, hc⟩
    · simp at h9
    · obtain ⟨N, hNe⟩ : ∃ N, l.length = N + 1 := ⟨l.length - 1, by omega⟩
      have e : mayB l s = (prbs (hsh s) (N * 8) (l.getD N 0).toNat).all (hasb l) := by
        simp [mayB, hk, kprbs, mbits, lastB, hNe]
      rw [e, hNe]
      rw [hNe, show N + 1 - 1 = N by omega] at hx0 hx1
      exact rmay_yes N cap b off l s w hs hNe (by omega) (by omega) hB hlt hc hk _ rfl hx0 hx1 _ rfl
end Go.Proofs.Ytbmljdeenbokmaa
