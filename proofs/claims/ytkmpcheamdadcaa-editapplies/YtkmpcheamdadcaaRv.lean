import Derived.Test.YtkmpcheamdadcaaVar
import Derived.WalkKit
import Derived.WalkSpells
import Derived.WalkLawsBesides
namespace Go.Proofs.Ytkmpcheamdadcaa
open Go.RowKit
set_option linter.unusedVariables false
set_option linter.unusedSimpArgs false

/-- One group more. -/
def grp (n c : Int) (i : Nat) : Int := bits .or .u64 n (IntKind.u64.wrap (c % 128 * 2 ^ (7 * i)))
/-- ReadVarint from the i-th byte on. -/
def rvG : List Int → Nat → Int → Int × Int × Int
  | [], _, _ => (0, 0, 4)
  | c :: l, i, n => if i = 9 ∧ 1 < c then (0, 0, 3) else if 0 < i ∧ c = 0 then (0, 0, 3) else if c < 128 then (grp n c i, (i : Int) + 1, 0) else rvG l (i + 1) (grp n c i)
theorem rvG_a {l : List Int} {k : Nat} {n c : Int} (hc : l[k]? = some c) (h : k = 9) (h' : 1 < c) : rvG (l.drop k) k n = (0, 0, 3) := by
  obtain ⟨h1, h2⟩ := List.getElem?_eq_some_iff.1 hc
  rw [List.drop_eq_getElem_cons h1, h2]; unfold rvG; rw [if_pos ⟨h, h'⟩]
theorem rvG_b {l : List Int} {k : Nat} {n c : Int} (hc : l[k]? = some c) (h : ¬ (k = 9 ∧ 1 < c)) (h' : 0 < k) (h2' : c = 0) : rvG (l.drop k) k n = (0, 0, 3) := by
  obtain ⟨h1, h2⟩ := List.getElem?_eq_some_iff.1 hc
  rw [List.drop_eq_getElem_cons h1, h2]; unfold rvG; rw [if_neg h, if_pos ⟨h', h2'⟩]
theorem rvG_c {l : List Int} {k : Nat} {n c : Int} (hc : l[k]? = some c) (h : ¬ (k = 9 ∧ 1 < c)) (h' : ¬ (0 < k ∧ c = 0)) (h3 : c < 128) : rvG (l.drop k) k n = (grp n c k, (k : Int) + 1, 0) := by
  obtain ⟨h1, h2⟩ := List.getElem?_eq_some_iff.1 hc
  rw [List.drop_eq_getElem_cons h1, h2]; unfold rvG; rw [if_neg h, if_neg h', if_pos h3]
theorem rvG_d {l : List Int} {k : Nat} {n c : Int} (hc : l[k]? = some c) (h : ¬ (k = 9 ∧ 1 < c)) (h' : ¬ (0 < k ∧ c = 0)) (h3 : ¬ c < 128) : rvG (l.drop k) k n = rvG (l.drop (k + 1)) (k + 1) (grp n c k) := by
  obtain ⟨h1, h2⟩ := List.getElem?_eq_some_iff.1 hc
  rw [List.drop_eq_getElem_cons h1, h2]
  conv => lhs; unfold rvG
  rw [if_neg h, if_neg h', if_neg h3]
theorem rvG_e {l : List Int} {k : Nat} {n : Int} (h : l.length ≤ k) : rvG (l.drop k) k n = (0, 0, 4) := by
  rw [List.drop_eq_nil_of_le h]; rfl
theorem ret_3 {a b c : Int} {r : Int × Int × Int} (h : r = (a, b, c)) : Ending.returned (.tuple #[.int .u64 a, .int .i64 b, .int .i64 c]) = .returned (.tuple #[.int .u64 r.1, .int .i64 r.2.1, .int .i64 r.2.2]) := by rw [h]

set_option maxRecDepth 100000 in
set_option maxHeartbeats 2000000 in
theorem crv_any (a : Option Addr) (len cap : Nat) (l : List Int) (w : World) (h : Arg w a len cap l) :
    Calls Try.prog 100 #[.slice a len cap] w fun e w' => e = .returned (.tuple #[.int .u64 (rvG l 0 0).1, .int .i64 (rvG l 0 0).2.1, .int .i64 (rvG l 0 0).2.2]) ∧ w' = w := by
  obtain ⟨hl, h2, h3, h4⟩ := h
  have HL : Hid (l.length = len) := hl
  have hle : len ≤ l.length := by omega
  obtain ⟨R, hR⟩ : ∃ R, rvG l 0 0 = R := ⟨_, rfl⟩
  rw [hR]
  have HR : Hid (rvG l 0 0 = R) := hR
  clear hR hl
  go_enter Try.func100, Try.ntmps100
  go_wp2
  go_loop [5, 10] (fun nn i => ∃ (k : Nat) (n : Int), k ≤ len ∧ k ≤ 9 ∧ i = .int .i64 k ∧ nn = .int .u64 n ∧ Hid (rvG (l.drop k) k n = R)) (fun _ i => len - (intOf i).toNat)
  case atStart => exact ⟨0, 0, Nat.zero_le _, by decide, rfl, rfl, HR⟩
  case round =>
    obtain ⟨k, n, hk, hk9, rfl, rfl, HG⟩ := hrel
    by_cases hlt : k < len
    · rcases h4 with rfl | ⟨b, off, rfl, hbl, hc⟩
      · simp at hle; omega
      · have hkl : k < l.length := by omega
        have hcx := hc k hkl
        have hxx : l[k]? = some l[k] := List.getElem?_eq_getElem hkl
        obtain ⟨x0, x1⟩ := h2 _ (List.getElem_mem hkl)
        generalize l[k] = c at *
        have HX : Hid (l[k]? = some c) := hxx
        clear hxx hc
        by_cases ca : k = 9 ∧ 1 < c
        · obtain ⟨c1, c2⟩ := ca
          have HF := rvG_a (n := n) HX.out c1 c2
          rw [HG.out] at HF
          have HF' : Hid (R = (0, 0, 3)) := HF
          have t1 : ((k : Int) == 9) = true := by simp; omega
          clear HF c1
          go_wp2
          go_ret3
          exact ⟨ret_3 HF'.out, rfl⟩
        · by_cases cb : 0 < k ∧ c = 0
          · obtain ⟨c1, c2⟩ := cb
            have HF := rvG_b (n := n) HX.out ca c1 c2
            rw [HG.out] at HF
            have HF' : Hid (R = (0, 0, 3)) := HF
            have t1 : (c == 0) = true := by simp; omega
            have t2 : ¬ 1 < c := by omega
            have t3 : (0 : Int) < (k : Int) := by omega
            clear HF c2 ca
            go_wp2
            all_goals (go_ret3; exact ⟨ret_3 HF'.out, rfl⟩)
          · have hcase : (k = 9 ∧ c = 1) ∨ (¬ k = 9 ∧ k = 0) ∨ (¬ k = 9 ∧ 0 < k ∧ 0 < c) := by omega
            by_cases c3 : c < 128
            · have HF := rvG_c (n := n) HX.out ca cb c3
              rw [HG.out] at HF
              have HF' : Hid (R = (grp n c k, (k : Int) + 1, 0)) := HF
              clear HF ca cb
              rcases hcase with ⟨c1, c2⟩ | ⟨c1, c2⟩ | ⟨c1, c2, c4⟩
              · have t1 : ((k : Int) == 9) = true := by simp; omega
                have t2 : ¬ 1 < c := by omega
                have t3 : (c == 0) = false := by simp; omega
                have t4 : (0 : Int) < (k : Int) := by omega
                clear c1 c2
                go_wp2
                go_ret3
                exact ⟨ret_3 HF'.out, rfl⟩
              · have t1 : ((k : Int) == 9) = false := by simp; omega
                have t4 : ¬ (0 : Int) < (k : Int) := by omega
                clear c1 c2
                go_wp2
                go_ret3
                exact ⟨ret_3 HF'.out, rfl⟩
              · have t1 : ((k : Int) == 9) = false := by simp; omega
                have t3 : (c == 0) = false := by simp; omega
                have t4 : (0 : Int) < (k : Int) := by omega
                clear c1 c2 c4
                go_wp2
                go_ret3
                exact ⟨ret_3 HF'.out, rfl⟩
            · have HF := rvG_d (n := n) HX.out ca cb c3
              rw [HG.out] at HF
              have HF' : Hid (R = rvG (l.drop (k + 1)) (k + 1) (grp n c k)) := HF
              clear HF ca cb
              have k9 : k < 9 := by omega
              rcases hcase with ⟨c1, c2⟩ | ⟨c1, c2⟩ | ⟨c1, c2, c4⟩
              · omega
              · have t1 : ((k : Int) == 9) = false := by simp; omega
                have t4 : ¬ (0 : Int) < (k : Int) := by omega
                clear c1 c2
                go_wp2
                go_round
                case rel => exact ⟨k + 1, grp n c k, by omega, by omega, by go_num, rfl, HF'.out.symm⟩
                case measure => simp [intOf]; omega
              · have t1 : ((k : Int) == 9) = false := by simp; omega
                have t3 : (c == 0) = false := by simp; omega
                have t4 : (0 : Int) < (k : Int) := by omega
                clear c1 c2 c4
                go_wp2
                go_round
                case rel => exact ⟨k + 1, grp n c k, by omega, by omega, by go_num, rfl, HF'.out.symm⟩
                case measure => simp [intOf]; omega
    · have HF := rvG_e (n := n) (l := l) (k := k) (by have := HL.out; omega)
      rw [HG.out] at HF
      have HF' : Hid (R = (0, 0, 4)) := HF
      clear HF
      go_wp2
      go_ret3
      exact ⟨ret_3 HF'.out, rfl⟩
set_option maxRecDepth 100000 in
set_option maxHeartbeats 2000000 in
theorem rrv_any (a : Option Addr) (len cap : Nat) (l : List Int) (w : World) (h : Arg w a len cap l) :
    Calls Try.prog 106 #[.slice a len cap] w fun e w' => e = .returned (.tuple #[.int .u64 (rvG l 0 0).1, .int .i64 (rvG l 0 0).2.1, .int .i64 (rvG l 0 0).2.2]) ∧ w' = w := by
  obtain ⟨hl, h2, h3, h4⟩ := h
  have HL : Hid (l.length = len) := hl
  have hle : len ≤ l.length := by omega
  obtain ⟨R, hR⟩ : ∃ R, rvG l 0 0 = R := ⟨_, rfl⟩
  rw [hR]
  have HR : Hid (rvG l 0 0 = R) := hR
  clear hR hl
  go_enter Try.func106, Try.ntmps106
  go_wp2
  go_loop [5, 6] (fun nn i => ∃ (k : Nat) (n : Int), k ≤ len ∧ k ≤ 9 ∧ i = .int .i64 k ∧ nn = .int .u64 n ∧ Hid (rvG (l.drop k) k n = R)) (fun _ i => len - (intOf i).toNat)
  case atStart => exact ⟨0, 0, Nat.zero_le _, by decide, rfl, rfl, HR⟩
  case round =>
    obtain ⟨k, n, hk, hk9, rfl, rfl, HG⟩ := hrel
    by_cases hlt : k < len
    · rcases h4 with rfl | ⟨b, off, rfl, hbl, hc⟩
      · simp at hle; omega
      · have hkl : k < l.length := by omega
        have hcx := hc k hkl
        have hxx : l[k]? = some l[k] := List.getElem?_eq_getElem hkl
        obtain ⟨x0, x1⟩ := h2 _ (List.getElem_mem hkl)
        generalize l[k] = c at *
        have hand : bits .and .u64 c 127 = c % 128 := and127 c x0 (by omega)
        have HX : Hid (l[k]? = some c) := hxx
        clear hxx hc
        by_cases ca : k = 9 ∧ 1 < c
        · obtain ⟨c1, c2⟩ := ca
          have HF := rvG_a (n := n) HX.out c1 c2
          rw [HG.out] at HF
          have HF' : Hid (R = (0, 0, 3)) := HF
          have t1 : ((k : Int) == 9) = true := by simp; omega
          clear HF c1
          go_wp2
          go_ret3
          exact ⟨ret_3 HF'.out, rfl⟩
        · by_cases cb : 0 < k ∧ c = 0
          · obtain ⟨c1, c2⟩ := cb
            have HF := rvG_b (n := n) HX.out ca c1 c2
            rw [HG.out] at HF
            have HF' : Hid (R = (0, 0, 3)) := HF
            have t1 : (c == 0) = true := by simp; omega
            have t2 : ¬ 1 < c := by omega
            have t3 : (0 : Int) < (k : Int) := by omega
            clear HF c2 ca
            go_wp2
            all_goals (go_ret3; exact ⟨ret_3 HF'.out, rfl⟩)
          · have hcase : (k = 9 ∧ c = 1) ∨ (¬ k = 9 ∧ k = 0) ∨ (¬ k = 9 ∧ 0 < k ∧ 0 < c) := by omega
            by_cases c3 : c < 128
            · have HF := rvG_c (n := n) HX.out ca cb c3
              rw [HG.out] at HF
              have HF' : Hid (R = (grp n c k, (k : Int) + 1, 0)) := HF
              clear HF ca cb
              rcases hcase with ⟨c1, c2⟩ | ⟨c1, c2⟩ | ⟨c1, c2, c4⟩
              · have t1 : ((k : Int) == 9) = true := by simp; omega
                have t2 : ¬ 1 < c := by omega
                have t3 : (c == 0) = false := by simp; omega
                have t4 : (0 : Int) < (k : Int) := by omega
                clear c1 c2
                go_wp2
                go_ret3
                exact ⟨ret_3 HF'.out, rfl⟩
              · have t1 : ((k : Int) == 9) = false := by simp; omega
                have t4 : ¬ (0 : Int) < (k : Int) := by omega
                clear c1 c2
                go_wp2
                go_ret3
                exact ⟨ret_3 HF'.out, rfl⟩
              · have t1 : ((k : Int) == 9) = false := by simp; omega
                have t3 : (c == 0) = false := by simp; omega
                have t4 : (0 : Int) < (k : Int) := by omega
                clear c1 c2 c4
                go_wp2
                go_ret3
                exact ⟨ret_3 HF'.out, rfl⟩
            · have HF := rvG_d (n := n) HX.out ca cb c3
              rw [HG.out] at HF
              have HF' : Hid (R = rvG (l.drop (k + 1)) (k + 1) (grp n c k)) := HF
              clear HF ca cb
              have k9 : k < 9 := by omega
              rcases hcase with ⟨c1, c2⟩ | ⟨c1, c2⟩ | ⟨c1, c2, c4⟩
              · omega
              · have t1 : ((k : Int) == 9) = false := by simp; omega
                have t4 : ¬ (0 : Int) < (k : Int) := by omega
                clear c1 c2
                go_wp2
                go_round
                case rel => exact ⟨k + 1, grp n c k, by omega, by omega, by go_num, rfl, HF'.out.symm⟩
                case measure => simp [intOf]; omega
              · have t1 : ((k : Int) == 9) = false := by simp; omega
                have t3 : (c == 0) = false := by simp; omega
                have t4 : (0 : Int) < (k : Int) := by omega
                clear c1 c2 c4
                go_wp2
                go_round
                case rel => exact ⟨k + 1, grp n c k, by omega, by omega, by go_num, rfl, HF'.out.symm⟩
                case measure => simp [intOf]; omega
    · have HF := rvG_e (n := n) (l := l) (k := k) (by have := HL.out; omega)
      rw [HG.out] at HF
      have HF' : Hid (R = (0, 0, 4)) := HF
      clear HF
      go_wp2
      go_ret3
      exact ⟨ret_3 HF'.out, rfl⟩
end Go.Proofs.Ytkmpcheamdadcaa
