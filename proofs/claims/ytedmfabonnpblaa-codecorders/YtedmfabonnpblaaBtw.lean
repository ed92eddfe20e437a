import Derived.Test.YtedmfabonnpblaaRai
import Derived.WalkKit
import Derived.WalkSpells
import Derived.WalkLawsBesides
import Derived.BigRegion
import Derived.Deep.QuietTactic
import Derived.BigQuiet
import Derived.Deep.DeepCutAuto
namespace Go.Proofs.Ytedmfabonnpblaa
open Go.RowKit
set_option linter.unusedVariables false
set_option linter.unusedSimpArgs false

theorem btw_at {a b : ByteArray} {i : Nat} (h : Op.bytesLess a.toList b.toList = true) (hi : shl a.data.toList b.data.toList = i) :
    i = a.size ∨ ∃ (h1 : i < a.size) (h2 : i < b.size), a[i].toNat < b[i].toNat ∧ a.data.toList.getD i 0 = a[i] ∧ b.data.toList.getD i 0 = b[i] := by
  rw [ByteArray.toList_eq, ByteArray.toList_eq] at h
  obtain ⟨_, q⟩ := less_shl _ _ h
  rw [hi] at q
  rcases q with q | ⟨c, d, q1, q2, q3⟩
  · left; rw [q]; simp
  · right
    obtain ⟨l1, e1⟩ := List.getElem?_eq_some_iff.1 q1
    obtain ⟨l2, e2⟩ := List.getElem?_eq_some_iff.1 q2
    have h1 : i < a.size := by simpa using l1
    have h2 : i < b.size := by simpa using l2
    have f1 : a[i] = c := e1
    have f2 : b[i] = d := e2
    refine ⟨h1, h2, ?_, ?_, ?_⟩
    · rw [f1, f2]; exact q3
    · rw [List.getD_eq_getElem?_getD, q1, f1]; rfl
    · rw [List.getD_eq_getElem?_getD, q2, f2]; rfl
theorem btw_end {how : Int} {a b : ByteArray} {i : Nat} (hi : shl a.data.toList b.data.toList = i) (h : i = a.size) : btwV how a b = a := by
  unfold btwV; rw [if_neg]; rintro ⟨_, _, h2, _⟩; rw [hi, h] at h2; exact Nat.lt_irrefl _ h2
theorem btw_near {how : Int} {a b : ByteArray} {i : Nat} {x y : Nat} (hi : shl a.data.toList b.data.toList = i) (ha : (a.data.toList.getD i 0).toNat = x) (hb : (b.data.toList.getD i 0).toNat = y) (h : ¬ x + 1 < y) : btwV how a b = a := by
  unfold btwV; rw [if_neg]; rintro ⟨_, _, _, h3⟩; rw [hi, ha, hb] at h3; exact h h3
theorem btw_far {how : Int} {a b : ByteArray} {i : Nat} {x y : Nat} (h0 : how = 0) (hl : Op.bytesLess a.toList b.toList = true) (hi : shl a.data.toList b.data.toList = i) (hs : i < a.size) (ha : (a.data.toList.getD i 0).toNat = x) (hb : (b.data.toList.getD i 0).toNat = y) (h : x + 1 < y) : btwV how a b = raiseV a i := by
  unfold btwV; rw [if_pos]
  · rw [hi]
  · rw [hi, ha, hb]; exact ⟨h0, hl, hs, h⟩

set_option maxHeartbeats 1000000 in
theorem cbetween_any (how : Int) (a b : ByteArray) (w : World) (ha : a.size ≤ maxLen) (hb : b.size ≤ maxLen) :
    Calls Try.prog 36 #[.int .i64 how, .string a, .string b] w fun e w' => e = .returned (.string (btwV how a b)) ∧ Below w.heap.size w w' := by
  have ha' := ha
  have hb' := hb
  unfold maxLen at ha hb
  by_cases h : how = 0
  · have hw : (how != 0) = false := by simp [h]
    have HH : Hid (how = 0) := h
    clear h
    by_cases hl : Op.bytesLess a.toList b.toList = true
    · obtain ⟨i, hi⟩ : ∃ i, shl a.data.toList b.data.toList = i := ⟨_, rfl⟩
      have HI : Hid (shl a.data.toList b.data.toList = i) := hi
      have hsh := shared_any a b w ha' hb'
      rw [hi] at hsh
      have HS : Hid (Calls Try.prog 46 #[.string a, .string b] w fun e w' => e = .returned (.int .i64 i) ∧ Below w.heap.size w w') := hsh
      clear hsh
      rcases btw_at hl hi with hend | ⟨h1, h2, hlt, g1, g2⟩
      · have HF : Hid (btwV how a b = a) := btw_end hi hend
        have t1 : ((i : Int) == (a.size : Int)) = true := by simp [hend]
        clear hend hi
        go_enter Try.func36, Try.ntmps36
        go_wp2_with (go_at_call 46; refine HS.out.mono ?_; rintro e w2 ⟨rfl, hbel⟩)
        go_quiet (fail)
        go_wp2
        go_ret
        exact ⟨ret_s HF.out.symm, below_drewN hbel _⟩
      · have t1 : ((i : Int) == (a.size : Int)) = false := by simp; omega
        have i0 : (0 : Int) ≤ (i : Int) := Int.natCast_nonneg _
        have i1 : (i : Int) < (a.size : Int) := by omega
        have i2 : (i : Int) < (b.size : Int) := by omega
        have b1 := b[i].toNat_lt
        by_cases hn : a[i].toNat + 1 < b[i].toNat
        · have HF : Hid (btwV how a b = raiseV a i) := btw_far HH.out hl hi h1 (by rw [g1]) (by rw [g2]) hn
          have t2 : (((a[i].toNat : Int) + 1) % 256 == (b[i].toNat : Int)) = false := by simp; omega
          clear hi g1 g2
          go_enter Try.func36, Try.ntmps36
          go_wp2_with (go_at_call 46; refine HS.out.mono ?_; rintro e w2 ⟨rfl, hbel⟩)
          go_quiet (fail)
          go_wp2_with (go_at_call 47; refine (raised_any a i _ h1 ha').mono ?_; rintro e w3 ⟨rfl, hbel3⟩)
          go_ret
          exact ⟨ret_s HF.out.symm, (below_drewN hbel _).trans (hbel3.mono (below_drewN hbel _).size)⟩
        · have HF : Hid (btwV how a b = a) := btw_near hi (by rw [g1]) (by rw [g2]) hn
          have t2 : (((a[i].toNat : Int) + 1) % 256 == (b[i].toNat : Int)) = true := by simp; omega
          clear hi g1 g2
          go_enter Try.func36, Try.ntmps36
          go_wp2_with (go_at_call 46; refine HS.out.mono ?_; rintro e w2 ⟨rfl, hbel⟩)
          go_quiet (fail)
          go_wp2
          go_ret
          exact ⟨ret_s HF.out.symm, below_drewN hbel _⟩
    · have hl' : Op.bytesLess a.toList b.toList = false := by simpa using hl
      have HF : Hid (btwV how a b = a) := btwV_no (fun x => hl x.2)
      clear hl
      go_enter Try.func36, Try.ntmps36
      go_wp2
      go_ret
      exact ⟨ret_s HF.out.symm, Below.refl _ _⟩
  · have hw : (how != 0) = true := by simp [h]
    have HF : Hid (btwV how a b = a) := btwV_no (fun x => h x.1)
    clear h
    go_enter Try.func36, Try.ntmps36
    go_wp2
    go_ret
    exact ⟨ret_s HF.out.symm, Below.refl _ _⟩

theorem shl_here {a b : ByteArray} {k : Nat} (hC : ∀ j, j < k → a.data.toList[j]? = b.data.toList[j]?) (h1 : k ≤ a.size) (h2 : k ≤ b.size) (hn : ¬ ∃ (h1 : k < a.size) (h2 : k < b.size), a[k] = b[k]) : shl a.data.toList b.data.toList = k := by
  refine shl_end k _ _ hC (by simpa using h1) (by simpa using h2) ?_
  by_cases g1 : k < a.size
  · by_cases g2 : k < b.size
    · right; right
      exact sh_stop (List.getElem?_eq_getElem (by simpa using g1)) (List.getElem?_eq_getElem (by simpa using g2)) (fun e => hn ⟨g1, g2, e⟩)
    · right; left; simp; omega
  · left; simp; omega

set_option maxRecDepth 100000 in
set_option maxHeartbeats 2000000 in
theorem rbetween_any (how : Int) (a b : ByteArray) (w : World) (ha : a.size ≤ maxLen) (hb : b.size ≤ maxLen) :
    Calls Try.prog 38 #[.int .i64 how, .string a, .string b] w fun e w' => e = .returned (.string (btwV how a b)) ∧ Below w.heap.size w w' := by
  have ha' := ha
  have hb' := hb
  unfold maxLen at ha hb
  by_cases h : how = 0
  · have hw : (how != 0) = false := by simp [h]
    have HH : Hid (how = 0) := h
    clear h
    by_cases hl : Op.bytesLess a.toList b.toList = true
    · go_enter Try.func38, Try.ntmps38
      go_wp2
      go_loopw [7] (fun i wr => ∃ k : Nat, k ≤ a.size ∧ k ≤ b.size ∧ i = .int .i64 k ∧ Hid (∀ j, j < k → a.data.toList[j]? = b.data.toList[j]?) ∧ Below w.heap.size w wr) (fun i _ => a.size - (intOf i).toNat)
      case atStart => exact ⟨0, Nat.zero_le _, Nat.zero_le _, rfl, fun j hj => absurd hj (Nat.not_lt_zero _), Below.refl _ _⟩
      case round =>
        obtain ⟨k, hka, hkb, rfl, HC, hbel⟩ := hrel
        have k0 : (0 : Int) ≤ (k : Int) := Int.natCast_nonneg _
        by_cases hc : ∃ (h1 : k < a.size) (h2 : k < b.size), a[k] = b[k]
        · obtain ⟨h1, h2, he⟩ := hc
          have i1 : (k : Int) < (a.size : Int) := by omega
          have i2 : (k : Int) < (b.size : Int) := by omega
          have t1 : ((a[k].toNat : Int) == (b[k].toNat : Int)) = true := by simp [he]
          have HA : Hid (a.data.toList[k]? = some a[k]) := List.getElem?_eq_getElem (by simpa using h1)
          have HB : Hid (b.data.toList[k]? = some b[k]) := List.getElem?_eq_getElem (by simpa using h2)
          have HE : Hid (a[k] = b[k]) := he
          clear he
          go_wp2
          go_quiet (fail)
          go_wp2
          go_roundw
          case rel => exact ⟨k + 1, by omega, by omega, by go_num, sh_next HC.out HA.out HB.out HE.out, below_drewN hbel _⟩
          case measure => simp [intOf]; omega
        · have hi := shl_here HC.out hka hkb hc
          clear hc
          rcases btw_at hl hi with hend | ⟨h1, h2, hlt, g1, g2⟩
          · have HF : Hid (btwV how a b = a) := btw_end hi hend
            subst hend
            clear hi
            go_wp2
            go_quiet (fail)
            go_wp2
            go_quiet (fail)
            go_wp2
            go_ret
            exact ⟨ret_s HF.out.symm, below_drewN (below_drewN hbel _) _⟩
          · have i1 : (k : Int) < (a.size : Int) := by omega
            have i2 : (k : Int) < (b.size : Int) := by omega
            have b1 := b[k].toNat_lt
            have t0 : ((a[k].toNat : Int) == (b[k].toNat : Int)) = false := by simp; omega
            have t3 : (a[k].toNat : Int) < 255 := by omega
            by_cases hn : a[k].toNat + 1 < b[k].toNat
            · have HF : Hid (btwV how a b = raiseV a k) := btw_far HH.out hl hi h1 (by rw [g1]) (by rw [g2]) hn
              have t2 : ((a[k].toNat : Int) + 1) % 256 < (b[k].toNat : Int) := by omega
              clear hi g1 g2
              go_wp2
              go_quiet (fail)
              go_wp2
              go_quiet (fail)
              go_wp2_with (go_at_call 48; refine (more_any a k _ h1 ha').mono ?_; rintro e w3 ⟨rfl, hbel3⟩)
              go_ret
              exact ⟨ret_s HF.out.symm, (below_drewN hbel _).trans (hbel3.mono (below_drewN hbel _).size)⟩
            · have HF : Hid (btwV how a b = a) := btw_near hi (by rw [g1]) (by rw [g2]) hn
              have t2 : decide (((a[k].toNat : Int) + 1) % 256 < (b[k].toNat : Int)) = false := by simp; omega
              clear hi g1 g2
              go_wp2
              go_quiet (fail)
              go_wp2
              go_quiet (fail)
              go_wp2
              go_ret
              exact ⟨ret_s HF.out.symm, below_drewN (below_drewN hbel _) _⟩
    · have hl' : Op.bytesLess a.toList b.toList = false := by simpa using hl
      have HF : Hid (btwV how a b = a) := btwV_no (fun x => hl x.2)
      clear hl
      go_enter Try.func38, Try.ntmps38
      go_wp2
      go_ret
      exact ⟨ret_s HF.out.symm, Below.refl _ _⟩
  · have hw : (how != 0) = true := by simp [h]
    have HF : Hid (btwV how a b = a) := btwV_no (fun x => h x.1)
    clear h
    go_enter Try.func38, Try.ntmps38
    go_wp2
    go_ret
    exact ⟨ret_s HF.out.symm, Below.refl _ _⟩
end Go.Proofs.Ytedmfabonnpblaa
