import Derived.Test.YtedmfabonnpblaaLive
import Derived.Test.YtedmfabonnpblaaMc
import Derived.WalkKit
import Derived.WalkSpells
import Derived.WalkLawsBesides
import Derived.BigRegion
import Derived.Deep.QuietTactic
import Derived.BigQuiet
namespace Go.Proofs.Ytedmfabonnpblaa
open Go.RowKit
set_option linter.unusedVariables false
set_option linter.unusedSimpArgs false

theorem bstr1 (x : Int) : bstr [x] = ⟨#[UInt8.ofNat x.toNat]⟩ := rfl
theorem cv1 (w : World) (x : Int) : (convert 23 9 (.slice (some ⟨w.heap.size, 0, none⟩) 1 1)).run Try.prog (w.alloc (.cells #[.int .u8 x] 5)).drew = .ok (.string ⟨#[UInt8.ofNat x.toNat]⟩) (w.alloc (.cells #[.int .u8 x] 5)).drew := by
  have := run_string_at (P := Try.prog) (w.alloc (.cells #[.int .u8 x] 5)).drew 23 9 Try.underlying23 Try.underlying5 Try.underlying9 w.heap.size 0 1 [x] (by
    intro j hj
    have : j = 0 := by simp at hj; omega
    subst this
    exact World.cell?_alloc_new w #[.int .u8 x] 5 0)
  rw [bstr1] at this
  exact this
theorem ret_s {a b : ByteArray} (h : a = b) : Ending.returned (.string a) = .returned (.string b) := by rw [h]

set_option maxHeartbeats 1000000 in
theorem raised_any (a : ByteArray) (i : Nat) (w : World) (hi : i < a.size) (hm : a.size ≤ maxLen) :
    Calls Try.prog 47 #[.string a, .int .i64 i] w fun e w' => e = .returned (.string (raiseV a i)) ∧ Below w.heap.size w w' := by
  have HR : Hid (a.extract 0 i ++ ⟨#[UInt8.ofNat ((a[i].toNat + 1) % 256)]⟩ = raiseV a i) := raise_eq a i hi
  unfold maxLen at hm
  have hi0 : (0 : Int) ≤ (i : Int) := Int.natCast_nonneg _
  have hi1 : (i : Int) < (a.size : Int) := by omega
  have hi2 : (i : Int) ≤ (a.size : Int) := by omega
  have hcv := cv1 w
  go_enter Try.func47, Try.ntmps47
  go_wp2
  go_region
  go_wp2
  go_ret
  exact ⟨ret_s HR.out, ((Below.refl _ _).alloc (Nat.le_refl _) _).drew⟩
set_option maxHeartbeats 1000000 in
theorem more_any (a : ByteArray) (i : Nat) (w : World) (hi : i < a.size) (hm : a.size ≤ maxLen) :
    Calls Try.prog 48 #[.string a, .int .i64 i] w fun e w' => e = .returned (.string (raiseV a i)) ∧ Below w.heap.size w w' := by
  have HR : Hid (a.extract 0 i ++ ⟨#[UInt8.ofNat ((a[i].toNat + 1) % 256)]⟩ = raiseV a i) := raise_eq a i hi
  unfold maxLen at hm
  have hi0 : (0 : Int) ≤ (i : Int) := Int.natCast_nonneg _
  have hi1 : (i : Int) < (a.size : Int) := by omega
  have hi2 : (i : Int) ≤ (a.size : Int) := by omega
  have hcv := cv1 w
  go_enter Try.func48, Try.ntmps48
  go_wp2
  go_region
  go_wp2
  go_ret
  exact ⟨ret_s HR.out, ((Below.refl _ _).alloc (Nat.le_refl _) _).drew⟩

set_option maxHeartbeats 1000000 in
theorem shared_any (a b : ByteArray) (w : World) (ha : a.size ≤ maxLen) (hb : b.size ≤ maxLen) :
    Calls Try.prog 46 #[.string a, .string b] w fun e w' => e = .returned (.int .i64 (shl a.data.toList b.data.toList)) ∧ Below w.heap.size w w' := by
  unfold maxLen at ha hb
  by_cases hle : a.size ≤ b.size
  · have hle' : (a.size : Int) ≤ (b.size : Int) := by omega
    go_enter Try.func46, Try.ntmps46
    go_wp2
    go_loopw [13] (fun i wr => ∃ k : Nat, k ≤ a.size ∧ i = .int .i64 k ∧ Hid (∀ j, j < k → a.data.toList[j]? = b.data.toList[j]?) ∧ Below w.heap.size w wr) (fun i _ => a.size - (intOf i).toNat)
    case atStart => exact ⟨0, Nat.zero_le _, rfl, fun j hj => absurd hj (Nat.not_lt_zero _), Below.refl _ _⟩
    case round =>
      obtain ⟨k, hk, rfl, HC, hbel⟩ := hrel
      have hk0 : (0 : Int) ≤ (k : Int) := Int.natCast_nonneg _
      by_cases hlt : k < a.size
      · have ka : (k : Int) < (a.size : Int) := by omega
        have kb : (k : Int) < (b.size : Int) := by omega
        have ka' : k < a.size := by omega
        have kb' : k < b.size := by omega
        have HA : Hid (a.data.toList[k]? = some a[k]) := List.getElem?_eq_getElem (by simpa using ka')
        have HB : Hid (b.data.toList[k]? = some b[k]) := List.getElem?_eq_getElem (by simpa using kb')
        go_wp2
        go_quiet (fail)
        go_wp2
        · go_ret
          have hsh := shl_end k _ _ HC.out (by simp; omega) (by simp; omega) (.inr (.inr (sh_stop HA.out HB.out (ne_test ‹_›))))
          exact ⟨ret_i (by rw [hsh]), below_drewN hbel _⟩
        · go_roundw
          case rel => exact ⟨k + 1, by omega, by go_num, sh_next HC.out HA.out HB.out (eq_test ‹_›), below_drewN hbel _⟩
          case measure => simp [intOf]; omega
      · obtain rfl : k = a.size := by omega
        go_wp2
        go_ret
        exact ⟨ret_i (by rw [shl_end a.size _ _ HC.out (by first | (simp; done) | (simp; omega)) (by first | (simp; done) | (simp; omega)) (by simp)]), hbel⟩
  · have hle' : (b.size : Int) < (a.size : Int) := by omega
    go_enter Try.func46, Try.ntmps46
    go_wp2
    go_loopw [13] (fun i wr => ∃ k : Nat, k ≤ b.size ∧ i = .int .i64 k ∧ Hid (∀ j, j < k → a.data.toList[j]? = b.data.toList[j]?) ∧ Below w.heap.size w wr) (fun i _ => b.size - (intOf i).toNat)
    case atStart => exact ⟨0, Nat.zero_le _, rfl, fun j hj => absurd hj (Nat.not_lt_zero _), Below.refl _ _⟩
    case round =>
      obtain ⟨k, hk, rfl, HC, hbel⟩ := hrel
      have hk0 : (0 : Int) ≤ (k : Int) := Int.natCast_nonneg _
      by_cases hlt : k < b.size
      · have ka : (k : Int) < (a.size : Int) := by omega
        have kb : (k : Int) < (b.size : Int) := by omega
        have ka' : k < a.size := by omega
        have kb' : k < b.size := by omega
        have HA : Hid (a.data.toList[k]? = some a[k]) := List.getElem?_eq_getElem (by simpa using ka')
        have HB : Hid (b.data.toList[k]? = some b[k]) := List.getElem?_eq_getElem (by simpa using kb')
        go_wp2
        go_quiet (fail)
        go_wp2
        · go_ret
          have hsh := shl_end k _ _ HC.out (by simp; omega) (by simp; omega) (.inr (.inr (sh_stop HA.out HB.out (ne_test ‹_›))))
          exact ⟨ret_i (by rw [hsh]), below_drewN hbel _⟩
        · go_roundw
          case rel => exact ⟨k + 1, by omega, by go_num, sh_next HC.out HA.out HB.out (eq_test ‹_›), below_drewN hbel _⟩
          case measure => simp [intOf]; omega
      · obtain rfl : k = b.size := by omega
        go_wp2
        go_ret
        exact ⟨ret_i (by rw [shl_end b.size _ _ HC.out (by first | (simp; done) | (simp; omega)) (by first | (simp; done) | (simp; omega)) (by simp)]), hbel⟩

theorem af_next {a : ByteArray} {k : Nat} {x : UInt8} (h : ∀ j, j < k → ∀ c, a.data.toList[j]? = some c → ¬ c.toNat < 255) (ha : a.data.toList[k]? = some x) (e : ¬ x.toNat < 255) : ∀ j, j < k + 1 → ∀ c, a.data.toList[j]? = some c → ¬ c.toNat < 255 := by
  intro j hj c hc
  by_cases hjk : j < k
  · exact h j hjk c hc
  · obtain rfl : j = k := by omega
    rw [ha] at hc; cases hc; exact e

set_option maxHeartbeats 1000000 in
theorem cafter_any (how : Int) (a : ByteArray) (w : World) (ha : a.size ≤ maxLen) :
    Calls Try.prog 37 #[.int .i64 how, .string a] w fun e w' => e = .returned (.string (aftV how a)) ∧ Below w.heap.size w w' := by
  have ha' := ha
  unfold maxLen at ha
  by_cases h : how = 0
  · have hb : (how != 0) = false := by simp [h]
    have HH : Hid (how = 0) := h
    clear h
    go_enter Try.func37, Try.ntmps37
    go_wp2
    go_loopw [11] (fun i wr => ∃ k : Nat, k ≤ a.size ∧ i = .int .i64 k ∧ Hid (∀ j, j < k → ∀ c, a.data.toList[j]? = some c → ¬ c.toNat < 255) ∧ wr = w) (fun i _ => a.size - (intOf i).toNat)
    case atStart => exact ⟨0, Nat.zero_le _, rfl, fun j hj => absurd hj (Nat.not_lt_zero _), rfl⟩
    case round =>
      obtain ⟨k, hk, rfl, HC, rfl⟩ := hrel
      have hk0 : (0 : Int) ≤ (k : Int) := Int.natCast_nonneg _
      by_cases hlt : k < a.size
      · have ka : (k : Int) < (a.size : Int) := by omega
        have HA : Hid (a.data.toList[k]? = some a[k]) := List.getElem?_eq_getElem (by simpa using hlt)
        by_cases hc : (a[k].toNat : Int) < 255
        · have HF : Hid (aftV how a = raiseV a k) := aftV_some HH.out HC.out HA.out (by omega)
          go_wp2_with (go_at_call 47; refine (raised_any a k _ hlt ha').mono ?_; rintro e w2 ⟨rfl, hbel⟩)
          go_ret
          exact ⟨ret_s HF.out.symm, hbel⟩
        · go_wp2
          go_roundw
          case rel => exact ⟨k + 1, by omega, by go_num, af_next HC.out HA.out (by omega), trivial⟩
          case measure => simp [intOf]; omega
      · obtain rfl : k = a.size := by omega
        go_wp2
        go_ret
        exact ⟨ret_s (aftV_none HC.out).symm, Below.refl _ _⟩
  · have hb : (how != 0) = true := by simp [h]
    have HF : Hid (aftV how a = a) := aftV_no h
    clear h
    go_enter Try.func37, Try.ntmps37
    go_wp2
    go_ret
    exact ⟨ret_s HF.out.symm, Below.refl _ _⟩

set_option maxHeartbeats 1000000 in
theorem rafter_any (how : Int) (a : ByteArray) (w : World) (ha : a.size ≤ maxLen) :
    Calls Try.prog 39 #[.int .i64 how, .string a] w fun e w' => e = .returned (.string (aftV how a)) ∧ Below w.heap.size w w' := by
  have ha' := ha
  unfold maxLen at ha
  by_cases h : how = 0
  · have hb : (how == 0) = true := by simp [h]
    have HH : Hid (how = 0) := h
    clear h
    go_enter Try.func39, Try.ntmps39
    go_wp2
    go_loopw [5] (fun i wr => ∃ k : Nat, k ≤ a.size ∧ i = .int .i64 k ∧ Hid (∀ j, j < k → ∀ c, a.data.toList[j]? = some c → ¬ c.toNat < 255) ∧ wr = w) (fun i _ => a.size - (intOf i).toNat)
    case atStart => exact ⟨0, Nat.zero_le _, rfl, fun j hj => absurd hj (Nat.not_lt_zero _), rfl⟩
    case round =>
      obtain ⟨k, hk, rfl, HC, rfl⟩ := hrel
      have hk0 : (0 : Int) ≤ (k : Int) := Int.natCast_nonneg _
      by_cases hlt : k < a.size
      · have ka : (k : Int) < (a.size : Int) := by omega
        have HA : Hid (a.data.toList[k]? = some a[k]) := List.getElem?_eq_getElem (by simpa using hlt)
        by_cases hc : (a[k].toNat : Int) < 255
        · have HF : Hid (aftV how a = raiseV a k) := aftV_some HH.out HC.out HA.out (by omega)
          go_wp2_with (go_at_call 48; refine (more_any a k _ hlt ha').mono ?_; rintro e w2 ⟨rfl, hbel⟩)
          go_ret
          exact ⟨ret_s HF.out.symm, hbel⟩
        · go_wp2
          go_roundw
          case rel => exact ⟨k + 1, by omega, by go_num, af_next HC.out HA.out (by omega), trivial⟩
          case measure => simp [intOf]; omega
      · obtain rfl : k = a.size := by omega
        go_wp2
        go_ret
        exact ⟨ret_s (aftV_none HC.out).symm, Below.refl _ _⟩
  · have hb : (how == 0) = false := by simp [h]
    have HF : Hid (aftV how a = a) := aftV_no h
    clear h
    go_enter Try.func39, Try.ntmps39
    go_wp2
    go_loopw [5] (fun i wr => i = .int .i64 0 ∧ wr = w) (fun _ _ => 0)
    case atStart => exact ⟨rfl, rfl⟩
    case round =>
      obtain ⟨rfl, rfl⟩ := hrel
      go_wp2
      all_goals
        go_ret
        exact ⟨ret_s HF.out.symm, Below.refl _ _⟩
end Go.Proofs.Ytedmfabonnpblaa
