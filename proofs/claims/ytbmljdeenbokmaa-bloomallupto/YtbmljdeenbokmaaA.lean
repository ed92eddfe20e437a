/-
  The leaves: Hash, Probes, bytesFor, mark, isFilter, Check.
-/
import Derived.Test.YtbmljdeenbokmaaProg
import Derived.Test.YtbmljdeenbokmaaMa
import Derived.WalkKit
import Derived.WalkSpells
import Derived.WalkLawsBesides
import Derived.Deep.QuietTactic
import Derived.BigQuiet
import Derived.Below
namespace Go.Proofs.Ytbmljdeenbokmaa
open Go.RowKit
set_option linter.unusedVariables false
set_option linter.unusedSimpArgs false
theorem ret_i {k : IntKind} {a b : Int} (h : a = b) : Ending.returned (.int k a) = .returned (.int k b) := by rw [h]
theorem ret2_i {k : IntKind} {a b : Int} {x : Value} (h : a = b) : Ending.returned (.tuple #[.int k a, x]) = .returned (.tuple #[.int k b, x]) := by rw [h]
theorem ret_b {a b : Bool} (h : a = b) : Ending.returned (.bool a) = .returned (.bool b) := by rw [h]
theorem val_i {k : IntKind} {a b : Int} (h : a = b) : Value.int k a = .int k b := by rw [h]

set_option maxHeartbeats 400000 in
theorem hash_any (s : ByteArray) (w : World) (hs : s.size ≤ maxLen) : Calls Try.prog 13 #[.string s] w fun e w' => e = .returned (.int .u64 (hsh s)) ∧ w' = w := by
  unfold maxLen at hs
  go_enter Try.func13, Try.ntmps13
  go_wp2
  go_loop [3, 7] (fun h i => ∃ k : Nat, k ≤ s.size ∧ i = .int .i64 k ∧ h = .int .u64 (hfold (s.data.toList.take k))) (fun _ i => (s.size - intOf i).toNat)
  case atStart => exact ⟨0, Nat.zero_le _, rfl, by simp [hfold]⟩
  case round =>
    obtain ⟨k, hk, rfl, rfl⟩ := hrel
    by_cases hlt : k < s.size
    · have HS : Hid (hfold (s.data.toList.take (k + 1)) = hstep (hfold (s.data.toList.take k)) s[k].toNat) := by rw [take_snoc s k hlt]; exact hfold_snoc _ _
      go_wp2
      go_round
      case rel => exact ⟨k + 1, by omega, by go_num, by rw [HS.out]; rfl⟩
      case measure => simp [intOf]; omega
    · have HS : Hid (s.data.toList.take k = s.data.toList) := List.take_of_length_le (by simp; omega)
      go_wp2
      go_ret
      exact ⟨ret_i (by rw [HS.out]; rfl), rfl⟩
set_option maxHeartbeats 400000 in
theorem hashr_any (s : ByteArray) (w : World) (hs : s.size ≤ maxLen) : Calls Try.prog 14 #[.string s] w fun e w' => e = .returned (.int .u64 (hsh s)) ∧ w' = w := by
  unfold maxLen at hs
  go_enter Try.func14, Try.ntmps14
  go_wp2
  go_loop [3, 4] (fun h i => ∃ k : Nat, k ≤ s.size ∧ i = .int .i64 k ∧ h = .int .u64 (hfold (s.data.toList.take k))) (fun _ i => (s.size - intOf i).toNat)
  case atStart => exact ⟨0, Nat.zero_le _, rfl, by simp [hfold]⟩
  case round =>
    obtain ⟨k, hk, rfl, rfl⟩ := hrel
    by_cases hlt : k < s.size
    · have HS : Hid (hfold (s.data.toList.take (k + 1)) = hstep (hfold (s.data.toList.take k)) s[k].toNat) := by rw [take_snoc s k hlt]; exact hfold_snoc _ _
      go_wp2
      go_round
      case rel => exact ⟨k + 1, by omega, by go_num, by rw [HS.out]; rfl⟩
      case measure => simp [intOf]; omega
    · have HS : Hid (s.data.toList.take k = s.data.toList) := List.take_of_length_le (by simp; omega)
      go_wp2
      go_ret
      exact ⟨ret_i (by rw [HS.out]; rfl), rfl⟩
/-- How many probes. -/
def npr (b : Int) : Int := if b * 69 / 100 < 1 then 1 else if 30 < b * 69 / 100 then 30 else b * 69 / 100
theorem npr_bd (b : Int) : 1 ≤ npr b ∧ npr b ≤ 30 := by
  unfold npr
  split
  · omega
  · split <;> omega
set_option maxHeartbeats 400000 in
theorem probes_yes (b : Int) (w : World) (hs1 : 1 ≤ b) (hs2 : b ≤ 64) : Calls Try.prog 9 #[.int .i64 b] w fun e w' => e = .returned (.tuple #[.int .i64 (npr b), .int .i64 0]) ∧ w' = w := by
  obtain ⟨m, hm⟩ : ∃ m, npr b = m := ⟨_, rfl⟩
  rw [hm]
  have HM : Hid (npr b = m) := hm
  clear hm
  go_enter Try.func9, Try.ntmps9
  go_wp2
  all_goals
    go_ret2
    have e := HM.out
    unfold npr at e
    refine ⟨ret2_i ?_, rfl⟩
    by_cases e1 : b * 69 / 100 < 1
    · rw [if_pos e1] at e; simp only [if_pos e1] at *; omega
    · rw [if_neg e1] at e; simp only [if_neg e1] at *
      by_cases e2 : 30 < b * 69 / 100
      · rw [if_pos e2] at e; omega
      · rw [if_neg e2] at e; omega
set_option maxHeartbeats 400000 in
theorem probes_no (b : Int) (w : World) (hs : b < 1 ∨ 64 < b) : Calls Try.prog 9 #[.int .i64 b] w fun e w' => e = .returned (.tuple #[.int .i64 0, .int .i64 1]) ∧ w' = w := by
  rcases hs with hs | hs
  · go_enter Try.func9, Try.ntmps9
    go_wp2
    go_ret2
    exact ⟨rfl, rfl⟩
  · have : ¬ b < 1 := by omega
    go_enter Try.func9, Try.ntmps9
    go_wp2
    go_ret2
    exact ⟨rfl, rfl⟩
/-- How many bytes. -/
def fsz (n : Nat) : Nat := if (n + 7) / 8 < 8 then 8 else (n + 7) / 8
set_option maxHeartbeats 400000 in
theorem bytesFor_any (b : Nat) (w : World) (hs2 : b ≤ 64 * 1048576) : Calls Try.prog 22 #[.int .i64 b] w fun e w' => e = .returned (.int .i64 (fsz b)) ∧ w' = w := by
  obtain ⟨m, hm⟩ : ∃ m, fsz b = m := ⟨_, rfl⟩
  rw [hm]
  have HM : Hid (fsz b = m) := hm
  clear hm
  go_enter Try.func22, Try.ntmps22
  go_wp2
  all_goals
    go_ret
    have e := HM.out
    unfold fsz at e
    refine ⟨ret_i ?_, rfl⟩
    split at e <;> omega
set_option maxHeartbeats 400000 in
theorem mark_any (b : Int) (w : World) (hs1 : 0 ≤ b) (hs2 : b < 4294967296) : Calls Try.prog 24 #[.int .u32 b] w fun e w' => e = .returned (.int .u8 (mk b)) ∧ w' = w := by
  go_enter Try.func24, Try.ntmps24
  go_wp2
  go_ret
  exact ⟨rfl, rfl⟩

/-- A slice of bytes that reads as l. -/
def Arg (w : World) (a : Option Addr) (len : Nat) (l : List Int) : Prop :=
  l.length = len ∧ Byt l ∧ len ≤ 140737488351232 ∧
  (l = [] ∨ ∃ b off, a = some ⟨b, off, none⟩ ∧ b < w.heap.size ∧ ∀ j, j < l.length → w.cell? ⟨b, off + j, none⟩ = some (.int .u8 (l.getD j 0)))
/-- Is it a filter, however long? -/
def isf (l : List Int) : Bool := decide (9 ≤ l.length) && (decide (1 ≤ l.getD (l.length - 1) 0) && decide (l.getD (l.length - 1) 0 ≤ 30))
def chkB (l : List Int) : Bool := isf l && decide (l.length ≤ 16777216)
def chk (l : List Int) : Int := if chkB l then 0 else 3
set_option maxHeartbeats 400000 in
theorem isf_any (a : Option Addr) (len cap : Nat) (l : List Int) (w : World) (h : Arg w a len l) : Calls Try.prog 26 #[.slice a len cap] w fun e w' => e = .returned (.bool (isf l)) ∧ w' = w := by
  obtain ⟨rfl, hb, hl, h4⟩ := h
  obtain ⟨m, hm⟩ : ∃ m, isf l = m := ⟨_, rfl⟩
  rw [hm]
  have HM : Hid (isf l = m) := hm
  clear hm
  by_cases h9 : l.length ≤ 8
  · clear h4
    go_enter Try.func26, Try.ntmps26
    go_wp2
    go_ret
    exact ⟨by rw [← HM.out]; simp [isf]; omega, rfl⟩
  · rcases h4 with h4 | ⟨b, off, rfl, hlt, hc⟩
    · exact absurd (by rw [h4]; simp) h9
    · obtain ⟨n, hn⟩ : ∃ n, l.length = n + 1 := ⟨l.length - 1, by omega⟩
      have hcn := hc n (by omega)
      obtain ⟨x, hx⟩ : ∃ x, l.getD n 0 = x := ⟨_, rfl⟩
      have hxb := byt_get hb n
      rw [hx] at hcn hxb
      have HX : Hid (isf l = (decide (1 ≤ x) && decide (x ≤ 30))) := by
        show isf l = _
        unfold isf; rw [hn, show n + 1 - 1 = n by omega, hx]
        have : 9 ≤ n + 1 := by omega
        simp [this]
      clear hx hc hb
      obtain ⟨hx0, hx1⟩ := hxb
      rw [hn] at h9 hl ⊢
      clear hn
      go_enter Try.func26, Try.ntmps26
      go_wp2
      · have h1 : 1 ≤ x := by assumption
        go_ret
        exact ⟨ret_b (by rw [← HM.out, HX.out]; simp [h1]), rfl⟩
      · have h1 : ¬ 1 ≤ x := by omega
        go_ret
        exact ⟨ret_b (by rw [← HM.out, HX.out]; simp [h1]), rfl⟩
theorem Arg.len {w : World} {a : Option Addr} {len : Nat} {l : List Int} (h : Arg w a len l) : l.length = len := h.1
set_option maxHeartbeats 400000 in
theorem check_any (a : Option Addr) (len cap : Nat) (l : List Int) (w : World) (h : Arg w a len l) : Calls Try.prog 17 #[.slice a len cap] w fun e w' => e = .returned (.int .i64 (chk l)) ∧ w' = w := by
  have hl := h.2.2.1
  obtain ⟨m, hm⟩ : ∃ m, chk l = m := ⟨_, rfl⟩
  rw [hm]
  obtain ⟨i, hi⟩ : ∃ i, isf l = i := ⟨_, rfl⟩
  have HM : Hid ((if i && decide (len ≤ 16777216) then (0 : Int) else 3) = m) := by
    show _ = _
    rw [← hm, ← hi]; unfold chk chkB; rw [h.len]
  have hC : ∀ w', Arg w' a len l → Calls Try.prog 26 #[.slice a len cap] w' fun e w'' => e = .returned (.bool i) ∧ w'' = w' := fun w' h' => by rw [← hi]; exact isf_any a len cap l w' h'
  clear hm hi
  cases i with
  | true =>
    by_cases h2 : len ≤ 16777216
    · have h3 : ¬ 16777216 < len := by omega
      go_enter Try.func17, Try.ntmps17
      go_wp2_with (go_at_call 26; refine (hC _ h).mono ?_; rintro e w' ⟨rfl, rfl⟩)
      go_ret
      exact ⟨ret_i (by rw [← HM.out]; simp [h2]), rfl⟩
    · have h3 : 16777216 < len := by omega
      go_enter Try.func17, Try.ntmps17
      go_wp2_with (go_at_call 26; refine (hC _ h).mono ?_; rintro e w' ⟨rfl, rfl⟩)
      go_ret
      exact ⟨ret_i (by rw [← HM.out]; simp [h2]), rfl⟩
  | false =>
    go_enter Try.func17, Try.ntmps17
    go_wp2_with (go_at_call 26; refine (hC _ h).mono ?_; rintro e w' ⟨rfl, rfl⟩)
    go_ret
    exact ⟨ret_i (by rw [← HM.out]; simp), rfl⟩
end Go.Proofs.Ytbmljdeenbokmaa
