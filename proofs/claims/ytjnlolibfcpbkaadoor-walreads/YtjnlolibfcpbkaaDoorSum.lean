import Derived.Test.YtjnlolibfcpbkaaDoorProg
import Derived.Test.YtjnlolibfcpbkaaDoorMb
import Derived.WalkKit
import Derived.WalkSpells
namespace Go.Proofs.YtjnlolibfcpbkaaDoor
open Go.RowKit
set_option linter.unusedVariables false

/-- A slice of bytes that reads as the list l: its address, and its cells. -/
def Reads (w : World) (a : Option Addr) (l : List Int) : Prop :=
  (∀ n ∈ l, 0 ≤ n ∧ n < 256) ∧ l.length ≤ maxLen ∧ (l = [] ∨ ∃ b off, a = some ⟨b, off, none⟩ ∧ ∀ i, i < l.length → w.cell? ⟨b, off + i, none⟩ = some (.int .u8 (l.getD i 0)))

theorem ret_i {k : IntKind} {a b : Int} (h : a = b) : Ending.returned (.int k a) = .returned (.int k b) := by rw [h]
theorem val_i {k : IntKind} {a b : Int} (h : a = b) : Value.int k a = .int k b := by rw [h]

set_option maxHeartbeats 1000000 in
theorem csum_any (b off cap : Nat) (l : List Int) (w : World) (hb : ∀ n ∈ l, 0 ≤ n ∧ n < 256) (hm : l.length ≤ maxLen)
    (hc : ∀ i, i < l.length → w.cell? ⟨b, off + i, none⟩ = some (.int .u8 (l.getD i 0))) :
    Calls Tryd.prog 50 #[.slice (some ⟨b, off, none⟩) l.length cap] w fun e w' => e = .returned (.int .u32 (crcSum l)) ∧ w' = w := by
  unfold maxLen at hm
  go_enter Tryd.func50, Tryd.ntmps50
  go_wp2
  go_loop [3, 9] (fun r i => ∃ k : Nat, k ≤ l.length ∧ i = .int .i64 k ∧ r = .int .u32 (crcReg (l.take k))) (fun _ i => l.length - (intOf i).toNat)
  case atStart => exact ⟨0, Nat.zero_le _, rfl, rfl⟩
  case round =>
    obtain ⟨k, hk, rfl, rfl⟩ := hrel
    have hd := crcReg_bd (l.take k)
    by_cases hlt : k < l.length
    · have hck := hc k hlt
      obtain ⟨hb0, hb1⟩ := hb _ (List.getElem_mem hlt)
      have hX0 := bits_lo_u32 .xor (crcReg (l.take k)) l[k]
      have hX1 := bits_hi_u32 .xor (crcReg (l.take k)) l[k]
      have HT : Hid (crcReg (l.take (k + 1)) = crcN 8 (bits .xor .u32 (crcReg (l.take k)) l[k])) := crcReg_take l k hlt
      go_wp2
      go_loop [3, 17] (fun r i => ∃ j : Nat, j ≤ 8 ∧ i = .int .i64 j ∧ r = .int .u32 (crcN j (bits .xor .u32 (crcReg (l.take k)) l[k]))) (fun _ i => 8 - (intOf i).toNat)
      case atStart => exact ⟨0, Nat.zero_le _, rfl, rfl⟩
      case round =>
        obtain ⟨j, hj, rfl, rfl⟩ := hrel
        obtain ⟨hN0, hN1⟩ := crcN_bd j (bits .xor .u32 (crcReg (l.take k)) l[k]) hX0 (by omega)
        by_cases hlj : j < 8
        · go_wp2
          · go_round
            case rel => exact ⟨j + 1, by omega, by go_num, val_i (crcBit_one ‹_›)⟩
            case measure => simp [intOf]; omega
          · go_round
            case rel => exact ⟨j + 1, by omega, by go_num, val_i (crcBit_nil ‹_›)⟩
            case measure => simp [intOf]; omega
        · obtain rfl : j = 8 := by omega
          go_wp2
          go_round
          case rel => exact ⟨k + 1, by omega, by go_num, by rw [HT.out]⟩
          case measure => simp [intOf]; omega
    · go_wp2
      go_ret
      exact ⟨ret_i (by rw [List.take_of_length_le (by omega)]; rfl), rfl⟩

set_option maxHeartbeats 1000000 in
theorem csum_nil (cap : Nat) (a : Option Addr) (w : World) :
    Calls Tryd.prog 50 #[.slice a 0 cap] w fun e w' => e = .returned (.int .u32 (crcSum [])) ∧ w' = w := by
  go_enter Tryd.func50, Tryd.ntmps50
  go_wp2
  go_loop [9, 3] (fun i r => i = .int .i64 0 ∧ r = .int .u32 4294967295) (fun _ _ => 0)
  case atStart => exact ⟨rfl, rfl⟩
  case round =>
    obtain ⟨rfl, rfl⟩ := hrel
    go_wp2
    go_ret
    exact ⟨rfl, rfl⟩

set_option maxHeartbeats 1000000 in
theorem rsum_any (b off cap : Nat) (l : List Int) (w : World) (hb : ∀ n ∈ l, 0 ≤ n ∧ n < 256) (hm : l.length ≤ maxLen)
    (hc : ∀ i, i < l.length → w.cell? ⟨b, off + i, none⟩ = some (.int .u8 (l.getD i 0))) :
    Calls Tryd.prog 35 #[.slice (some ⟨b, off, none⟩) l.length cap] w fun e w' => e = .returned (.int .u32 (crcSum l)) ∧ w' = w := by
  unfold maxLen at hm
  go_enter Tryd.func35, Tryd.ntmps35
  go_wp2
  go_loop [3, 4] (fun r i => ∃ k : Nat, k ≤ l.length ∧ i = .int .i64 k ∧ r = .int .u32 (crcReg (l.take k))) (fun _ i => l.length - (intOf i).toNat)
  case atStart => exact ⟨0, Nat.zero_le _, rfl, rfl⟩
  case round =>
    obtain ⟨k, hk, rfl, rfl⟩ := hrel
    have hd := crcReg_bd (l.take k)
    by_cases hlt : k < l.length
    · have hck := hc k hlt
      obtain ⟨hb0, hb1⟩ := hb _ (List.getElem_mem hlt)
      have hX0 := bits_lo_u32 .xor (crcReg (l.take k)) l[k]
      have hX1 := bits_hi_u32 .xor (crcReg (l.take k)) l[k]
      have HT : Hid (crcReg (l.take (k + 1)) = crcN 8 (bits .xor .u32 (crcReg (l.take k)) l[k])) := crcReg_take l k hlt
      go_wp2
      go_loop [3, 5] (fun r i => ∃ j : Nat, j ≤ 8 ∧ i = .int .i64 j ∧ r = .int .u32 (crcN j (bits .xor .u32 (crcReg (l.take k)) l[k]))) (fun _ i => 8 - (intOf i).toNat)
      case atStart => exact ⟨0, Nat.zero_le _, rfl, rfl⟩
      case round =>
        obtain ⟨j, hj, rfl, rfl⟩ := hrel
        obtain ⟨hN0, hN1⟩ := crcN_bd j (bits .xor .u32 (crcReg (l.take k)) l[k]) hX0 (by omega)
        by_cases hlj : j < 8
        · go_wp2
          · go_round
            case rel => exact ⟨j + 1, by omega, by go_num, val_i (crcBit_one ‹_›)⟩
            case measure => simp [intOf]; omega
          · go_round
            case rel => exact ⟨j + 1, by omega, by go_num, val_i (crcBit_nil ‹_›)⟩
            case measure => simp [intOf]; omega
        · obtain rfl : j = 8 := by omega
          go_wp2
          go_round
          case rel => exact ⟨k + 1, by omega, by go_num, by rw [HT.out]⟩
          case measure => simp [intOf]; omega
    · go_wp2
      go_ret
      exact ⟨ret_i (by rw [List.take_of_length_le (by omega)]; rfl), rfl⟩

set_option maxHeartbeats 1000000 in
theorem rsum_nil (cap : Nat) (a : Option Addr) (w : World) :
    Calls Tryd.prog 35 #[.slice a 0 cap] w fun e w' => e = .returned (.int .u32 (crcSum [])) ∧ w' = w := by
  go_enter Tryd.func35, Tryd.ntmps35
  go_wp2
  go_loop [4, 3] (fun i r => i = .int .i64 0 ∧ r = .int .u32 4294967295) (fun _ _ => 0)
  case atStart => exact ⟨rfl, rfl⟩
  case round =>
    obtain ⟨rfl, rfl⟩ := hrel
    go_wp2
    go_ret
    exact ⟨rfl, rfl⟩
end Go.Proofs.YtjnlolibfcpbkaaDoor
