import Derived.Test.YtkpijoogaicodaaQe
import Derived.Test.YtkpijoogaicodaaSb
import Derived.Test.YtkpijoogaicodaaEc
namespace Go.Proofs.Ytkpijoogaicodaa
open Go.RowKit
set_option linter.unusedVariables false
set_option linter.unusedSimpArgs false

def mostQ (k : Int) : Int := if k = 0 then 9223372036854775807 else mostV k
set_option maxRecDepth 100000 in
set_option maxHeartbeats 1000000 in
theorem mostQ_any (k : Int) (w : World) (h1 : 0 ≤ k) (h2 : k ≤ 2) : Calls Try.prog 38 #[.int .i64 k] w fun e w' => e = .returned (.int .i64 (mostQ k)) ∧ w' = w := by
  have : k = 0 ∨ k = 1 ∨ k = 2 := by omega
  rcases this with rfl | rfl | rfl
  all_goals
    go_enter Try.func38, Try.ntmps38
    go_wp2
    go_ret
    exact ⟨rfl, rfl⟩
theorem chkQ {k : Int} {key val : ByteArray} (k0 : 0 ≤ k) (k1 : k ≤ 2) (hv : (val.size : Int) ≤ 9223372036854775807) : chk k key val = if 1024 < (key.size : Int) then 2 else if mostQ k < (val.size : Int) then 2 else 0 := by
  unfold chk mostQ
  rw [if_neg (by omega)]
  split
  · rfl
  · by_cases hk : k = 0
    · rw [if_neg (fun h => h.1 hk), if_pos hk, if_neg (by omega)]
    · rw [if_neg hk]
      by_cases hm : mostV k < (val.size : Int)
      · rw [if_pos ⟨hk, hm⟩, if_pos hm]
      · rw [if_neg (fun h => hm h.2), if_neg hm]
set_option maxRecDepth 100000 in
set_option maxHeartbeats 1000000 in
theorem qcheck_any (f k : Int) (key val : ByteArray) (w : World) (hv : (val.size : Int) ≤ 9223372036854775807) :
    Calls Try.prog 11 #[recV f k key val] w fun e w' => e = .returned (.int .i64 (chk k key val)) ∧ Below w.heap.size w w' := by
  by_cases h1 : 0 ≤ k ∧ k ≤ 2
  · rw [chkQ h1.1 h1.2 hv]
    have HM := fun w => mostQ_any k w h1.1 h1.2
    obtain ⟨h1, h2⟩ := h1
    generalize mostQ k = m at *
    by_cases h3 : 1024 < (key.size : Int)
    · have t3 : decide ((1024 : Int) < (key.size : Int)) = true := by simpa using h3
      rw [if_pos h3]
      clear HM
      go_enter Try.func11, Try.ntmps11
      go_wp2
      go_quiet (fail)
      go_wp2
      go_ret
      exact ⟨rfl, belN ((Below.refl _ _).alloc (Nat.le_refl _) _) _⟩
    · have t3 : decide ((1024 : Int) < (key.size : Int)) = false := by simpa using h3
      rw [if_neg h3]
      by_cases h4 : m < (val.size : Int)
      · have t4 : decide (m < (val.size : Int)) = true := by simpa using h4
        rw [if_pos h4]
        go_enter Try.func11, Try.ntmps11
        go_wp2
        go_quiet ((go_at_call 38; exact Calls.quiet_of_same (HM _)))
        go_wp2
        go_ret
        exact ⟨rfl, belN ((Below.refl _ _).alloc (Nat.le_refl _) _) _⟩
      · have t4 : decide (m < (val.size : Int)) = false := by simpa using h4
        rw [if_neg h4]
        go_enter Try.func11, Try.ntmps11
        go_wp2
        go_quiet ((go_at_call 38; exact Calls.quiet_of_same (HM _)))
        go_wp2
        go_ret
        exact ⟨rfl, belN ((Below.refl _ _).alloc (Nat.le_refl _) _) _⟩
  · have hc : chk k key val = 1 := by unfold chk; rw [if_pos (by omega)]
    rw [hc]
    go_enter Try.func11, Try.ntmps11
    by_cases h2 : k < 0
    · go_wp2
      go_ret
      exact ⟨rfl, (Below.refl _ _).alloc (Nat.le_refl _) _⟩
    · have h3 : 2 < k := by omega
      go_wp2
      go_ret
      exact ⟨rfl, (Below.refl _ _).alloc (Nat.le_refl _) _⟩

set_option maxRecDepth 100000 in
set_option maxHeartbeats 1000000 in
theorem sizes_any {w : World} {v : Value} {l : List Rec} (h : RdR w v l) (hl : l.length ≤ 5000) (hf : ∀ r ∈ l, Fine r) :
    Calls Try.prog 32 #[v] w fun e w' => e = .returned (.int .i64 (12 + szs l : Nat)) ∧ Below w.heap.size w w' := by
  have hS := fine_szs hf
  obtain ⟨a, c, rfl⟩ := h.len
  have HL : Hid (szs l ≤ l.length * 300000) := hS
  clear hS
  go_enter Try.func32, Try.ntmps32
  go_wp2
  go_loopw [3, 4] (fun n i wr => ∃ k : Nat, k ≤ l.length ∧ i = .int .i64 k ∧ n = .int .i64 (12 + szs (l.take k) : Nat) ∧ Below w.heap.size w wr) (fun _ i _ => l.length - (intOf i).toNat)
  case atStart => exact ⟨0, Nat.zero_le _, rfl, rfl, Below.refl _ _⟩
  case round =>
    obtain ⟨k, hk, rfl, rfl, hbel⟩ := hrel
    by_cases hlt : k < l.length
    · obtain ⟨b, off, cap, hv, hb, c0, c1, c2, c3⟩ := (h.below hbel).at hlt
      cases hv
      have HT := szs_take l k hlt
      have HF := hf _ (List.getElem_mem hlt)
      have HB := szs_take_le l (k + 1)
      generalize l[k] = r at *
      obtain ⟨f, kd, key, val⟩ := r
      dsimp only at *
      have HC := fun w => refSize_any f kd key val w HF.f0 HF.f1 HF.key HF.val
      generalize szs (l.take k) = n at *
      have HT' : Hid (szs (l.take (k + 1)) = n + rsz f kd key val) := HT
      have hn1 : ((12 + n : Nat) : Int) + (rsz f kd key val : Int) ≤ 2000000000 := by have := HL.out; omega
      clear HT HB
      generalize rsz f kd key val = m at *
      generalize hN : 12 + n = N at *
      go_wp2_with (go_at_call 24; refine (HC _).mono ?_; rintro e w1 ⟨rfl, hb1⟩)
      go_roundw
      case rel => exact ⟨k + 1, by omega, by go_num, val_i (by rw [HT'.out]; omega), bstep hbel hb1⟩
      case measure => simp [intOf]; omega
    · obtain rfl : k = l.length := by omega
      go_wp2
      go_ret
      exact ⟨ret_ii (by rw [List.take_length]), hbel⟩

set_option maxRecDepth 100000 in
set_option maxHeartbeats 1000000 in
theorem qplain_any (r : Rec) (w : World) :
    Calls Try.prog 41 #[recV r.fam r.kind r.key r.val] w fun e w' => e = .returned (recV (plainR r).fam (plainR r).kind (plainR r).key (plainR r).val) ∧ Below w.heap.size w w' := by
  obtain ⟨f, k, key, val⟩ := r
  unfold plainR
  dsimp only
  have b2 : ∀ (o1 o2 : Obj) (p : Addr) (v : Value), w.heap.size ≤ p.block → Below w.heap.size w (((w.alloc o1).alloc o2).setCell p v) := fun o1 o2 p v hp => (((Below.refl w.heap.size w).alloc (Nat.le_refl _) o1).alloc (by simp) o2).setCell hp v
  by_cases hk : k = 0
  · rw [if_pos hk]
    go_enter Try.func41, Try.ntmps41
    go_wp2
    refine bodyPost_ret (v := recV f k key ⟨#[]⟩) (by simp [results, Try.results41, go_sem, *]) rfl ⟨rfl, ?_⟩
    exact ((Below.refl _ _).alloc (Nat.le_refl _) _).alloc (by simp) _
  · rw [if_neg hk]
    go_enter Try.func41, Try.ntmps41
    go_wp2
    refine bodyPost_ret (v := recV f k key val) (by simp [results, Try.results41, go_sem, *]) rfl ⟨rfl, ?_⟩
    exact ((Below.refl _ _).alloc (Nat.le_refl _) _).alloc (by simp) _
end Go.Proofs.Ytkpijoogaicodaa
