/-
  The reference's Name and Number.
-/
import Derived.Test.YtfidgciancakjaaDoorProg
import Derived.Test.YtfidgciancakjaaDoorMa
import Derived.WalkKit
import Derived.ProofKit
import Derived.Below
import Derived.OwnWalk
import Derived.RegionTactic
import Derived.Deep.Strs
import Derived.Lib.ItoaMem
import Derived.Laws.IdiomStrings
namespace Go.Proofs.YtfidgciancakjaaDoor
open Go.RowKit Go.Lib
set_option linter.unusedVariables false
set_option linter.unusedSimpArgs false
def bs (l : List UInt8) : ByteArray := ⟨l.toArray⟩
theorem bs_size (l : List UInt8) : (bs l).size = l.length := by simp [bs, ByteArray.size]
theorem bs_app (a b : List UInt8) : bs a ++ bs b = bs (a ++ b) := by
  apply ByteArray.ext
  rw [ByteArray.data_append]
  simp [bs]
theorem one_byte (w : World) (m : Nat) : (convert 34 9 (.slice (some ⟨w.heap.size, 0, none⟩) 1 1)).run Tryd.prog (w.alloc (.cells #[.int .u8 (48 + (m : Int) % 10)] 5)) = .ok (.string (bs [UInt8.ofNat (48 + m % 10)])) (w.alloc (.cells #[.int .u8 (48 + (m : Int) % 10)] 5)) := by
  have h := run_convert_bytes_back (P := Tryd.prog) (w.alloc (.cells #[.int .u8 (48 + (m : Int) % 10)] 5)) 34 9 5 ⟨w.heap.size, 0, none⟩ 1 [UInt8.ofNat (48 + m % 10)] Tryd.underlying34 Tryd.underlying5 Tryd.underlying9 (by
    intro j hj
    have hj0 : j = 0 := by simpa using hj
    subst hj0
    rw [Lib.add_plain, World.cell?_alloc_new]
    have := dg_nat m
    simp only [List.getElem_cons_zero, this]
    simp)
  exact h
theorem pow_step (u k : Nat) : u / 10 ^ k / 10 = u / 10 ^ (k + 1) := by rw [Nat.div_div_eq_div_mul, Nat.pow_succ]
theorem nmK_le {u : Nat} (hu : u < 18446744073709551616) : nmK u ≤ 20 := by
  have := nDigits_le (k := 20) (by decide) (show u < 10 ^ 20 from Nat.lt_trans hu (by decide))
  unfold nmK; omega
set_option maxRecDepth 100000 in
set_option maxHeartbeats 4000000 in
theorem rname_any (w : World) (u : Nat) (hu : u < 18446744073709551616) :
    Calls Tryd.prog 7 #[.int .u64 u] w fun e w' => e = .returned (.string (bs (nmL u))) ∧ Below w.heap.size w w' := by
  go_enter Tryd.func7, Tryd.ntmps7
  go_wp2_with fail
  go_loopw [0, 3] (fun nn ss wr => ∃ k : Nat, nn = .int .u64 (u / 10 ^ k : Nat) ∧ ss = .string (bs (dgs k u)) ∧ k ≤ nmK u ∧ Below w.heap.size w wr) (fun nn ss wr => match ss with | .string s => nmK u - s.size | _ => 0)
  case atStart => exact ⟨0, by simp, rfl, Nat.zero_le _, Below.refl _ _⟩
  case round =>
    obtain ⟨k, rfl, rfl, hk, hB⟩ := hrel
    have hsz : (bs (dgs k u)).size = k := by rw [bs_size, dgs_len]
    have hml : u / 10 ^ k < 18446744073709551616 := Nat.lt_of_le_of_lt (Nat.div_le_self _ _) hu
    have hst := pow_step u k
    have hcons : Hid (bs [UInt8.ofNat (48 + u / 10 ^ k % 10)] ++ bs (dgs k u) = bs (dgs (k + 1) u)) := by show _ = _; rw [bs_app, dgs_cons]; rfl
    have hbig : Hid (0 < u / 10 ^ k ∨ k < 6 → k < nmK u) := by
      show _ → _
      rintro (h | h)
      · have h1 : 10 ^ k ≤ u := by
          by_cases c : 10 ^ k ≤ u
          · exact c
          · rw [Nat.div_eq_of_lt (by omega)] at h; omega
        have := le_nDigits h1
        unfold nmK; omega
      · unfold nmK; omega
    have hend : Hid (u / 10 ^ k = 0 → 6 ≤ k → k = nmK u) := by
      show _ → _ → _
      intro h1 h2
      have h3 : u < 10 ^ k := by
        rcases Nat.div_eq_zero_iff.1 h1 with h | h
        · have := Nat.pos_of_ne_zero (n := 10 ^ k) (by simp); omega
        · exact h
      have := nDigits_le (show 1 ≤ k by omega) h3
      unfold nmK at *; omega
    obtain ⟨m, hm⟩ : ∃ m, u / 10 ^ k = m := ⟨_, rfl⟩
    rw [hm] at hml hst hcons hbig hend
    rw [hm]
    obtain ⟨S, hS⟩ : ∃ S, bs (dgs k u) = S := ⟨_, rfl⟩
    rw [hS] at hsz hcons
    rw [hS]
    have hcv := one_byte wr m
    have hds : (bs [UInt8.ofNat (48 + m % 10)]).size = 1 := by rw [bs_size]; rfl
    obtain ⟨Dg, hDg⟩ : ∃ D, bs [UInt8.ofNat (48 + m % 10)] = D := ⟨_, rfl⟩
    rw [hDg] at hcv hcons hds
    have hk20 : nmK u ≤ 20 := nmK_le hu
    have hS' : Hid (bs (dgs k u) = S) := hS
    clear hm hS hDg
    by_cases h0 : 0 < m
    · have h0' : (0 : Int) < m := by omega
      have hkk := hbig.out (.inl h0)
      go_wp2_with fail
      refine ⟨⟨k + 1, by rw [← hst]; rfl, by rw [hcons.out], hkk, hB.alloc hB.size _⟩, ?_⟩
      simp only []
      rw [ByteArray.size_append]
      omega
    · obtain rfl : m = 0 := by omega
      by_cases h6 : k < 6
      · have h6' : (k : Int) < 6 := by omega
        have hkk := hbig.out (.inr h6)
        have hcv0 : (convert 34 9 (.slice (some ⟨wr.heap.size, 0, none⟩) 1 1)).run Tryd.prog (wr.alloc (.cells #[.int .u8 48] 5)) = .ok (.string Dg) (wr.alloc (.cells #[.int .u8 48] 5)) := by simpa using hcv
        clear hcv
        have hst0 : u / 10 ^ (k + 1) = 0 := by rw [← hst]
        clear hst
        go_wp2_with fail
        refine ⟨⟨k + 1, by rw [hst0]; rfl, by rw [hcons.out], hkk, hB.alloc hB.size _⟩, ?_⟩
        simp only []
        rw [ByteArray.size_append]
        omega
      · have h6' : ¬ (k : Int) < 6 := by omega
        have hke : Hid (k = nmK u) := hend.out rfl (by omega)
        clear hcv hst
        go_wp2_with fail
        go_ret
        refine ⟨?_, hB⟩
        rw [← hS'.out, hke.out]
        unfold nmL
        rw [← bs_app]
        rfl
end Go.Proofs.YtfidgciancakjaaDoor
