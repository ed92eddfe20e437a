/-
  The reference's Check and Plain.
-/
import Derived.Test.YtocanjefonlnaaaDoorIa
import Derived.Test.YtocanjefonlnaaaDoorV
import Derived.BigQuiet
namespace Go.Proofs.YtocanjefonlnaaaDoor
open Go.RowKit
set_option linter.unusedVariables false
set_option linter.unusedSimpArgs false
def mostR (k : Int) : Int := if k = 1 then 16384 else if k = 2 then 1024 else 9223372036854775807
theorem rmost_any (k : Int) (w : World) : Calls Tryd.prog 55 #[.int .i64 k] w fun e w' => e = .returned (.int .i64 (mostR k)) ∧ w' = w := by
  by_cases h1 : k = 1
  · subst h1
    go_enter Tryd.func55, Tryd.ntmps55
    go_wp2; go_ret; exact ⟨rfl, rfl⟩
  · by_cases h2 : k = 2
    · subst h2
      go_enter Tryd.func55, Tryd.ntmps55
      go_wp2; go_ret; exact ⟨rfl, rfl⟩
    · have e : mostR k = 9223372036854775807 := by unfold mostR; rw [if_neg h1, if_neg h2]
      rw [e]
      have b1 : (k == 1) = false := by simpa using h1
      have b2 : (k == 2) = false := by simpa using h2
      clear e h1 h2
      go_enter Tryd.func55, Tryd.ntmps55
      go_wp2; go_ret; exact ⟨rfl, rfl⟩
set_option maxRecDepth 100000 in
set_option maxHeartbeats 800000 in
theorem rcheck_any (f k : Int) (key val : ByteArray) (w : World) (hv : val.size ≤ 9223372036854775807) :
    Calls Tryd.prog 39 #[recV f k key val] w fun e w' => e = .returned (.int .i64 (chk k key val)) ∧ Below w.heap.size w w' := by
  have hb : Below w.heap.size w (w.alloc (.cells #[.int .u32 f, .int .i64 k, .string key, .string val] 36)) := (Below.refl _ _).alloc (Nat.le_refl _) _
  have HB : Hid _ := hb
  have HM : Hid (∀ W, Calls Tryd.prog 55 #[.int .i64 k] W fun e w' => e = .returned (.int .i64 (mostR k)) ∧ w' = W) := fun W => rmost_any k W
  clear hb
  by_cases h0 : k < 0
  · have e : chk k key val = 1 := by unfold chk; rw [if_pos (.inl h0)]
    rw [e]; clear e hv
    go_enter Tryd.func39, Tryd.ntmps39
    go_wp2
    go_ret
    exact ⟨rfl, HB.out⟩
  · by_cases h1 : 2 < k
    · have e : chk k key val = 1 := by unfold chk; rw [if_pos (.inr h1)]
      rw [e]; clear e hv
      go_enter Tryd.func39, Tryd.ntmps39
      go_wp2
      go_ret
      exact ⟨rfl, HB.out⟩
    · have h01 : ¬ (k < 0 ∨ 2 < k) := by omega
      by_cases h2 : 1024 < (key.size : Int)
      · have e : chk k key val = 2 := by unfold chk; rw [if_neg h01, if_pos h2]
        rw [e]; clear e hv h01
        have hd : decide ((1024 : Int) < (key.size : Int)) = true := decide_eq_true h2
        go_enter Tryd.func39, Tryd.ntmps39
        go_wp2
        first | go_quiet (fail) | go_big_quiet (fail)
        go_wp2
        go_ret
        exact ⟨rfl, belN HB.out _⟩
      · have hd : decide ((1024 : Int) < (key.size : Int)) = false := decide_eq_false h2
        obtain ⟨m, hm⟩ : ∃ m, mostR k = m := ⟨_, rfl⟩
        rw [hm] at HM
        by_cases h3 : m < (val.size : Int)
        · have e : chk k key val = 2 := by
            unfold chk
            rw [if_neg h01, if_neg h2, if_pos]
            unfold mostR at hm
            unfold mostV
            split at hm
            · next hk => subst hk; exact ⟨by decide, by simpa [← hm] using h3⟩
            · split at hm
              · next hk => subst hk; exact ⟨by decide, by simpa [← hm] using h3⟩
              · omega
          rw [e]; clear e hv h01 hm
          go_enter Tryd.func39, Tryd.ntmps39
          go_wp2
          go_quiet ((go_at_call 55; exact Calls.quiet_of_same (HM.out _)))
          go_wp2
          go_ret
          exact ⟨rfl, belN HB.out _⟩
        · have e : chk k key val = 0 := by
            unfold chk
            rw [if_neg h01, if_neg h2, if_neg]
            rintro ⟨hk0, hk1⟩
            unfold mostR at hm
            unfold mostV at hk1
            split at hm
            · next hk => subst hk; simp at hk1; omega
            · split at hm
              · next hk => subst hk; simp at hk1; omega
              · omega
          rw [e]; clear e hv h01 hm
          go_enter Tryd.func39, Tryd.ntmps39
          go_wp2
          go_quiet ((go_at_call 55; exact Calls.quiet_of_same (HM.out _)))
          go_wp2
          go_ret
          exact ⟨rfl, belN HB.out _⟩
set_option maxRecDepth 100000 in
set_option maxHeartbeats 800000 in
theorem rplain_any (f k : Int) (key val : ByteArray) (w : World) :
    Calls Tryd.prog 40 #[recV f k key val] w fun e w' => e = .returned (recV f k key (plainV k val)) ∧ Below w.heap.size w w' := by
  by_cases h0 : k = 0
  · have e : plainV k val = ⟨#[]⟩ := by unfold plainV; rw [if_pos h0]
    rw [e]
    have b0 : (k == 0) = true := by simpa using h0
    clear e h0
    go_enter Tryd.func40, Tryd.ntmps40
    go_wp2
    refine bodyPost_ret (v := recV f k key ⟨#[]⟩) (by simp [results, Tryd.f40, go_sem]) rfl ⟨rfl, ((Below.refl _ _).alloc (Nat.le_refl _) _).alloc (by simp) _⟩
  · have e : plainV k val = val := by unfold plainV; rw [if_neg h0]
    rw [e]
    have b0 : (k == 0) = false := by simpa using h0
    clear e h0
    go_enter Tryd.func40, Tryd.ntmps40
    go_wp2
    refine bodyPost_ret (v := recV f k key val) (by simp [results, Tryd.f40, go_sem]) rfl ⟨rfl, ((Below.refl _ _).alloc (Nat.le_refl _) _).alloc (by simp) _⟩
end Go.Proofs.YtocanjefonlnaaaDoor
