import Derived.Test.YtagnnocecfoggaaProg
import Derived.Test.YtagnnocecfoggaaMa
import Derived.WalkKit
import Derived.Deep.QuietTactic
import Derived.BigQuiet
import Derived.Below
import Derived.WalkSpells
import Derived.WalkLawsBesides
import Derived.Lib.Bytealg
namespace Go.Proofs.Ytagnnocecfoggaa
open Go.RowKit
set_option linter.unusedVariables false
set_option linter.unusedSimpArgs false

set_option maxHeartbeats 400000 in
theorem cmpu_any (a b : Int) (w : World) :
    Calls Try.prog 51 #[.int .u64 a, .int .u64 b] w fun e w' => e = .returned (.int .i64 (cmpI a b)) ∧ w' = w := by
  by_cases h1 : a < b
  · have e : cmpI a b = -1 := by simp [cmpI, h1]
    rw [e]; clear e
    go_enter Try.func51, Try.ntmps51
    go_wp2
    go_ret
    exact ⟨rfl, rfl⟩
  · by_cases h2 : b < a
    · have e : cmpI a b = 1 := by simp [cmpI, h1, h2]
      rw [e]; clear e
      go_enter Try.func51, Try.ntmps51
      go_wp2
      go_ret
      exact ⟨rfl, rfl⟩
    · have e : cmpI a b = 0 := by simp [cmpI, h1, h2]
      rw [e]; clear e
      go_enter Try.func51, Try.ntmps51
      go_wp2
      go_ret
      exact ⟨rfl, rfl⟩

set_option maxHeartbeats 1000000 in
set_option maxRecDepth 100000 in
theorem scmp0_any (a b : ByteArray) (w : World) :
    Calls Try.prog 69 #[.string a, .string b] w fun e w' => e = .returned (.int .i64 (cmpS a b)) ∧ w' = w := by
  go_enter Try.func69, Try.ntmps69
  go_wp2
  rw [run_callFunc_extern Try.func81 (by kernel_rfl) (by kernel_rfl) (by kernel_rfl) (e := Extern.BytealgCompare.compare) (by kernel_rfl), Lib.run_compareString]
  simp only [Result.andThen]
  rw [Oper.upon_value]
  go_wp2
  go_ret
  exact ⟨rfl, rfl⟩
set_option maxHeartbeats 1000000 in
set_option maxRecDepth 100000 in
theorem scmp_any (a b : ByteArray) (w : World) :
    Calls Try.prog 61 #[.string a, .string b] w fun e w' => e = .returned (.int .i64 (cmpS a b)) ∧ w' = w := by
  go_enter Try.func61, Try.ntmps61
  go_wp2_with (go_at_call 69; refine (scmp0_any _ _ _).mono ?_; rintro e w' ⟨rfl, rfl⟩)
  go_ret
  exact ⟨rfl, rfl⟩

set_option maxHeartbeats 400000 in
theorem ccmp_any (how : Int) (a b : ByteArray) (w : World) :
    Calls Try.prog 42 #[.int .i64 how, .string a, .string b] w fun e w' => e = .returned (.int .i64 (cmpH how a b)) ∧ w' = w := by
  by_cases h : how = 1
  · have e : cmpH how a b = cmpS b a := by simp [cmpH, h]
    rw [e]; clear e
    have hb : (how == 1) = true := by simp [h]
    clear h
    go_enter Try.func42, Try.ntmps42
    go_wp2_with (go_at_call 61; refine (scmp_any _ _ _).mono ?_; rintro e w' ⟨rfl, rfl⟩)
    go_ret
    exact ⟨rfl, rfl⟩
  · have e : cmpH how a b = cmpS a b := by simp [cmpH, h]
    rw [e]; clear e
    have hb : (how == 1) = false := by simp [h]
    clear h
    go_enter Try.func42, Try.ntmps42
    go_wp2_with (go_at_call 61; refine (scmp_any _ _ _).mono ?_; rintro e w' ⟨rfl, rfl⟩)
    go_ret
    exact ⟨rfl, rfl⟩

theorem ret_int' {k : IntKind} {a b : Int} (h : a = b) : Ending.returned (.int k a) = .returned (.int k b) := by rw [h]

theorem cmpH_way0 (how : Int) (a b : ByteArray) (h : (a.toList == b.toList) = true) : 0 = cmpH how a b := by
  simp only [beq_iff_eq, ByteArray.toList_eq] at h
  exact ((cmpH_zero how a b).2 (ba_eq.1 h)).symm
theorem cmpH_way1 (how : Int) (a b : ByteArray) (h : Op.bytesLess a.toList b.toList = true) (hh : (how == 1) = true) : 1 = cmpH how a b := by
  have := (cmpS_less a b).2 h
  have := cmpS_neg a b
  simp only [beq_iff_eq] at hh
  unfold cmpH; rw [if_pos hh]; omega
theorem cmpH_way2 (how : Int) (a b : ByteArray) (h : Op.bytesLess a.toList b.toList = true) (hh : (how == 1) = false) : -1 = cmpH how a b := by
  have := (cmpS_less a b).2 h
  have hh' : ¬ how = 1 := by simpa using hh
  unfold cmpH; rw [if_neg hh']; omega
theorem cmpS_pos (a b : ByteArray) (h0 : (a.toList == b.toList) = false) (h : Op.bytesLess a.toList b.toList = false) : cmpS a b = 1 := by
  have h1 : ¬ cmpS a b = 0 := by
    intro z; have := (cmpS_zero a b).1 z; subst this; simp at h0
  have h2 : ¬ cmpS a b = -1 := by
    intro z; have := (cmpS_less a b).1 z; rw [this] at h; cases h
  have := cmpS_cases a b
  omega
theorem cmpH_way3 (how : Int) (a b : ByteArray) (h0 : (a.toList == b.toList) = false) (h : Op.bytesLess a.toList b.toList = false) (hh : (how == 1) = true) : -1 = cmpH how a b := by
  have := cmpS_pos a b h0 h
  have := cmpS_neg a b
  simp only [beq_iff_eq] at hh
  unfold cmpH; rw [if_pos hh]; omega
theorem cmpH_way4 (how : Int) (a b : ByteArray) (h0 : (a.toList == b.toList) = false) (h : Op.bytesLess a.toList b.toList = false) (hh : (how == 1) = false) : 1 = cmpH how a b := by
  have := cmpS_pos a b h0 h
  have hh' : ¬ how = 1 := by simpa using hh
  unfold cmpH; rw [if_neg hh']; omega

set_option maxHeartbeats 400000 in
theorem rcmp_any (how : Int) (a b : ByteArray) (w : World) :
    Calls Try.prog 26 #[.int .i64 how, .string a, .string b] w fun e w' => e = .returned (.int .i64 (cmpH how a b)) ∧ w' = w := by
  go_enter Try.func26, Try.ntmps26
  go_wp2
  · go_ret; exact ⟨ret_int' (cmpH_way0 how a b ‹_›), rfl⟩
  · go_ret; exact ⟨ret_int' (cmpH_way1 how a b ‹_› ‹_›), rfl⟩
  · go_ret; exact ⟨ret_int' (cmpH_way2 how a b ‹_› ‹_›), rfl⟩
  · go_ret; exact ⟨ret_int' (cmpH_way3 how a b ‹_› ‹_› ‹_›), rfl⟩
  · go_ret; exact ⟨ret_int' (cmpH_way4 how a b ‹_› ‹_› ‹_›), rfl⟩

theorem ne0 {x : Int} (h : (x != 0) = true) : ¬ x = 0 := by simpa using h
theorem eq0 {x : Int} (h : (x != 0) = false) : x = 0 := by simpa using h
end Go.Proofs.Ytagnnocecfoggaa
