import Derived.Test.YtkmpcheamdadcaaProg
import Derived.Test.YtkmpcheamdadcaaMa
import Derived.WalkKit
import Derived.WalkSpells
import Derived.WalkLawsBesides
import Derived.Lib.Bytealg
namespace Go.Proofs.Ytkmpcheamdadcaa
open Go.RowKit
set_option linter.unusedVariables false

set_option maxHeartbeats 400000 in
theorem cmpu_any (a b : Int) (w : World) :
    Calls Try.prog 91 #[.int .u64 a, .int .u64 b] w fun e w' => e = .returned (.int .i64 (cmpI a b)) ∧ w' = w := by
  by_cases h1 : a < b
  · have e : cmpI a b = -1 := by simp [cmpI, h1]
    rw [e]; clear e
    go_enter Try.func91, Try.ntmps91
    go_wp2
    go_ret
    exact ⟨rfl, rfl⟩
  · by_cases h2 : b < a
    · have e : cmpI a b = 1 := by simp [cmpI, h1, h2]
      rw [e]; clear e
      go_enter Try.func91, Try.ntmps91
      go_wp2
      go_ret
      exact ⟨rfl, rfl⟩
    · have e : cmpI a b = 0 := by simp [cmpI, h1, h2]
      rw [e]; clear e
      go_enter Try.func91, Try.ntmps91
      go_wp2
      go_ret
      exact ⟨rfl, rfl⟩

set_option maxHeartbeats 400000 in
theorem cmpi_any (a b : Int) (w : World) :
    Calls Try.prog 92 #[.int .i64 a, .int .i64 b] w fun e w' => e = .returned (.int .i64 (cmpI a b)) ∧ w' = w := by
  by_cases h1 : a < b
  · have e : cmpI a b = -1 := by simp [cmpI, h1]
    rw [e]; clear e
    go_enter Try.func92, Try.ntmps92
    go_wp2
    go_ret
    exact ⟨rfl, rfl⟩
  · by_cases h2 : b < a
    · have e : cmpI a b = 1 := by simp [cmpI, h1, h2]
      rw [e]; clear e
      go_enter Try.func92, Try.ntmps92
      go_wp2
      go_ret
      exact ⟨rfl, rfl⟩
    · have e : cmpI a b = 0 := by simp [cmpI, h1, h2]
      rw [e]; clear e
      go_enter Try.func92, Try.ntmps92
      go_wp2
      go_ret
      exact ⟨rfl, rfl⟩

set_option maxHeartbeats 1000000 in
set_option maxRecDepth 100000 in
theorem scmp_any (a b : ByteArray) (w : World) :
    Calls Try.prog 109 #[.string a, .string b] w fun e w' => e = .returned (.int .i64 (cmpS a b)) ∧ w' = w := by
  go_enter Try.func109, Try.ntmps109
  go_wp2
  rw [run_callFunc_extern Try.func135 (by kernel_rfl) (by kernel_rfl) (by kernel_rfl) (e := Extern.BytealgCompare.compare) (by kernel_rfl), Lib.run_compareString]
  simp only [Result.andThen]
  rw [Oper.upon_value]
  go_wp2
  go_ret
  exact ⟨rfl, rfl⟩

set_option maxHeartbeats 400000 in
theorem ccmp_any (how : Int) (a b : ByteArray) (w : World) :
    Calls Try.prog 90 #[.int .i64 how, .string a, .string b] w fun e w' => e = .returned (.int .i64 (cmpH how a b)) ∧ w' = w := by
  by_cases h : how = 1
  · have e : cmpH how a b = cmpS b a := by simp [cmpH, h]
    rw [e]; clear e
    have hb : (how == 1) = true := by simp [h]
    clear h
    go_enter Try.func90, Try.ntmps90
    go_wp2_with (go_at_call 109; refine (scmp_any _ _ _).mono ?_; rintro e w' ⟨rfl, rfl⟩)
    go_ret
    exact ⟨rfl, rfl⟩
  · have e : cmpH how a b = cmpS a b := by simp [cmpH, h]
    rw [e]; clear e
    have hb : (how == 1) = false := by simp [h]
    clear h
    go_enter Try.func90, Try.ntmps90
    go_wp2_with (go_at_call 109; refine (scmp_any _ _ _).mono ?_; rintro e w' ⟨rfl, rfl⟩)
    go_ret
    exact ⟨rfl, rfl⟩

theorem ret_int' {k : IntKind} {a b : Int} (h : a = b) : Ending.returned (.int k a) = .returned (.int k b) := by rw [h]

theorem cmpH_way0 (how : Int) (a b : ByteArray) (h : (a.toList == b.toList) = true) : 0 = cmpH how a b := by
  simp only [beq_iff_eq, ByteArray.toList_eq] at h
  exact ((cmpH_zero how a b).2 (ba_eq.1 h)).symm
theorem cmpH_way1 (how : Int) (a b : ByteArray) (h : Op.bytesLess a.toList b.toList = true) (hh : (how == 1) = true) : 1 = cmpH how a b := by
  have := (cmpS_less a b).2 h
  have := cmpS_neg a b
  simp only [beq_iff_eq] at hh
  unfold cmpH; rw [if_pos hh]; omega
theorem cmpH_way2 (how : Int) (a b : ByteArray) (h : Op.bytesLess a.toList b.toList = true) (hh : (how == 1) = false) : -1 = cmpH how a b := by
  have := (cmpS_less a b).2 h
  have hh' : ¬ how = 1 := by simpa using hh
  unfold cmpH; rw [if_neg hh']; omega
theorem cmpS_pos (a b : ByteArray) (h0 : (a.toList == b.toList) = false) (h : Op.bytesLess a.toList b.toList = false) : cmpS a b = 1 := by
  have h1 : ¬ cmpS a b = 0 := by
    intro z; have := (cmpS_zero a b).1 z; subst this; simp at h0
  have h2 : ¬ cmpS a b = -1 := by
    intro z; have := (cmpS_less a b).1 z; rw [this] at h; cases h
  have := cmpS_cases a b
  omega
theorem cmpH_way3 (how : Int) (a b : ByteArray) (h0 : (a.toList == b.toList) = false) (h : Op.bytesLess a.toList b.toList = false) (hh : (how == 1) = true) : -1 = cmpH how a b := by
  have := cmpS_pos a b h0 h
  have := cmpS_neg a b
  simp only [beq_iff_eq] at hh
  unfold cmpH; rw [if_pos hh]; omega
theorem cmpH_way4 (how : Int) (a b : ByteArray) (h0 : (a.toList == b.toList) = false) (h : Op.bytesLess a.toList b.toList = false) (hh : (how == 1) = false) : 1 = cmpH how a b := by
  have := cmpS_pos a b h0 h
  have hh' : ¬ how = 1 := by simpa using hh
  unfold cmpH; rw [if_neg hh']; omega

set_option maxHeartbeats 400000 in
theorem rcmp_any (how : Int) (a b : ByteArray) (w : World) :
    Calls Try.prog 69 #[.int .i64 how, .string a, .string b] w fun e w' => e = .returned (.int .i64 (cmpH how a b)) ∧ w' = w := by
  go_enter Try.func69, Try.ntmps69
  go_wp2
  · go_ret; exact ⟨ret_int' (cmpH_way0 how a b ‹_›), rfl⟩
  · go_ret; exact ⟨ret_int' (cmpH_way1 how a b ‹_› ‹_›), rfl⟩
  · go_ret; exact ⟨ret_int' (cmpH_way2 how a b ‹_› ‹_›), rfl⟩
  · go_ret; exact ⟨ret_int' (cmpH_way3 how a b ‹_› ‹_› ‹_›), rfl⟩
  · go_ret; exact ⟨ret_int' (cmpH_way4 how a b ‹_› ‹_› ‹_›), rfl⟩

/-- A key's cells. -/
def kcells (u : ByteArray) (s k : Int) : Array Value := #[.string u, .int .u64 s, .int .i64 k]

theorem ne0 {x : Int} (h : (x != 0) = true) : ¬ x = 0 := by simpa using h
theorem eq0 {x : Int} (h : (x != 0) = false) : x = 0 := by simpa using h
theorem ordK_w1 {how : Int} {u : ByteArray} {s k : Int} {u' : ByteArray} {s' k' : Int} (h : (cmpH how u u' != 0) = true) : cmpH how u u' = ordK how u s k u' s' k' := by
  unfold ordK; rw [if_neg (ne0 h)]
theorem ordK_w2 {how : Int} {u : ByteArray} {s k : Int} {u' : ByteArray} {s' k' : Int} (h : (cmpH how u u' != 0) = false) (h2 : (cmpI s' s != 0) = true) : cmpI s' s = ordK how u s k u' s' k' := by
  unfold ordK; rw [if_pos (eq0 h), if_neg (ne0 h2)]
theorem ordK_w3 {how : Int} {u : ByteArray} {s k : Int} {u' : ByteArray} {s' k' : Int} (h : (cmpH how u u' != 0) = false) (h2 : (cmpI s' s != 0) = false) : cmpI k' k = ordK how u s k u' s' k' := by
  unfold ordK; rw [if_pos (eq0 h), if_pos (eq0 h2)]
theorem ordK_r1 {how : Int} {u : ByteArray} {s k : Int} {u' : ByteArray} {s' k' : Int} (h : (cmpH how u u' != 0) = false) (h2 : s' < s) : -1 = ordK how u s k u' s' k' := by
  have e := (cmpI_neg1 s' s).2 h2
  unfold ordK; rw [if_pos (eq0 h), if_neg (by omega)]; omega
theorem ordK_r2 {how : Int} {u : ByteArray} {s k : Int} {u' : ByteArray} {s' k' : Int} (h : (cmpH how u u' != 0) = false) (h1 : (s != s') = true) (h2 : s ≤ s') : 1 = ordK how u s k u' s' k' := by
  have h1' : ¬ s = s' := by simpa using h1
  have e := (cmpI_one s' s).2 (by omega)
  unfold ordK; rw [if_pos (eq0 h), if_neg (by omega)]; omega
theorem ordK_r3 {how : Int} {u : ByteArray} {s k : Int} {u' : ByteArray} {s' k' : Int} (h : (cmpH how u u' != 0) = false) (h1 : (s != s') = false) (h2 : k' < k) : -1 = ordK how u s k u' s' k' := by
  have h1' : s = s' := by simpa using h1
  have e := (cmpI_neg1 k' k).2 h2
  unfold ordK; rw [if_pos (eq0 h), if_pos ((cmpI_zero _ _).2 h1'.symm)]; omega
theorem ordK_r4 {how : Int} {u : ByteArray} {s k : Int} {u' : ByteArray} {s' k' : Int} (h : (cmpH how u u' != 0) = false) (h1 : (s != s') = false) (h3 : (k != k') = true) (h2 : k ≤ k') : 1 = ordK how u s k u' s' k' := by
  have h1' : s = s' := by simpa using h1
  have h3' : ¬ k = k' := by simpa using h3
  have e := (cmpI_one k' k).2 (by omega)
  unfold ordK; rw [if_pos (eq0 h), if_pos ((cmpI_zero _ _).2 h1'.symm)]; omega
theorem ordK_r5 {how : Int} {u : ByteArray} {s k : Int} {u' : ByteArray} {s' k' : Int} (h : (cmpH how u u' != 0) = false) (h1 : (s != s') = false) (h3 : (k != k') = false) : 0 = ordK how u s k u' s' k' := by
  have h1' : s = s' := by simpa using h1
  have h3' : k = k' := by simpa using h3
  exact ((ordK_zero _ _ _ _ _ _ _).2 ⟨(cmpH_zero _ _ _).1 (eq0 h), h1', h3'⟩).symm

set_option maxHeartbeats 400000 in
theorem cord_any (how : Int) (u : ByteArray) (s k : Int) (u' : ByteArray) (s' k' : Int) (w : World) :
    Calls Try.prog 56 #[.int .i64 how, .agg #[.string u, .int .u64 s, .int .i64 k], .agg #[.string u', .int .u64 s', .int .i64 k']] w fun e w' => e = .returned (.int .i64 (ordK how u s k u' s' k')) ∧ w' = (w.alloc (.cells #[.string u, .int .u64 s, .int .i64 k] 48)).alloc (.cells #[.string u', .int .u64 s', .int .i64 k'] 48) := by
  go_enter Try.func56, Try.ntmps56
  go_wp2_with (first
    | (go_at_call 90; refine (ccmp_any _ _ _ _).mono ?_; rintro e w' ⟨rfl, rfl⟩)
    | (go_at_call 91; refine (cmpu_any _ _ _).mono ?_; rintro e w' ⟨rfl, rfl⟩)
    | (go_at_call 92; refine (cmpi_any _ _ _).mono ?_; rintro e w' ⟨rfl, rfl⟩))
  · go_ret; exact ⟨ret_int' (ordK_w1 ‹_›), rfl⟩
  · go_ret; exact ⟨ret_int' (ordK_w2 ‹_› ‹_›), rfl⟩
  · go_ret; exact ⟨ret_int' (ordK_w3 ‹_› ‹_›), rfl⟩

set_option maxHeartbeats 400000 in
theorem rord_any (how : Int) (u : ByteArray) (s k : Int) (u' : ByteArray) (s' k' : Int) (w : World) :
    Calls Try.prog 52 #[.int .i64 how, .agg #[.string u, .int .u64 s, .int .i64 k], .agg #[.string u', .int .u64 s', .int .i64 k']] w fun e w' => e = .returned (.int .i64 (ordK how u s k u' s' k')) ∧ w' = (w.alloc (.cells #[.string u, .int .u64 s, .int .i64 k] 48)).alloc (.cells #[.string u', .int .u64 s', .int .i64 k'] 48) := by
  go_enter Try.func52, Try.ntmps52
  go_wp2_with (first
    | (go_at_call 69; refine (rcmp_any _ _ _ _).mono ?_; rintro e w' ⟨rfl, rfl⟩))
  · go_ret; exact ⟨ret_int' (ordK_w1 ‹_›), rfl⟩
  · go_ret; exact ⟨ret_int' (ordK_r1 ‹_› ‹_›), rfl⟩
  · go_ret; exact ⟨ret_int' (ordK_r2 ‹_› ‹_› ‹_›), rfl⟩
  · go_ret; exact ⟨ret_int' (ordK_r3 ‹_› ‹_› ‹_›), rfl⟩
  · go_ret; exact ⟨ret_int' (ordK_r4 ‹_› ‹_› ‹_› ‹_›), rfl⟩
  · go_ret; exact ⟨ret_int' (ordK_r5 ‹_› ‹_› ‹_›), rfl⟩
end Go.Proofs.Ytkmpcheamdadcaa
