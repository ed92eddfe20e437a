import Derived.Test.YtocanjefonlnaaaDoorProg
import Derived.Test.YtocanjefonlnaaaDoorMa
import Derived.WalkKit
import Derived.Deep.QuietTactic
import Derived.BigQuiet
import Derived.Below
import Derived.WalkSpells
import Derived.WalkLawsBesides
import Derived.Lib.Bytealg
namespace Go.Proofs.YtocanjefonlnaaaDoor
open Go.RowKit
set_option linter.unusedVariables false
set_option linter.unusedSimpArgs false

set_option maxHeartbeats 400000 in
theorem cmpu_any (a b : Int) (w : World) :
    Calls Tryd.prog 62 #[.int .u64 a, .int .u64 b] w fun e w' => e = .returned (.int .i64 (cmpI a b)) ∧ w' = w := by
  by_cases h1 : a < b
  · have e : cmpI a b = -1 := by simp [cmpI, h1]
    rw [e]; clear e
    go_enter Tryd.func62, Tryd.ntmps62
    go_wp2
    go_ret
    exact ⟨rfl, rfl⟩
  · by_cases h2 : b < a
    · have e : cmpI a b = 1 := by simp [cmpI, h1, h2]
      rw [e]; clear e
      go_enter Tryd.func62, Tryd.ntmps62
      go_wp2
      go_ret
      exact ⟨rfl, rfl⟩
    · have e : cmpI a b = 0 := by simp [cmpI, h1, h2]
      rw [e]; clear e
      go_enter Tryd.func62, Tryd.ntmps62
      go_wp2
      go_ret
      exact ⟨rfl, rfl⟩

set_option maxHeartbeats 400000 in
theorem cmpi_any (a b : Int) (w : World) :
    Calls Tryd.prog 66 #[.int .i64 a, .int .i64 b] w fun e w' => e = .returned (.int .i64 (cmpI a b)) ∧ w' = w := by
  by_cases h1 : a < b
  · have e : cmpI a b = -1 := by simp [cmpI, h1]
    rw [e]; clear e
    go_enter Tryd.func66, Tryd.ntmps66
    go_wp2
    go_ret
    exact ⟨rfl, rfl⟩
  · by_cases h2 : b < a
    · have e : cmpI a b = 1 := by simp [cmpI, h1, h2]
      rw [e]; clear e
      go_enter Tryd.func66, Tryd.ntmps66
      go_wp2
      go_ret
      exact ⟨rfl, rfl⟩
    · have e : cmpI a b = 0 := by simp [cmpI, h1, h2]
      rw [e]; clear e
      go_enter Tryd.func66, Tryd.ntmps66
      go_wp2
      go_ret
      exact ⟨rfl, rfl⟩

set_option maxHeartbeats 1000000 in
set_option maxRecDepth 100000 in
theorem scmp0_any (a b : ByteArray) (w : World) :
    Calls Tryd.prog 67 #[.string a, .string b] w fun e w' => e = .returned (.int .i64 (cmpS a b)) ∧ w' = w := by
  go_enter Tryd.func67, Tryd.ntmps67
  go_wp2
  rw [run_callFunc_extern Tryd.func73 (by kernel_rfl) (by kernel_rfl) (by kernel_rfl) (e := Extern.BytealgCompare.compare) (by kernel_rfl), Lib.run_compareString]
  simp only [Result.andThen]
  rw [Oper.upon_value]
  go_wp2
  go_ret
  exact ⟨rfl, rfl⟩
set_option maxHeartbeats 1000000 in
set_option maxRecDepth 100000 in
theorem scmp_any (a b : ByteArray) (w : World) :
    Calls Tryd.prog 61 #[.string a, .string b] w fun e w' => e = .returned (.int .i64 (cmpS a b)) ∧ w' = w := by
  go_enter Tryd.func61, Tryd.ntmps61
  go_wp2_with (go_at_call 67; refine (scmp0_any _ _ _).mono ?_; rintro e w' ⟨rfl, rfl⟩)
  go_ret
  exact ⟨rfl, rfl⟩

set_option maxHeartbeats 400000 in
theorem ccmp_any (how : Int) (a b : ByteArray) (w : World) :
    Calls Tryd.prog 51 #[.int .i64 how, .string a, .string b] w fun e w' => e = .returned (.int .i64 (cmpH how a b)) ∧ w' = w := by
  by_cases h : how = 1
  · have e : cmpH how a b = cmpS b a := by simp [cmpH, h]
    rw [e]; clear e
    have hb : (how == 1) = true := by simp [h]
    clear h
    go_enter Tryd.func51, Tryd.ntmps51
    go_wp2_with (go_at_call 61; refine (scmp_any _ _ _).mono ?_; rintro e w' ⟨rfl, rfl⟩)
    go_ret
    exact ⟨rfl, rfl⟩
  · have e : cmpH how a b = cmpS a b := by simp [cmpH, h]
    rw [e]; clear e
    have hb : (how == 1) = false := by simp [h]
    clear h
    go_enter Tryd.func51, Tryd.ntmps51
    go_wp2_with (go_at_call 61; refine (scmp_any _ _ _).mono ?_; rintro e w' ⟨rfl, rfl⟩)
    go_ret
    exact ⟨rfl, rfl⟩

theorem ret_int' {k : IntKind} {a b : Int} (h : a = b) : Ending.returned (.int k a) = .returned (.int k b) := by rw [h]

theorem cmpH_way0 (how : Int) (a b : ByteArray) (h : (a.toList == b.toList) = true) : 0 = cmpH how a b := by
  simp only [beq_iff_eq, ByteArray.toList_eq] at h
  exact ((cmpH_zero how a b).2 (ba_eq.1 h)).symm
theorem cmpH_way1 (how : Int) (a b : ByteArray) (h : Op.bytesLess a.toList b.toList = true) (hh : (how == 1) = true) : 1 = cmpH how a b := by
  have := (cmpS_less a b).2 h
  have := cmpS_neg a b
  simp only [beq_iff_eq] at hh
  unfold cmpH; rw [if_pos hh]; omega
theorem cmpH_way2 (how : Int) (a b : ByteArray) (h : Op.bytesLess a.toList b.toList = true) (hh : (how == 1) = false) : -1 = cmpH how a b := by
  have := (cmpS_less a b).2 h
  have hh' : ¬ how = 1 := by simpa using hh
  unfold cmpH; rw [if_neg hh']; omega
theorem cmpS_pos (a b : ByteArray) (h0 : (a.toList == b.toList) = false) (h : Op.bytesLess a.toList b.toList = false) : cmpS a b = 1 := by
  have h1 : ¬ cmpS a b = 0 := by
    intro z; have := (cmpS_zero a b).1 z; subst this; simp at h0
  have h2 : ¬ cmpS a b = -1 := by
    intro z; have := (cmpS_less a b).1 z; rw [this] at h; cases h
  have := cmpS_cases a b
  omega
theorem cmpH_way3 (how : Int) (a b : ByteArray) (h0 : (a.toList == b.toList) = false) (h : Op.bytesLess a.toList b.toList = false) (hh : (how == 1) = true) : -1 = cmpH how a b := by
  have := cmpS_pos a b h0 h
  have := cmpS_neg a b
  simp only [beq_iff_eq] at hh
  unfold cmpH; rw [if_pos hh]; omega
theorem cmpH_way4 (how : Int) (a b : ByteArray) (h0 : (a.toList == b.toList) = false) (h : Op.bytesLess a.toList b.toList = false) (hh : (how == 1) = false) : 1 = cmpH how a b := by
  have := cmpS_pos a b h0 h
  have hh' : ¬ how = 1 := by simpa using hh
  unfold cmpH; rw [if_neg hh']; omega

set_option maxHeartbeats 400000 in
theorem rcmp_any (how : Int) (a b : ByteArray) (w : World) :
    Calls Tryd.prog 14 #[.int .i64 how, .string a, .string b] w fun e w' => e = .returned (.int .i64 (cmpH how a b)) ∧ w' = w := by
  go_enter Tryd.func14, Tryd.ntmps14
  go_wp2
  · go_ret; exact ⟨ret_int' (cmpH_way0 how a b ‹_›), rfl⟩
  · go_ret; exact ⟨ret_int' (cmpH_way1 how a b ‹_› ‹_›), rfl⟩
  · go_ret; exact ⟨ret_int' (cmpH_way2 how a b ‹_› ‹_›), rfl⟩
  · go_ret; exact ⟨ret_int' (cmpH_way3 how a b ‹_› ‹_› ‹_›), rfl⟩
  · go_ret; exact ⟨ret_int' (cmpH_way4 how a b ‹_› ‹_› ‹_›), rfl⟩

/-- A key's cells. -/
def kcells (u : ByteArray) (s k : Int) : Array Value := #[.string u, .int .u64 s, .int .i64 k]

theorem ne0 {x : Int} (h : (x != 0) = true) : ¬ x = 0 := by simpa using h
theorem eq0 {x : Int} (h : (x != 0) = false) : x = 0 := by simpa using h
theorem ordK_w1 {how : Int} {u : ByteArray} {s k : Int} {u' : ByteArray} {s' k' : Int} (h : (cmpH how u u' != 0) = true) : cmpH how u u' = ordK how u s k u' s' k' := by
  unfold ordK; rw [if_neg (ne0 h)]
theorem ordK_w2 {how : Int} {u : ByteArray} {s k : Int} {u' : ByteArray} {s' k' : Int} (h : (cmpH how u u' != 0) = false) (h2 : (cmpI s' s != 0) = true) : cmpI s' s = ordK how u s k u' s' k' := by
  unfold ordK; rw [if_pos (eq0 h), if_neg (ne0 h2)]
theorem ordK_w3 {how : Int} {u : ByteArray} {s k : Int} {u' : ByteArray} {s' k' : Int} (h : (cmpH how u u' != 0) = false) (h2 : (cmpI s' s != 0) = false) : cmpI k' k = ordK how u s k u' s' k' := by
  unfold ordK; rw [if_pos (eq0 h), if_pos (eq0 h2)]
theorem ordK_r1 {how : Int} {u : ByteArray} {s k : Int} {u' : ByteArray} {s' k' : Int} (h : (cmpH how u u' != 0) = false) (h2 : s' < s) : -1 = ordK how u s k u' s' k' := by
  have e := (cmpI_neg1 s' s).2 h2
  unfold ordK; rw [if_pos (eq0 h), if_neg (by omega)]; omega
theorem ordK_r2 {how : Int} {u : ByteArray} {s k : Int} {u' : ByteArray} {s' k' : Int} (h : (cmpH how u u' != 0) = false) (h1 : (s != s') = true) (h2 : s ≤ s') : 1 = ordK how u s k u' s' k' := by
  have h1' : ¬ s = s' := by simpa using h1
  have e := (cmpI_one s' s).2 (by omega)
  unfold ordK; rw [if_pos (eq0 h), if_neg (by omega)]; omega
theorem ordK_r3 {how : Int} {u : ByteArray} {s k : Int} {u' : ByteArray} {s' k' : Int} (h : (cmpH how u u' != 0) = false) (h1 : (s != s') = false) (h2 : k' < k) : -1 = ordK how u s k u' s' k' := by
  have h1' : s = s' := by simpa using h1
  have e := (cmpI_neg1 k' k).2 h2
  unfold ordK; rw [if_pos (eq0 h), if_pos ((cmpI_zero _ _).2 h1'.symm)]; omega
theorem ordK_r4 {how : Int} {u : ByteArray} {s k : Int} {u' : ByteArray} {s' k' : Int} (h : (cmpH how u u' != 0) = false) (h1 : (s != s') = false) (h3 : (k != k') = true) (h2 : k ≤ k') : 1 = ordK how u s k u' s' k' := by
  have h1' : s = s' := by simpa using h1
  have h3' : ¬ k = k' := by simpa using h3
  have e := (cmpI_one k' k).2 (by omega)
  unfold ordK; rw [if_pos (eq0 h), if_pos ((cmpI_zero _ _).2 h1'.symm)]; omega
theorem ordK_r5 {how : Int} {u : ByteArray} {s k : Int} {u' : ByteArray} {s' k' : Int} (h : (cmpH how u u' != 0) = false) (h1 : (s != s') = false) (h3 : (k != k') = false) : 0 = ordK how u s k u' s' k' := by
  have h1' : s = s' := by simpa using h1
  have h3' : k = k' := by simpa using h3
  exact ((ordK_zero _ _ _ _ _ _ _).2 ⟨(cmpH_zero _ _ _).1 (eq0 h), h1', h3'⟩).symm

set_option maxHeartbeats 400000 in
theorem cord_any (how : Int) (u : ByteArray) (s k : Int) (u' : ByteArray) (s' k' : Int) (w : World) :
    Calls Tryd.prog 60 #[.int .i64 how, .agg #[.string u, .int .u64 s, .int .i64 k], .agg #[.string u', .int .u64 s', .int .i64 k']] w fun e w' => e = .returned (.int .i64 (ordK how u s k u' s' k')) ∧ w' = (w.alloc (.cells #[.string u, .int .u64 s, .int .i64 k] 38)).alloc (.cells #[.string u', .int .u64 s', .int .i64 k'] 38) := by
  go_enter Tryd.func60, Tryd.ntmps60
  go_wp2_with (first
    | (go_at_call 51; refine (ccmp_any _ _ _ _).mono ?_; rintro e w' ⟨rfl, rfl⟩)
    | (go_at_call 62; refine (cmpu_any _ _ _).mono ?_; rintro e w' ⟨rfl, rfl⟩)
    | (go_at_call 66; refine (cmpi_any _ _ _).mono ?_; rintro e w' ⟨rfl, rfl⟩))
  · go_ret; exact ⟨ret_int' (ordK_w1 ‹_›), rfl⟩
  · go_ret; exact ⟨ret_int' (ordK_w2 ‹_› ‹_›), rfl⟩
  · go_ret; exact ⟨ret_int' (ordK_w3 ‹_› ‹_›), rfl⟩

set_option maxHeartbeats 400000 in
theorem rord_any (how : Int) (u : ByteArray) (s k : Int) (u' : ByteArray) (s' k' : Int) (w : World) :
    Calls Tryd.prog 43 #[.int .i64 how, .agg #[.string u, .int .u64 s, .int .i64 k], .agg #[.string u', .int .u64 s', .int .i64 k']] w fun e w' => e = .returned (.int .i64 (ordK how u s k u' s' k')) ∧ w' = (w.alloc (.cells #[.string u, .int .u64 s, .int .i64 k] 38)).alloc (.cells #[.string u', .int .u64 s', .int .i64 k'] 38) := by
  go_enter Tryd.func43, Tryd.ntmps43
  go_wp2_with (first
    | (go_at_call 14; refine (rcmp_any _ _ _ _).mono ?_; rintro e w' ⟨rfl, rfl⟩))
  · go_ret; exact ⟨ret_int' (ordK_w1 ‹_›), rfl⟩
  · go_ret; exact ⟨ret_int' (ordK_r1 ‹_› ‹_›), rfl⟩
  · go_ret; exact ⟨ret_int' (ordK_r2 ‹_› ‹_› ‹_›), rfl⟩
  · go_ret; exact ⟨ret_int' (ordK_r3 ‹_› ‹_› ‹_›), rfl⟩
  · go_ret; exact ⟨ret_int' (ordK_r4 ‹_› ‹_› ‹_› ‹_›), rfl⟩
  · go_ret; exact ⟨ret_int' (ordK_r5 ‹_› ‹_› ‹_›), rfl⟩
/-- A record. -/
structure Rec where
  fam : Int
  kind : Int
  key : ByteArray
  val : ByteArray
def Rec.c (r : Rec) : List Value := [.int .u32 r.fam, .int .i64 r.kind, .string r.key, .string r.val]
def mostV (k : Int) : Int := if k = 2 then 1024 else 16384
/-- Check's answer. -/
def chk (k : Int) (key val : ByteArray) : Int := if k < 0 ∨ 2 < k then 1 else if 1024 < (key.size : Int) then 2 else if k ≠ 0 ∧ mostV k < (val.size : Int) then 2 else 0

set_option maxRecDepth 100000 in
set_option maxHeartbeats 400000 in
theorem hasValue_any (k : Int) (w : World) : Calls Tryd.prog 45 #[.int .i64 k] w fun e w' => e = .returned (.bool (k != 0)) ∧ w' = w := by
  go_enter Tryd.func45, Tryd.ntmps45
  go_wp2
  go_ret
  exact ⟨rfl, rfl⟩
theorem ret_b {a b : Bool} (h : a = b) : Ending.returned (.bool a) = .returned (.bool b) := by rw [h]
set_option maxRecDepth 100000 in
set_option maxHeartbeats 400000 in
theorem isKind_any (k : Int) (w : World) : Calls Tryd.prog 44 #[.int .i64 k] w fun e w' => e = .returned (.bool (decide (0 ≤ k ∧ k ≤ 2))) ∧ w' = w := by
  go_enter Tryd.func44, Tryd.ntmps44
  go_wp2
  all_goals (go_ret; exact ⟨ret_b (by rw [Bool.eq_iff_iff]; simp; omega), rfl⟩)
set_option maxRecDepth 100000 in
set_option maxHeartbeats 400000 in
theorem mostValue_any (k : Int) (w : World) : Calls Tryd.prog 46 #[.int .i64 k] w fun e w' => e = .returned (.int .i64 (mostV k)) ∧ w' = w := by
  go_enter Tryd.func46, Tryd.ntmps46
  go_wp2
  all_goals (go_ret; exact ⟨ret_int' (by unfold mostV; split <;> simp_all), rfl⟩)

theorem belN {n : Nat} {a w : World} (h : Below n a w) (k : Nat) : Below n a (w.drewN k) := ⟨h.os, h.tape, h.output, h.size, h.block⟩
theorem hasValue_no {k : Int} (h : k = 0) (w : World) : Calls Tryd.prog 45 #[.int .i64 k] w fun e w' => e = .returned (.bool false) ∧ w' = w := by
  have := hasValue_any k w; rw [show (k != 0) = false by simp [h]] at this; exact this
theorem hasValue_yes {k : Int} (h : ¬ k = 0) (w : World) : Calls Tryd.prog 45 #[.int .i64 k] w fun e w' => e = .returned (.bool true) ∧ w' = w := by
  have := hasValue_any k w; rw [show (k != 0) = true by simp [h]] at this; exact this
theorem isKind_no {k : Int} (h : ¬ (0 ≤ k ∧ k ≤ 2)) (w : World) : Calls Tryd.prog 44 #[.int .i64 k] w fun e w' => e = .returned (.bool false) ∧ w' = w := by
  have := isKind_any k w; rw [show decide (0 ≤ k ∧ k ≤ 2) = false by simpa using h] at this; exact this
theorem isKind_yes {k : Int} (h : 0 ≤ k ∧ k ≤ 2) (w : World) : Calls Tryd.prog 44 #[.int .i64 k] w fun e w' => e = .returned (.bool true) ∧ w' = w := by
  have := isKind_any k w; rw [show decide (0 ≤ k ∧ k ≤ 2) = true by simpa using h] at this; exact this
abbrev recV (f k : Int) (key val : ByteArray) : Value := .agg #[.int .u32 f, .int .i64 k, .string key, .string val]
set_option maxRecDepth 100000 in
set_option maxHeartbeats 800000 in
theorem check_any (f k : Int) (key val : ByteArray) (w : World) :
    Calls Tryd.prog 31 #[recV f k key val] w fun e w' => e = .returned (.int .i64 (chk k key val)) ∧ Below w.heap.size w w' := by
  by_cases h1 : 0 ≤ k ∧ k ≤ 2
  · have H1 := isKind_yes h1
    have HN : ¬ (k < 0 ∨ 2 < k) := by omega
    clear h1
    by_cases h2 : 1024 < (key.size : Int)
    · have e : chk k key val = 2 := by unfold chk; rw [if_neg HN, if_pos h2]
      rw [e]; clear e HN
      go_enter Tryd.func31, Tryd.ntmps31
      go_wp2_with (go_at_call 44; refine (H1 _).mono ?_; rintro e w' ⟨rfl, rfl⟩)
      go_ret
      exact ⟨rfl, (Below.refl _ _).alloc (Nat.le_refl _) _⟩
    · by_cases h3 : k = 0
      · have e : chk k key val = 0 := by unfold chk; rw [if_neg HN, if_neg h2, if_neg (by simp [h3])]
        rw [e]; clear e HN
        have H2 := hasValue_no h3
        clear h3
        go_enter Tryd.func31, Tryd.ntmps31
        go_wp2_with (go_at_call 44; refine (H1 _).mono ?_; rintro e w' ⟨rfl, rfl⟩)
        go_quiet ((go_at_call 45; exact Calls.quiet_of_same (H2 _)))
        go_wp2; go_ret; exact ⟨rfl, belN ((Below.refl _ _).alloc (Nat.le_refl _) _) _⟩
      · have H2 := hasValue_yes h3
        by_cases h4 : mostV k < (val.size : Int)
        · have e : chk k key val = 2 := by unfold chk; rw [if_neg HN, if_neg h2, if_pos ⟨h3, h4⟩]
          rw [e]; clear e h3 HN
          go_enter Tryd.func31, Tryd.ntmps31
          go_wp2_with (go_at_call 44; refine (H1 _).mono ?_; rintro e w' ⟨rfl, rfl⟩)
          go_quiet (first | (go_at_call 45; exact Calls.quiet_of_same (H2 _)) | (go_at_call 46; exact Calls.quiet_of_same (mostValue_any k _)))
          go_wp2; go_ret; exact ⟨rfl, belN ((Below.refl _ _).alloc (Nat.le_refl _) _) _⟩
        · have e : chk k key val = 0 := by unfold chk; rw [if_neg HN, if_neg h2, if_neg (fun hh => h4 hh.2)]
          rw [e]; clear e h3 HN
          go_enter Tryd.func31, Tryd.ntmps31
          go_wp2_with (go_at_call 44; refine (H1 _).mono ?_; rintro e w' ⟨rfl, rfl⟩)
          go_quiet (first | (go_at_call 45; exact Calls.quiet_of_same (H2 _)) | (go_at_call 46; exact Calls.quiet_of_same (mostValue_any k _)))
          go_wp2; go_ret; exact ⟨rfl, belN ((Below.refl _ _).alloc (Nat.le_refl _) _) _⟩
  · have H1 := isKind_no h1
    have e : chk k key val = 1 := by unfold chk; rw [if_pos (by omega)]
    rw [e]; clear e h1
    go_enter Tryd.func31, Tryd.ntmps31
    go_wp2_with (go_at_call 44; refine (H1 _).mono ?_; rintro e w' ⟨rfl, rfl⟩)
    go_ret
    exact ⟨rfl, (Below.refl _ _).alloc (Nat.le_refl _) _⟩

end Go.Proofs.YtocanjefonlnaaaDoor
