import Derived.Test.YtjnlolibfcpbkaaDoorA
import Derived.BigQuiet
namespace Go.Proofs.YtjnlolibfcpbkaaDoor
open Go.RowKit Go.Maps
set_option linter.unusedVariables false
set_option linter.unusedSimpArgs false

/-- How many bytes a head has. -/
def hd (rc : Bool) : Nat := if rc then 11 else 7
theorem hd_bd (rc : Bool) : 7 ≤ hd rc ∧ hd rc ≤ 11 := by cases rc <;> simp [hd]
def lft (at_ : Nat) : Nat := 4096 - at_ % 4096
theorem lft_bd (a : Nat) : 0 < lft a ∧ lft a ≤ 4096 := by unfold lft; omega
def tl (rc : Bool) (at_ : Nat) : Nat := if lft at_ < hd rc then lft at_ else 0
theorem tl_bd (rc : Bool) (a : Nat) : tl rc a ≤ 10 := by
  have := hd_bd rc
  unfold tl; split <;> omega
/-- The kind that a type says. -/
def kd (rc : Bool) (n : Int) : Int := if (if rc then n - 4 else n) < 1 ∨ 4 < (if rc then n - 4 else n) then 0 else (if rc then n - 4 else n)
abbrev lay (log : Int) (rc : Bool) : Value := .agg #[.int .u32 log, .bool rc]
theorem ret_n {a b : Nat} (h : a = b) : Ending.returned (.int .i64 (a : Int)) = .returned (.int .i64 (b : Int)) := by rw [h]

theorem head_any (log : Int) (rc : Bool) (w : World) :
    Calls Tryd.prog 28 #[lay log rc] w fun e w' => e = .returned (.int .i64 (hd rc : Nat)) ∧ Below w.heap.size w w' := by
  cases rc
  · go_enter Tryd.func28, Tryd.ntmps28
    go_wp2
    go_ret
    exact ⟨rfl, (Below.refl _ _).alloc (Nat.le_refl _) _⟩
  · go_enter Tryd.func28, Tryd.ntmps28
    go_wp2
    go_ret
    exact ⟨rfl, (Below.refl _ _).alloc (Nat.le_refl _) _⟩
theorem left_any (a : Nat) (ha : a ≤ 2000000000) (w : World) :
    Calls Tryd.prog 30 #[.int .i64 a] w fun e w' => e = .returned (.int .i64 (lft a : Nat)) ∧ w' = w := by
  have h0 : (0 : Int) ≤ (a : Int) := by omega
  go_enter Tryd.func30, Tryd.ntmps30
  go_wp2
  go_ret
  refine ⟨ret_int ?_, rfl⟩
  have := lft_bd a
  unfold lft at *
  go_num
theorem tail_any (log : Int) (rc : Bool) (a : Nat) (ha : a ≤ 2000000000) (w : World) :
    Calls Tryd.prog 26 #[lay log rc, .int .i64 a] w fun e w' => e = .returned (.int .i64 (tl rc a : Nat)) ∧ Below w.heap.size w w' := by
  have hl := lft_bd a
  have hh := hd_bd rc
  obtain ⟨T, hT⟩ : ∃ T, T = tl rc a := ⟨_, rfl⟩
  rw [← hT]
  unfold tl at hT
  have hL := fun w => left_any a ha w
  obtain ⟨L, hLL⟩ : ∃ L, L = lft a := ⟨_, rfl⟩
  simp only [← hLL] at hL hl hT
  clear hLL
  by_cases hlt : L < hd rc
  · rw [if_pos hlt] at hT
    rw [hT]
    have hlt' : (L : Int) < (hd rc : Nat) := by omega
    go_enter Tryd.func26, Tryd.ntmps26
    go_wp2_with (first
      | (go_at_call 30; refine (hL _).mono ?_; rintro e w1 ⟨rfl, rfl⟩)
      | (go_at_call 28; refine (head_any _ _ _).mono ?_; rintro e w2 ⟨rfl, hB⟩))
    go_ret
    exact ⟨rfl, ((Below.refl w.heap.size w).alloc (Nat.le_refl _) _).trans (hB.mono (by simp))⟩
  · rw [if_neg hlt] at hT
    rw [hT]
    have hlt' : ((hd rc : Nat) : Int) ≤ (L : Int) := by omega
    go_enter Tryd.func26, Tryd.ntmps26
    go_wp2_with (first
      | (go_at_call 30; refine (hL _).mono ?_; rintro e w1 ⟨rfl, rfl⟩)
      | (go_at_call 28; refine (head_any _ _ _).mono ?_; rintro e w2 ⟨rfl, hB⟩))
    go_ret
    exact ⟨rfl, ((Below.refl w.heap.size w).alloc (Nat.le_refl _) _).trans (hB.mono (by simp))⟩

set_option maxHeartbeats 1000000 in
theorem kind_any (log : Int) (rc : Bool) (n : Int) (h0 : 0 ≤ n) (h1 : n < 256) (w : World) :
    Calls Tryd.prog 21 #[lay log rc, .int .u8 n] w fun e w' => e = .returned (.int .i64 (kd rc n)) ∧ Below w.heap.size w w' := by
  have wn : IntKind.i64.wrap n = n := by rw [IntKind.wrap_i64]; omega
  cases rc
  · by_cases hl : n < 1
    · have e : kd false n = 0 := by simp [kd, hl]
      rw [e]
      go_enter Tryd.func21, Tryd.ntmps21
      go_wp2
      go_ret
      exact ⟨rfl, (Below.refl _ _).alloc (Nat.le_refl _) _⟩
    · by_cases hg : 4 < n
      · have e : kd false n = 0 := by simp [kd, hg]
        rw [e]
        have hl' : 1 ≤ n := by omega
        go_enter Tryd.func21, Tryd.ntmps21
        go_wp2
        go_ret
        exact ⟨rfl, (Below.refl _ _).alloc (Nat.le_refl _) _⟩
      · have e : kd false n = n := by simp [kd, hg, hl]
        rw [e]
        have hl' : 1 ≤ n := by omega
        have hg' : n ≤ 4 := by omega
        go_enter Tryd.func21, Tryd.ntmps21
        go_wp2
        go_ret
        exact ⟨rfl, (Below.refl _ _).alloc (Nat.le_refl _) _⟩
  · have wn4 : IntKind.i64.wrap (n - 4) = n - 4 := by rw [IntKind.wrap_i64]; omega
    obtain ⟨m, hm⟩ : ∃ m, m = n - 4 := ⟨_, rfl⟩
    rw [← hm] at wn4
    by_cases hl : m < 1
    · have e : kd true n = 0 := by simp [kd, ← hm, hl]
      rw [e]
      go_enter Tryd.func21, Tryd.ntmps21
      go_wp2
      go_ret
      exact ⟨rfl, (Below.refl _ _).alloc (Nat.le_refl _) _⟩
    · by_cases hg : 4 < m
      · have e : kd true n = 0 := by simp [kd, ← hm, hg]
        rw [e]
        have hl' : 1 ≤ m := by omega
        go_enter Tryd.func21, Tryd.ntmps21
        go_wp2
        go_ret
        exact ⟨rfl, (Below.refl _ _).alloc (Nat.le_refl _) _⟩
      · have e : kd true n = m := by simp [kd, ← hm, hg, hl]
        rw [e]
        have hl' : 1 ≤ m := by omega
        have hg' : m ≤ 4 := by omega
        go_enter Tryd.func21, Tryd.ntmps21
        go_wp2
        go_ret
        exact ⟨ret_int (by omega), (Below.refl _ _).alloc (Nat.le_refl _) _⟩
theorem rhead_any (rc : Bool) (w : World) : Calls Tryd.prog 15 #[.bool rc] w fun e w' => e = .returned (.int .i64 (hd rc : Nat)) ∧ w' = w := by
  cases rc
  · go_enter Tryd.func15, Tryd.ntmps15
    go_wp2
    go_ret
    exact ⟨rfl, rfl⟩
  · go_enter Tryd.func15, Tryd.ntmps15
    go_wp2
    go_ret
    exact ⟨rfl, rfl⟩
/-- How a log ends where nothing more was written. -/
def qt (op : Bool) : Int := if op then 1 else 0
def bd (rc : Bool) : Int := if rc then 1 else 3
theorem rend_any (op : Bool) (w : World) : Calls Tryd.prog 17 #[.bool op] w fun e w' => e = .returned (.int .i64 (qt op)) ∧ w' = w := by
  cases op
  · go_enter Tryd.func17, Tryd.ntmps17
    go_wp2
    go_ret
    exact ⟨rfl, rfl⟩
  · go_enter Tryd.func17, Tryd.ntmps17
    go_wp2
    go_ret
    exact ⟨rfl, rfl⟩
/-- The reader's cells. -/
def rdC (bv : Value) (log : Int) (rc : Bool) (sol at_ : Nat) (op : Bool) (rv lv : Value) (en : Nat) : List Value := [bv, .int .u32 log, .bool rc, .int .i64 sol, .int .i64 at_, .bool op, rv, lv, .int .i64 en]
section
variable {w : World} {rb : Nat} {bv : Value} {log : Int} {rc : Bool} {sol at_ : Nat} {op : Bool} {rv lv : Value} {en : Nat}
theorem quiet_any (h : Blk w rb 44 (rdC bv log rc sol at_ op rv lv en)) : Calls Tryd.prog 27 #[ptr rb] w fun e w' => e = .returned (.int .i64 (qt op)) ∧ w' = w := by
  have c5 := h.cell1 5 _ rfl
  cases op
  · go_enter Tryd.func27, Tryd.ntmps27
    go_wp2
    go_ret
    exact ⟨rfl, rfl⟩
  · go_enter Tryd.func27, Tryd.ntmps27
    go_wp2
    go_ret
    exact ⟨rfl, rfl⟩
theorem bad_any (h : Blk w rb 44 (rdC bv log rc sol at_ op rv lv en)) : Calls Tryd.prog 31 #[ptr rb] w fun e w' => e = .returned (.int .i64 (bd rc)) ∧ w' = w := by
  have c5 := h.cell1 2 _ rfl
  cases rc
  · go_enter Tryd.func31, Tryd.ntmps31
    go_wp2
    go_ret
    exact ⟨rfl, rfl⟩
  · go_enter Tryd.func31, Tryd.ntmps31
    go_wp2
    go_ret
    exact ⟨rfl, rfl⟩
end
/-- A byte of a slice that came in. -/
theorem Arg.at {w : World} {a : Option Addr} {len cap : Nat} {l : List Int} (h : Arg w a len cap l) {k : Nat} (hk : k < len) :
    ∃ B off X, a = some ⟨B, off, none⟩ ∧ B < w.heap.size ∧ l[k]? = some X ∧ 0 ≤ X ∧ X < 256 ∧ w.cell? ⟨B, off + k, none⟩ = some (.int .u8 X) := by
  obtain ⟨rfl, h2, h3, h4⟩ := h
  rcases h4 with rfl | ⟨b, off, rfl, hlt, hc⟩
  · simp at hk
  · exact ⟨b, off, l[k], rfl, hlt, List.getElem?_eq_getElem hk, (h2 _ (List.getElem_mem hk)).1, (h2 _ (List.getElem_mem hk)).2, hc k hk⟩
def leN (l : List Int) : Nat := ((l[4]?.getD 0) + (l[5]?.getD 0) * 256).toNat
set_option maxHeartbeats 1000000 in
theorem length_any (a : Option Addr) (len cap : Nat) (l : List Int) (w : World) (h : Arg w a len cap l) (h6 : 6 ≤ len) :
    Calls Tryd.prog 29 #[.slice a len cap] w fun e w' => e = .returned (.int .i64 (leN l : Nat)) ∧ Upd Non w w' := by
  obtain ⟨B, off, X, rfl, hB, e4, x0, x1, c4⟩ := h.at (k := 4) (by omega)
  obtain ⟨B', off', Y, e, hB', e5, y0, y1, c5⟩ := h.at (k := 5) (by omega)
  cases e
  have hv : ((leN l : Nat) : Int) = X + Y * 256 := by
    unfold leN
    rw [e4, e5]
    simp
    omega
  rw [hv]
  have wX : IntKind.i64.wrap X = X := by rw [IntKind.wrap_i64]; omega
  have wY : IntKind.i64.wrap Y = Y := by rw [IntKind.wrap_i64]; omega
  have wZ : IntKind.i64.wrap (Y * 256) = Y * 256 := by rw [IntKind.wrap_i64]; omega
  have l4 : (4 : Int) < (len : Int) := by omega
  have l5 : (5 : Int) < (len : Int) := by omega
  clear h e4 e5 hv
  go_enter Tryd.func29, Tryd.ntmps29
  go_wp2
  go_quiet (fail)
  go_wp2
  go_ret
  exact ⟨rfl, Upd.ofBelow (below_drewN (Below.refl _ _) _)⟩
set_option maxHeartbeats 1000000 in
theorem noughts_any (a : Option Addr) (len cap : Nat) (l : List Int) (w : World) (h : Arg w a len cap l) :
    Calls Tryd.prog 16 #[.slice a len cap] w fun e w' => e = .returned (.bool (l.all (· == 0))) ∧ w' = w := by
  have hlen := h.2.2.1
  have hl := h.1
  go_enter Tryd.func16, Tryd.ntmps16
  go_wp2
  go_loop [3] (fun i => ∃ k : Nat, k ≤ len ∧ i = .int .i64 k ∧ (l.take k).all (· == 0) = true) (fun i => len - (intOf i).toNat)
  case atStart => exact ⟨0, Nat.zero_le _, rfl, by simp⟩
  case round =>
    obtain ⟨k, hk, rfl, hz⟩ := hrel
    by_cases hlt : k < len
    · obtain ⟨B, off, X, rfl, hB, ek, x0, x1, ck⟩ := h.at hlt
      have hlt' : (k : Int) < (len : Int) := by omega
      have hk0 : (0 : Int) ≤ (k : Int) := by omega
      have hkl : k < l.length := by omega
      have eX : l[k] = X := by have := List.getElem?_eq_getElem hkl; rw [this] at ek; simpa using ek
      have hz' : Hid _ := hz
      clear hz h ek
      by_cases hx : X = 0
      · subst hx
        go_wp2
        go_round
        case rel =>
          refine ⟨k + 1, by omega, by go_num, ?_⟩
          rw [List.take_succ_eq_append_getElem hkl, List.all_append, hz'.out, eX]
          rfl
        case measure => simp [intOf]; omega
      · have hx' : (X == 0) = false := by simpa using hx
        go_wp2
        go_ret
        refine ⟨?_, rfl⟩
        have : l.all (· == 0) = false := by
          rw [List.all_eq_false]
          exact ⟨l[k], List.getElem_mem hkl, by rw [eX]; simp [hx]⟩
        rw [this]
        rfl
    · obtain rfl : k = len := by omega
      rw [List.take_of_length_le (by omega)] at hz
      have hz' : Hid _ := hz
      clear hz
      go_wp2
      go_ret
      exact ⟨by rw [hz'.out]; rfl, rfl⟩

/-- Whether bytes are a recycled log's. -/
def rcy (l : List Int) : Bool := match l[6]? with | some x => decide (5 ≤ x ∧ x ≤ 8) | none => false
set_option maxHeartbeats 1000000 in
theorem rrecycled_any (a : Option Addr) (len cap : Nat) (l : List Int) (w : World) (h : Arg w a len cap l) :
    Calls Tryd.prog 14 #[.slice a len cap] w fun e w' => e = .returned (.bool (rcy l)) ∧ w' = w := by
  have hl := h.1
  by_cases h7 : len < 7
  · have e : rcy l = false := by unfold rcy; rw [List.getElem?_eq_none (by omega)]
    rw [e]
    have h7' : (len : Int) < 7 := by omega
    go_enter Tryd.func14, Tryd.ntmps14
    go_wp2
    go_ret
    exact ⟨rfl, rfl⟩
  · obtain ⟨B, off, X, rfl, hB, e6, x0, x1, c6⟩ := h.at (k := 6) (by omega)
    have h7' : (7 : Int) ≤ (len : Int) := by omega
    have l6 : (6 : Int) < (len : Int) := by omega
    by_cases hx : 5 ≤ X
    · by_cases hy : X ≤ 8
      · have e : rcy l = true := by unfold rcy; rw [e6]; simp [hx, hy]
        rw [e]
        clear e e6 h
        go_enter Tryd.func14, Tryd.ntmps14
        go_wp2
        go_ret
        exact ⟨rfl, rfl⟩
      · have e : rcy l = false := by unfold rcy; rw [e6]; simp [hy]
        rw [e]
        have hy' : 8 < X := by omega
        clear e e6 h
        go_enter Tryd.func14, Tryd.ntmps14
        go_wp2
        go_ret
        exact ⟨rfl, rfl⟩
    · have e : rcy l = false := by unfold rcy; rw [e6]; simp [hx]
      rw [e]
      have hx' : X < 5 := by omega
      clear e e6 h
      go_enter Tryd.func14, Tryd.ntmps14
      go_wp2
      go_ret
      exact ⟨rfl, rfl⟩
theorem kd_rcy (X : Int) : (kd true X == 0) = !(decide (5 ≤ X ∧ X ≤ 8)) := by
  unfold kd
  simp only [if_true]
  by_cases h : X - 4 < 1 ∨ 4 < X - 4
  · rw [if_pos h]
    have : ¬ (5 ≤ X ∧ X ≤ 8) := by omega
    simp [this]
  · rw [if_neg h]
    have : 5 ≤ X ∧ X ≤ 8 := by omega
    have h2 : X - 4 ≠ 0 := by omega
    simp [this, h2]
set_option maxHeartbeats 1000000 in
theorem recycled_any (a : Option Addr) (len cap : Nat) (l : List Int) (w : World) (h : Arg w a len cap l) :
    Calls Tryd.prog 11 #[.slice a len cap] w fun e w' => e = .returned (.bool (rcy l)) ∧ Below w.heap.size w w' := by
  have hl := h.1
  by_cases h7 : len < 7
  · have e : rcy l = false := by unfold rcy; rw [List.getElem?_eq_none (by omega)]
    rw [e]
    have h7' : (len : Int) ≤ 6 := by omega
    go_enter Tryd.func11, Tryd.ntmps11
    go_wp2
    go_ret
    exact ⟨rfl, Below.refl _ _⟩
  · obtain ⟨B, off, X, rfl, hB, e6, x0, x1, c6⟩ := h.at (k := 6) (by omega)
    have l6 : (6 : Int) < (len : Int) := by omega
    have e : rcy l = !(kd true X == 0) := by unfold rcy; rw [e6, kd_rcy]; simp
    rw [e]
    clear e e6 h
    have HK := kind_any 0 true X x0 x1
    generalize kd true X = K at HK
    by_cases hk : K = 0
    · subst hk
      go_enter Tryd.func11, Tryd.ntmps11
      go_wp2_with (go_at_call 21; refine (HK _).mono ?_; rintro e w1 ⟨rfl, hB1⟩)
      go_ret
      exact ⟨rfl, hB1⟩
    · have hk' : (K == 0) = false := by simpa using hk
      rw [hk']
      go_enter Tryd.func11, Tryd.ntmps11
      go_wp2_with (go_at_call 21; refine (HK _).mono ?_; rintro e w1 ⟨rfl, hB1⟩)
      go_ret
      exact ⟨by show Ending.returned (.bool (K != 0)) = _; simp [bne, hk'], hB1⟩

end Go.Proofs.YtjnlolibfcpbkaaDoor
