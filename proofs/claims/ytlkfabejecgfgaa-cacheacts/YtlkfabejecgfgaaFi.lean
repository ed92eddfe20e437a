import Derived.Test.YtlkfabejecgfgaaFh
namespace Go.Proofs.Ytlkfabejecgfgaa
open Go.RowKit Go.Maps
set_option linter.unusedVariables false
set_option linter.unusedSimpArgs false
def sumU (l : List Xs) : Nat := l.foldl (fun n x => plusT n (tolT x.us)) 0
def sumP (l : List Xs) : Nat := l.foldl (fun n x => plusT n (tolT x.pn)) 0
def sumC (l : List Xs) : Nat := l.foldl (fun n x => n + x.cnt) 0
theorem plusT_lt (a b : Nat) : plusT a b < 18446744073709551616 := by unfold plusT; exact tolT_lt _
theorem sumU_lt (l : List Xs) : sumU l < 18446744073709551616 := by
  unfold sumU
  rcases List.eq_nil_or_concat l with rfl | ⟨r, x, rfl⟩
  · simp
  · simp only [List.concat_eq_append, List.foldl_append, List.foldl_cons, List.foldl_nil]; exact plusT_lt _ _
theorem sumP_lt (l : List Xs) : sumP l < 18446744073709551616 := by
  unfold sumP
  rcases List.eq_nil_or_concat l with rfl | ⟨r, x, rfl⟩
  · simp
  · simp only [List.concat_eq_append, List.foldl_append, List.foldl_cons, List.foldl_nil]; exact plusT_lt _ _
theorem sumU_snoc {l : List Xs} {m : Nat} {x : Xs} (h : l[m]? = some x) : sumU (l.take (m + 1)) = plusT (sumU (l.take m)) (tolT x.us) := by
  unfold sumU; rw [List.take_add_one, h]; simp
theorem sumP_snoc {l : List Xs} {m : Nat} {x : Xs} (h : l[m]? = some x) : sumP (l.take (m + 1)) = plusT (sumP (l.take m)) (tolT x.pn) := by
  unfold sumP; rw [List.take_add_one, h]; simp
theorem sumC_snoc {l : List Xs} {m : Nat} {x : Xs} (h : l[m]? = some x) : sumC (l.take (m + 1)) = sumC (l.take m) + x.cnt := by
  unfold sumC; rw [List.take_add_one, h]; simp
section
variable {w : World} {L : Lo} {s : Cs}
set_option maxRecDepth 100000 in
set_option maxHeartbeats 2000000 in
theorem charge_any (h : Ca w L s) (n2 : s.xs.length ≤ 64) : Calls Try.prog 15 #[.pointer (some ⟨L.cb, 0, none⟩)] w fun e w' => e = .returned (.int .u64 (sumU s.xs)) ∧ w' = w := by
  have c0 := h.blk.cell1 0 _ rfl
  obtain ⟨rc, hrl, hS⟩ := h.row
  have hall : Hid (sumU s.xs = sumU (s.xs.take s.xs.length)) := by show sumU s.xs = _; rw [List.take_length]
  obtain ⟨n, hn⟩ : ∃ n, s.xs.length = n := ⟨_, rfl⟩
  rw [hn] at c0 n2 hall
  go_enter Try.func15, Try.ntmps15
  go_wp2_with fail
  go_loopw [3, 10] (fun a i wr => ∃ m : Nat, i = .int .i64 m ∧ a = .int .u64 (sumU (s.xs.take m)) ∧ m ≤ n ∧ wr = w) (fun a i wr => match i with | .int _ z => n - z.toNat | _ => 0)
  case atStart => exact ⟨0, rfl, rfl, Nat.zero_le _, rfl⟩
  case round =>
    obtain ⟨m, rfl, rfl, hm, hwr⟩ := hrel
    subst hwr
    by_cases hlt : m < n
    · have hlt' : (m : Int) < n := by omega
      obtain ⟨x, hx⟩ : ∃ x, s.xs[m]? = some x := ⟨_, List.getElem?_eq_getElem (by omega)⟩
      have S := hS m x hx
      have H1 := told_any S.row (o := m * 7 + 3) (S.cel 3 _ rfl) (S.cel 4 _ rfl)
      have H2 := plus_any wr (sumU (s.xs.take m)) (tolT x.us) (sumU_lt _) (tolT_lt _)
      have e1 : Hid (sumU (s.xs.take (m + 1)) = plusT (sumU (s.xs.take m)) (tolT x.us)) := sumU_snoc hx
      clear S
      generalize hA : sumU (s.xs.take m) = A at *
      generalize hT : tolT x.us = T at *
      generalize hP : plusT A T = P at *
      go_wp2_with (first
        | (go_at_call 44; refine H1.mono ?_; rintro e w1 ⟨rfl, hw⟩; have hw' := hw.symm; subst hw')
        | (go_at_call 43; refine H2.mono ?_; rintro e w1 ⟨rfl, hw⟩; have hw' := hw.symm; subst hw'))
      go_roundw
      case rel => exact ⟨m + 1, rfl, by rw [e1.out], hlt, trivial⟩
      case measure => simp only []; omega
    · have hlt' : (m : Int) = n := by omega
      have hmn : m = n := by omega
      subst hmn
      generalize sumU (s.xs.take m) = A at *
      go_wp2_with fail
      go_ret
      rw [hall.out]
      exact ⟨rfl, rfl⟩
set_option maxRecDepth 100000 in
set_option maxHeartbeats 2000000 in
theorem pinned_any (h : Ca w L s) (n2 : s.xs.length ≤ 64) : Calls Try.prog 17 #[.pointer (some ⟨L.cb, 0, none⟩)] w fun e w' => e = .returned (.int .u64 (sumP s.xs)) ∧ w' = w := by
  have c0 := h.blk.cell1 0 _ rfl
  obtain ⟨rc, hrl, hS⟩ := h.row
  have hall : Hid (sumP s.xs = sumP (s.xs.take s.xs.length)) := by show sumP s.xs = _; rw [List.take_length]
  obtain ⟨n, hn⟩ : ∃ n, s.xs.length = n := ⟨_, rfl⟩
  rw [hn] at c0 n2 hall
  go_enter Try.func17, Try.ntmps17
  go_wp2_with fail
  go_loopw [3, 10] (fun a i wr => ∃ m : Nat, i = .int .i64 m ∧ a = .int .u64 (sumP (s.xs.take m)) ∧ m ≤ n ∧ wr = w) (fun a i wr => match i with | .int _ z => n - z.toNat | _ => 0)
  case atStart => exact ⟨0, rfl, rfl, Nat.zero_le _, rfl⟩
  case round =>
    obtain ⟨m, rfl, rfl, hm, hwr⟩ := hrel
    subst hwr
    by_cases hlt : m < n
    · have hlt' : (m : Int) < n := by omega
      obtain ⟨x, hx⟩ : ∃ x, s.xs[m]? = some x := ⟨_, List.getElem?_eq_getElem (by omega)⟩
      have S := hS m x hx
      have H1 := told_any S.row (o := m * 7 + 5) (S.cel 5 _ rfl) (S.cel 6 _ rfl)
      have H2 := plus_any wr (sumP (s.xs.take m)) (tolT x.pn) (sumP_lt _) (tolT_lt _)
      have e1 : Hid (sumP (s.xs.take (m + 1)) = plusT (sumP (s.xs.take m)) (tolT x.pn)) := sumP_snoc hx
      clear S
      generalize hA : sumP (s.xs.take m) = A at *
      generalize hT : tolT x.pn = T at *
      generalize hP : plusT A T = P at *
      go_wp2_with (first
        | (go_at_call 44; refine H1.mono ?_; rintro e w1 ⟨rfl, hw⟩; have hw' := hw.symm; subst hw')
        | (go_at_call 43; refine H2.mono ?_; rintro e w1 ⟨rfl, hw⟩; have hw' := hw.symm; subst hw'))
      go_roundw
      case rel => exact ⟨m + 1, rfl, by rw [e1.out], hlt, trivial⟩
      case measure => simp only []; omega
    · have hlt' : (m : Int) = n := by omega
      have hmn : m = n := by omega
      subst hmn
      generalize sumP (s.xs.take m) = A at *
      go_wp2_with fail
      go_ret
      rw [hall.out]
      exact ⟨rfl, rfl⟩
set_option maxRecDepth 100000 in
set_option maxHeartbeats 2000000 in
theorem len_any (h : Ca w L s) (n2 : s.xs.length ≤ 64) (hct : ∀ m, m ≤ s.xs.length → sumC (s.xs.take m) < 9223372036854775808) : Calls Try.prog 37 #[.pointer (some ⟨L.cb, 0, none⟩)] w fun e w' => e = .returned (.int .i64 (sumC s.xs)) ∧ w' = w := by
  have c0 := h.blk.cell1 0 _ rfl
  obtain ⟨rc, hrl, hS⟩ := h.row
  have hall : Hid (sumC s.xs = sumC (s.xs.take s.xs.length)) := by show sumC s.xs = _; rw [List.take_length]
  obtain ⟨n, hn⟩ : ∃ n, s.xs.length = n := ⟨_, rfl⟩
  rw [hn] at c0 n2 hall hct
  go_enter Try.func37, Try.ntmps37
  go_wp2_with fail
  go_loopw [3, 10] (fun a i wr => ∃ m : Nat, i = .int .i64 m ∧ a = .int .i64 (sumC (s.xs.take m)) ∧ m ≤ n ∧ wr = w) (fun a i wr => match i with | .int _ z => n - z.toNat | _ => 0)
  case atStart => exact ⟨0, rfl, rfl, Nat.zero_le _, rfl⟩
  case round =>
    obtain ⟨m, rfl, rfl, hm, hwr⟩ := hrel
    subst hwr
    by_cases hlt : m < n
    · have hlt' : (m : Int) < n := by omega
      obtain ⟨x, hx⟩ : ∃ x, s.xs[m]? = some x := ⟨_, List.getElem?_eq_getElem (by omega)⟩
      have S := hS m x hx
      obtain ⟨D, hD, hsz⟩ := S.map
      have hlen := hD.len Try.underlying59
      rw [hsz] at hlen
      have r0 := S.row.cell1 (m * 7) _ (S.cel 0 _ rfl)
      have e1 := sumC_snoc hx
      have hb := hct (m + 1) hlt
      rw [e1] at hb
      have e1' : Hid _ := e1
      clear S e1 hct hD
      generalize hA : sumC (s.xs.take m) = A at *
      generalize hT : x.cnt = T at *
      have hb' : (A : Int) + T < 9223372036854775808 := by omega
      go_wp2_with fail
      go_roundw
      case rel => exact ⟨m + 1, rfl, by rw [e1'.out]; simp, hlt, trivial⟩
      case measure => simp only []; omega
    · have hlt' : (m : Int) = n := by omega
      have hmn : m = n := by omega
      subst hmn
      generalize sumC (s.xs.take m) = A at *
      go_wp2_with fail
      go_ret
      rw [hall.out]
      exact ⟨rfl, rfl⟩
end
end Go.Proofs.Ytlkfabejecgfgaa
