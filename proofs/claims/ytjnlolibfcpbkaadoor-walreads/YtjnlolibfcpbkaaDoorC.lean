import Derived.Test.YtjnlolibfcpbkaaDoorB
namespace Go.Proofs.YtjnlolibfcpbkaaDoor
open Go.RowKit Go.Maps
set_option linter.unusedVariables false
set_option linter.unusedSimpArgs false
theorem elem22 : Tryd.prog.elem 22 = 5 := by kernel_rfl
theorem slc22 : Tryd.prog.underlying 22 = some (.slice (Tryd.prog.elem 22)) := by rw [elem22]; exact Tryd.underlying22
/-- Where a slice begins behind its first m. -/
def cutA (a : Option Addr) (cap m : Nat) : Option Addr := if cap = m then a else a.map (·.add m)
theorem bcut_lo (b off n cap m : Nat) (h : m ≤ n) (W : World) : (Instr.sliceAt 22 (.slice (some ⟨b, off, none⟩) n cap) (some (.int .i64 m)) none none).run Tryd.prog W = .ok (.slice (cutA (some ⟨b, off, none⟩) cap m) (n - m) (cap - m)) W := by
  have hs : (sizeOf 5).run Tryd.prog W = .ok 1 W := by kernel_rfl
  have hr := run_slice_l (P := Tryd.prog) W 22 (some ⟨b, off, none⟩) n cap slc22 .i64 (m : Int) (by omega) (by omega)
  rw [elem22, hs] at hr
  simp only [Result.andThen, sliced, Int.toNat_natCast] at hr
  rw [run_sliceAt_slice _ _ _ _ _ _ slc22, hr]
  unfold cutA
  split <;> simp [add_at]
theorem bcut_hi (a : Option Addr) (n cap m : Nat) (h : m ≤ cap) (W : World) : (Instr.sliceAt 22 (.slice a n cap) none (some (.int .i64 m)) none).run Tryd.prog W = .ok (.slice a m cap) W := by
  have hs : (sizeOf 5).run Tryd.prog W = .ok 1 W := by kernel_rfl
  have hr := run_slice_h (P := Tryd.prog) W 22 a n cap slc22 .i64 (m : Int) (by omega) (by omega)
  rw [elem22, hs] at hr
  simp only [Result.andThen, sliced, Int.toNat_natCast] at hr
  rw [run_sliceAt_slice _ _ _ _ _ _ slc22, hr]
  cases a <;> simp [Addr.add]
theorem bcut_lh (b off n cap m k : Nat) (h : m ≤ k) (hk : k ≤ cap) (W : World) : (Instr.sliceAt 22 (.slice (some ⟨b, off, none⟩) n cap) (some (.int .i64 m)) (some (.int .i64 k)) none).run Tryd.prog W = .ok (.slice (cutA (some ⟨b, off, none⟩) cap m) (k - m) (cap - m)) W := by
  have hs : (sizeOf 5).run Tryd.prog W = .ok 1 W := by kernel_rfl
  have hr := run_slice_lh (P := Tryd.prog) W 22 (some ⟨b, off, none⟩) n cap slc22 .i64 .i64 (m : Int) (k : Int) (by omega) (by omega) (by omega)
  rw [elem22, hs] at hr
  simp only [Result.andThen, sliced, Int.toNat_natCast] at hr
  rw [run_sliceAt_slice _ _ _ _ _ _ slc22, hr]
  unfold cutA
  split <;> simp [add_at]
theorem Arg.hi {w : World} {a : Option Addr} {len cap : Nat} {l : List Int} (h : Arg w a len cap l) {m : Nat} (hm : m ≤ len) : Arg w a m cap (l.take m) := by
  obtain ⟨rfl, h2, h3, h4⟩ := h
  refine ⟨by simp; omega, take_bd h2 m, by omega, ?_⟩
  rcases h4 with rfl | ⟨b, off, rfl, hlt, hc⟩
  · exact .inl (by simp)
  · refine .inr ⟨b, off, rfl, hlt, fun j hj => ?_⟩
    rw [List.length_take] at hj
    rw [List.getElem_take]
    exact hc j (by omega)
theorem Arg.lo {w : World} {a : Option Addr} {len cap : Nat} {l : List Int} (h : Arg w a len cap l) {m : Nat} (hm : m ≤ len) (hc : len ≤ cap) : Arg w (cutA a cap m) (len - m) (cap - m) (l.drop m) := by
  obtain ⟨rfl, h2, h3, h4⟩ := h
  refine ⟨by simp, fun n hn => h2 n (List.mem_of_mem_drop hn), by omega, ?_⟩
  rcases h4 with rfl | ⟨b, off, rfl, hlt, hcl⟩
  · exact .inl (by simp)
  · by_cases e : cap = m
    · exact .inl (List.drop_eq_nil_of_le (by omega))
    · refine .inr ⟨b, off + m, by unfold cutA; rw [if_neg e]; simp [add_at], hlt, fun j hj => ?_⟩
      rw [List.length_drop] at hj
      rw [List.getElem_drop, Nat.add_assoc]
      exact hcl (m + j) (by omega)
/-- Ahead of place n nothing but noughts ends. -/
def IsSol (l : List Int) (n : Nat) : Prop := n ≤ l.length ∧ (l.drop n).all (· == 0) = true ∧ (n = 0 ∨ ∃ x, l[n - 1]? = some x ∧ x ≠ 0)
theorem IsSol.lt {l : List Int} {n : Nat} (h : IsSol l n) (k : Nat) : decide (k < n) = !(l.drop k).all (· == 0) := by
  obtain ⟨h1, h2, h3⟩ := h
  by_cases hk : k < n
  · rcases h3 with rfl | ⟨x, hx, hne⟩
    · omega
    · have : (l.drop k).all (· == 0) = false := by
        rw [List.all_eq_false]
        refine ⟨x, ?_, by simpa using hne⟩
        refine List.mem_of_getElem? (i := n - 1 - k) ?_
        rw [List.getElem?_drop, show k + (n - 1 - k) = n - 1 by omega]
        exact hx
      simp [this, hk]
  · have : (l.drop k).all (· == 0) = true := by
      have e : l.drop k = (l.drop n).drop (k - n) := by rw [List.drop_drop]; congr 1; omega
      rw [e, List.all_eq_true]
      rw [List.all_eq_true] at h2
      exact fun x hx => h2 x (List.mem_of_mem_drop hx)
    simp [this, hk]
set_option maxHeartbeats 1000000 in
theorem trimByte_any (a : Option Addr) (len cap : Nat) (l : List Int) (w : World) (h : Arg w a len cap l) (hcap : len ≤ cap) :
    Calls Tryd.prog 22 #[.slice a len cap, .int .u8 0] w fun e w' => ∃ n, IsSol l n ∧ e = .returned (.slice a n cap) ∧ w' = w := by
  have hlen := h.2.2.1
  have hl := h.1
  go_enter Tryd.func22, Tryd.ntmps22
  go_wp2
  go_loop [0] (fun v => ∃ n : Nat, n ≤ len ∧ v = .slice a n cap ∧ (l.drop n).all (· == 0) = true) (fun v => match v with | .slice _ n _ => n | _ => 0)
  case atStart => exact ⟨len, Nat.le_refl _, rfl, by rw [List.drop_of_length_le (by omega)]; rfl⟩
  case round =>
    obtain ⟨n, hn, rfl, hz⟩ := hrel
    have hz' : Hid _ := hz
    clear hz
    by_cases hp : n = 0
    · subst hp
      go_wp2
      go_ret
      exact ⟨0, ⟨Nat.zero_le _, hz'.out, .inl rfl⟩, rfl, rfl⟩
    · obtain ⟨B, off, X, rfl, hB, ek, x0, x1, ck⟩ := h.at (k := n - 1) (by omega)
      have hp' : (0 : Int) < (n : Int) := by omega
      have e1 : (n : Int) - 1 = ((n - 1 : Nat) : Int) := by omega
      have CH := bcut_hi (some ⟨B, off, none⟩) n cap (n - 1) (by omega)
      have ib : ((n - 1 : Nat) : Int) < (n : Int) := by omega
      have ib0 : (0 : Int) ≤ ((n - 1 : Nat) : Int) := by omega
      have ek' : Hid _ := ek
      clear ek h
      by_cases hx : X = 0
      · subst hx
        go_wp2
        go_round
        case rel =>
          refine ⟨n - 1, by omega, rfl, ?_⟩
          have e : l.drop (n - 1) = 0 :: l.drop n := by
            have h1 : n - 1 < l.length := by omega
            rw [List.drop_eq_getElem_cons h1, show n - 1 + 1 = n by omega]
            congr 1
            have := ek'.out
            rw [List.getElem?_eq_getElem h1] at this
            simpa using this
          rw [e, List.all_cons, hz'.out]
          rfl
        case measure => simp; omega
      · have hx' : (X == 0) = false := by simpa using hx
        go_wp2
        go_ret
        exact ⟨n, ⟨by omega, hz'.out, .inr ⟨X, ek'.out, hx⟩⟩, rfl, rfl⟩
set_option maxRecDepth 100000 in
set_option maxHeartbeats 1000000 in
theorem trim_any (a : Option Addr) (len cap : Nat) (l : List Int) (w : World) (h : Arg w a len cap l) (hcap : len ≤ cap) :
    Calls Tryd.prog 12 #[.slice a len cap, .string ⟨#[0]⟩] w fun e w' => ∃ v n, IsSol l n ∧ e = .returned v ∧ (∃ a' c, v = .slice a' n c) ∧ w' = w := by
  have hl := h.1
  by_cases h0 : len = 0
  · subst h0
    have hnil : l = [] := List.eq_nil_of_length_eq_zero hl
    subst hnil
    go_enter Tryd.func12, Tryd.ntmps12
    go_wp2
    go_ret
    exact ⟨_, 0, ⟨Nat.le_refl _, rfl, .inl rfl⟩, rfl, ⟨_, _, rfl⟩, rfl⟩
  · have h0' : ((len : Int) == 0) = false := by simpa using h0
    have HT := trimByte_any a len cap l w h hcap
    go_enter Tryd.func12, Tryd.ntmps12
    go_wp2_with (go_at_call 22; refine HT.mono ?_; rintro e w1 ⟨n, hn, rfl, rfl⟩)
    go_ret
    exact ⟨_, n, hn, rfl, ⟨_, _, rfl⟩, rfl⟩
end Go.Proofs.YtjnlolibfcpbkaaDoor
