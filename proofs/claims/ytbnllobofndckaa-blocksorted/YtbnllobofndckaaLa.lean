import Derived.Test.YtbnllobofndckaaBk
namespace Go.Proofs.Ytbnllobofndckaa
open Go.RowKit
set_option linter.unusedVariables false
set_option linter.unusedSimpArgs false
def isHw (how : Int) : Bool := decide (how = 0 ∨ how = 1)
theorem ishow_any (how : Int) (w : World) : Calls Try.prog 25 #[.int .i64 how] w fun e w' => e = .returned (.bool (isHw how)) ∧ w' = w := by
  go_enter Try.func25, Try.ntmps25
  go_wp2
  all_goals
    go_ret
    refine ⟨?_, rfl⟩
    unfold isHw
    by_cases h0 : how = 0 <;> by_cases h1 : how = 1 <;> simp_all
theorem rhow_any (how : Int) (w : World) : Calls Try.prog 30 #[.int .i64 how] w fun e w' => e = .returned (.bool (isHw how)) ∧ w' = w := by
  go_enter Try.func30, Try.ntmps30
  go_wp2
  all_goals
    go_ret
    refine ⟨?_, rfl⟩
    unfold isHw
    by_cases h0 : how = 0 <;> by_cases h1 : how = 1 <;> simp_all
/-- What is wrong with so many, with that many to a restart. -/
def cntE (r n : Int) : Int := if r < 1 ∨ 1024 < r then 1 else if 65536 < n then 2 else 0
theorem counts_any (r n : Int) (w : World) : Calls Try.prog 26 #[.int .i64 r, .int .i64 n] w fun e w' => e = .returned (.int .i64 (cntE r n)) ∧ w' = w := by
  go_enter Try.func26, Try.ntmps26
  go_wp2
  all_goals (go_ret; exact ⟨ret_ii (by unfold cntE; split <;> (try split) <;> simp_all <;> omega), rfl⟩)
/-- What is wrong with an entry. -/
def entE (u : ByteArray) (s k : Int) (v : ByteArray) : Int := if checkV u s k = 0 then (if 16384 < v.size then 2 else 0) else checkV u s k
set_option maxHeartbeats 800000 in
theorem entry_any (u : ByteArray) (s k : Int) (v : ByteArray) (w : World) : Calls Try.prog 27 #[.agg #[.string u, .int .u64 s, .int .i64 k, .string v]] w fun e w' => e = .returned (.int .i64 (entE u s k v)) ∧ Below w.heap.size w w' := by
  obtain ⟨c, hc⟩ : ∃ c, Hid (checkV u s k = c) := ⟨_, rfl⟩
  have HC : Hid (∀ W, Calls Try.prog 56 #[.agg #[.string u, .int .u64 s, .int .i64 k]] W fun e w' => e = .returned (.int .i64 c) ∧ Below W.heap.size W w') := fun W => by
    refine (ccheck_any u s k W).mono ?_
    rintro e w' ⟨rfl, rfl⟩
    rw [hc.out]
    exact ⟨rfl, (Below.refl _ _).alloc (Nat.le_refl _) _⟩
  have hE : Hid (entE u s k v = if c = 0 then (if 16384 < v.size then 2 else 0) else c) := by unfold entE; rw [hc.out]; rfl
  have hb0 : Below w.heap.size w (w.alloc (.cells #[.string u, .int .u64 s, .int .i64 k, .string v] 48)) := (Below.refl _ _).alloc (Nat.le_refl _) _
  have b0 := Blk.new w 48 [.string u, .int .u64 s, .int .i64 k, .string v]
  go_enter Try.func27, Try.ntmps27
  go_wp2_with (go_at_call 56; refine (HC.out _).mono ?_; rintro e w1 ⟨rfl, hb1⟩; have b1 := b0.upd (S := Non) (Upd.ofBelow hb1) id; have e3 := b1.cell1 3 _ rfl; have hb2 := hb0.trans (hb1.mono hb0.size))
  all_goals (go_ret; refine ⟨ret_ii ?_, hb2⟩; rw [hE.out]; (try simp_all); (try omega))
theorem value_any (v : ByteArray) (w : World) : Calls Try.prog 32 #[.string v] w fun e w' => e = .returned (.int .i64 (if 16384 < v.size then 2 else 0)) ∧ w' = w := by
  go_enter Try.func32, Try.ntmps32
  go_wp2
  all_goals (go_ret; exact ⟨ret_ii (by (try simp_all); (try omega)), rfl⟩)
/-- How many bytes two texts begin with that are the same. -/
def com : List Int → List Int → Nat
  | x :: a, y :: b => if x = y then com a b + 1 else 0
  | _, _ => 0
theorem com_le : ∀ a b : List Int, com a b ≤ a.length ∧ com a b ≤ b.length
  | [], _ => by simp [com]
  | _ :: _, [] => by simp [com]
  | x :: a, y :: b => by
    have := com_le a b
    unfold com
    split <;> simp <;> omega
theorem com_here : ∀ (k : Nat) (a b : List Int), (∀ j, j < k → a[j]? = b[j]?) → k ≤ a.length → k ≤ b.length → (k = a.length ∨ k = b.length ∨ a[k]? ≠ b[k]?) → com a b = k
  | 0, [], b, _, _, _, _ => by simp [com]
  | 0, x :: a, [], _, _, _, _ => by simp [com]
  | 0, x :: a, y :: b, _, _, _, h => by
    unfold com
    rw [if_neg]
    intro e
    subst e
    simp at h
  | k + 1, [], b, _, h, _, _ => by simp at h
  | k + 1, x :: a, [], _, _, h, _ => by simp at h
  | k + 1, x :: a, y :: b, hj, h1, h2, h => by
    have e : x = y := by have := hj 0 (by omega); simpa using this
    unfold com
    rw [if_pos e, com_here k a b (fun j hk => by have := hj (j + 1) (by omega); simpa using this) (by simpa using h1) (by simpa using h2) (by simpa using h)]
set_option maxHeartbeats 1000000 in
theorem incommon_any {w : World} {a1 a2 : Option Addr} {n1 n2 c1 c2 : Nat} {A B : List Int} (h1 : Arg w a1 n1 c1 A) (h2 : Arg w a2 n2 c2 B) :
    Calls Try.prog 86 #[.slice a1 n1 c1, .slice a2 n2 c2] w fun e w' => e = .returned (.int .i64 (com A B)) ∧ Below w.heap.size w w' := by
  have e1 := h1.1
  have e2 := h2.1
  have m1 := h1.2.2.1
  have m2 := h2.2.2.1
  have H1 : Hid (Arg w a1 n1 c1 A) := h1
  have H2 : Hid (Arg w a2 n2 c2 B) := h2
  have E1 : Hid (A.length = n1) := e1
  have E2 : Hid (B.length = n2) := e2
  clear h1 h2 e1 e2
  go_enter Try.func86, Try.ntmps86
  rcases Nat.lt_trichotomy n1 n2 with hle | hle | hle
  · have hle1 : (n1 : Int) ≤ n2 := by omega
    have hle2 : ¬ (n2 : Int) ≤ n1 := by omega
    go_wp2
    go_loopw [6, 13] (fun _ i wr => ∃ k : Nat, k ≤ n1 ∧ i = .int .i64 k ∧ Hid (∀ j, j < k → A[j]? = B[j]?) ∧ Below w.heap.size w wr) (fun _ i _ => ((n1 : Int) - intOf i).toNat)
    case atStart => exact ⟨0, Nat.zero_le _, rfl, fun j hj => by omega, Below.refl _ _⟩
    case round =>
      obtain ⟨k, hk, rfl, HA, hb⟩ := hrel
      rcases Nat.lt_or_ge k n1 with hkm | hkm
      · have hkz : (k : Int) < n1 := by omega
        have hk1 : k < n1 := by omega
        have hk2 : k < n2 := by omega
        have hz1 : (k : Int) < n1 := by omega
        have hz2 : (k : Int) < n2 := by omega
        obtain ⟨b1, o1, rfl, x, hx, cx⟩ : ∃ b o, a1 = some ⟨b, o, none⟩ ∧ ∃ x, A[k]? = some x ∧ wr.cell? ⟨b, o + k, none⟩ = some (.int .u8 x) := by
          rcases (H1.out.below hb).2.2.2 with h | ⟨b, o, e, _, h⟩
          · have := E1.out; rw [h] at this; simp at this; omega
          · exact ⟨b, o, e, A[k]'(by rw [E1.out]; exact hk1), List.getElem?_eq_getElem _, h k (by rw [E1.out]; exact hk1)⟩
        obtain ⟨b2, o2, rfl, y, hy, cy⟩ : ∃ b o, a2 = some ⟨b, o, none⟩ ∧ ∃ x, B[k]? = some x ∧ wr.cell? ⟨b, o + k, none⟩ = some (.int .u8 x) := by
          rcases (H2.out.below hb).2.2.2 with h | ⟨b, o, e, _, h⟩
          · have := E2.out; rw [h] at this; simp at this; omega
          · exact ⟨b, o, e, B[k]'(by rw [E2.out]; exact hk2), List.getElem?_eq_getElem _, h k (by rw [E2.out]; exact hk2)⟩
        have HX : Hid (A[k]? = some x) := hx
        have HY : Hid (B[k]? = some y) := hy
        have HB : Hid (Below w.heap.size w wr) := hb
        clear hx hy hb
        by_cases hxy : x = y
        · have hne : (x != y) = false := by simp [hxy]
          have HXY : Hid (x = y) := hxy
          clear hxy
          go_wp2
          go_big_quiet (fail)
          have hbn : Hid (Below w.heap.size w (wr.drewN nq)) := HB.out.trans ⟨rfl, rfl, rfl, Nat.le_refl _, fun _ _ => rfl⟩
          go_wp2
          go_roundw
          case rel =>
            refine ⟨k + 1, by omega, by go_num, fun j hj => ?_, hbn.out⟩
            rcases Nat.lt_or_ge j k with h | h
            · exact HA.out j h
            · obtain rfl : j = k := by omega
              rw [HX.out, HY.out, HXY.out]
          case measure => simp [intOf]; omega
        · have hne : (x != y) = true := by simp [hxy]
          have HXY : Hid (¬ x = y) := hxy
          clear hxy
          go_wp2
          go_big_quiet (fail)
          have hbn : Hid (Below w.heap.size w (wr.drewN nq)) := HB.out.trans ⟨rfl, rfl, rfl, Nat.le_refl _, fun _ _ => rfl⟩
          go_wp2
          go_ret
          refine ⟨ret_ii ?_, hbn.out⟩
          rw [com_here k A B HA.out (by rw [E1.out]; omega) (by rw [E2.out]; omega) (.inr (.inr (by rw [HX.out, HY.out]; intro e; exact HXY.out (Option.some.inj e))))]
      · have hkz : ¬ ((k : Int) < n1) := by omega
        go_wp2
        go_ret
        refine ⟨ret_ii ?_, hb⟩
        rw [com_here k A B HA.out (by rw [E1.out]; omega) (by rw [E2.out]; omega) (by rw [E1.out, E2.out]; omega)]
        omega
  · subst hle
    go_wp2
    go_loopw [6, 13] (fun _ i wr => ∃ k : Nat, k ≤ n1 ∧ i = .int .i64 k ∧ Hid (∀ j, j < k → A[j]? = B[j]?) ∧ Below w.heap.size w wr) (fun _ i _ => ((n1 : Int) - intOf i).toNat)
    case atStart => exact ⟨0, Nat.zero_le _, rfl, fun j hj => by omega, Below.refl _ _⟩
    case round =>
      obtain ⟨k, hk, rfl, HA, hb⟩ := hrel
      rcases Nat.lt_or_ge k n1 with hkm | hkm
      · have hkz : (k : Int) < n1 := by omega
        have hk1 : k < n1 := by omega
        have hk2 : k < n1 := by omega
        have hz1 : (k : Int) < n1 := by omega
        have hz2 : (k : Int) < n1 := by omega
        obtain ⟨b1, o1, rfl, x, hx, cx⟩ : ∃ b o, a1 = some ⟨b, o, none⟩ ∧ ∃ x, A[k]? = some x ∧ wr.cell? ⟨b, o + k, none⟩ = some (.int .u8 x) := by
          rcases (H1.out.below hb).2.2.2 with h | ⟨b, o, e, _, h⟩
          · have := E1.out; rw [h] at this; simp at this; omega
          · exact ⟨b, o, e, A[k]'(by rw [E1.out]; exact hk1), List.getElem?_eq_getElem _, h k (by rw [E1.out]; exact hk1)⟩
        obtain ⟨b2, o2, rfl, y, hy, cy⟩ : ∃ b o, a2 = some ⟨b, o, none⟩ ∧ ∃ x, B[k]? = some x ∧ wr.cell? ⟨b, o + k, none⟩ = some (.int .u8 x) := by
          rcases (H2.out.below hb).2.2.2 with h | ⟨b, o, e, _, h⟩
          · have := E2.out; rw [h] at this; simp at this; omega
          · exact ⟨b, o, e, B[k]'(by rw [E2.out]; exact hk2), List.getElem?_eq_getElem _, h k (by rw [E2.out]; exact hk2)⟩
        have HX : Hid (A[k]? = some x) := hx
        have HY : Hid (B[k]? = some y) := hy
        have HB : Hid (Below w.heap.size w wr) := hb
        clear hx hy hb
        by_cases hxy : x = y
        · have hne : (x != y) = false := by simp [hxy]
          have HXY : Hid (x = y) := hxy
          clear hxy
          go_wp2
          go_big_quiet (fail)
          have hbn : Hid (Below w.heap.size w (wr.drewN nq)) := HB.out.trans ⟨rfl, rfl, rfl, Nat.le_refl _, fun _ _ => rfl⟩
          go_wp2
          go_roundw
          case rel =>
            refine ⟨k + 1, by omega, by go_num, fun j hj => ?_, hbn.out⟩
            rcases Nat.lt_or_ge j k with h | h
            · exact HA.out j h
            · obtain rfl : j = k := by omega
              rw [HX.out, HY.out, HXY.out]
          case measure => simp [intOf]; omega
        · have hne : (x != y) = true := by simp [hxy]
          have HXY : Hid (¬ x = y) := hxy
          clear hxy
          go_wp2
          go_big_quiet (fail)
          have hbn : Hid (Below w.heap.size w (wr.drewN nq)) := HB.out.trans ⟨rfl, rfl, rfl, Nat.le_refl _, fun _ _ => rfl⟩
          go_wp2
          go_ret
          refine ⟨ret_ii ?_, hbn.out⟩
          rw [com_here k A B HA.out (by rw [E1.out]; omega) (by rw [E2.out]; omega) (.inr (.inr (by rw [HX.out, HY.out]; intro e; exact HXY.out (Option.some.inj e))))]
      · have hkz : ¬ ((k : Int) < n1) := by omega
        go_wp2
        go_ret
        refine ⟨ret_ii ?_, hb⟩
        rw [com_here k A B HA.out (by rw [E1.out]; omega) (by rw [E2.out]; omega) (by rw [E1.out, E2.out]; omega)]
        omega
  · have hle1 : (n2 : Int) ≤ n1 := by omega
    have hle2 : ¬ (n1 : Int) ≤ n2 := by omega
    go_wp2
    go_loopw [6, 13] (fun _ i wr => ∃ k : Nat, k ≤ n2 ∧ i = .int .i64 k ∧ Hid (∀ j, j < k → A[j]? = B[j]?) ∧ Below w.heap.size w wr) (fun _ i _ => ((n2 : Int) - intOf i).toNat)
    case atStart => exact ⟨0, Nat.zero_le _, rfl, fun j hj => by omega, Below.refl _ _⟩
    case round =>
      obtain ⟨k, hk, rfl, HA, hb⟩ := hrel
      rcases Nat.lt_or_ge k n2 with hkm | hkm
      · have hkz : (k : Int) < n2 := by omega
        have hk1 : k < n1 := by omega
        have hk2 : k < n2 := by omega
        have hz1 : (k : Int) < n1 := by omega
        have hz2 : (k : Int) < n2 := by omega
        obtain ⟨b1, o1, rfl, x, hx, cx⟩ : ∃ b o, a1 = some ⟨b, o, none⟩ ∧ ∃ x, A[k]? = some x ∧ wr.cell? ⟨b, o + k, none⟩ = some (.int .u8 x) := by
          rcases (H1.out.below hb).2.2.2 with h | ⟨b, o, e, _, h⟩
          · have := E1.out; rw [h] at this; simp at this; omega
          · exact ⟨b, o, e, A[k]'(by rw [E1.out]; exact hk1), List.getElem?_eq_getElem _, h k (by rw [E1.out]; exact hk1)⟩
        obtain ⟨b2, o2, rfl, y, hy, cy⟩ : ∃ b o, a2 = some ⟨b, o, none⟩ ∧ ∃ x, B[k]? = some x ∧ wr.cell? ⟨b, o + k, none⟩ = some (.int .u8 x) := by
          rcases (H2.out.below hb).2.2.2 with h | ⟨b, o, e, _, h⟩
          · have := E2.out; rw [h] at this; simp at this; omega
          · exact ⟨b, o, e, B[k]'(by rw [E2.out]; exact hk2), List.getElem?_eq_getElem _, h k (by rw [E2.out]; exact hk2)⟩
        have HX : Hid (A[k]? = some x) := hx
        have HY : Hid (B[k]? = some y) := hy
        have HB : Hid (Below w.heap.size w wr) := hb
        clear hx hy hb
        by_cases hxy : x = y
        · have hne : (x != y) = false := by simp [hxy]
          have HXY : Hid (x = y) := hxy
          clear hxy
          go_wp2
          go_big_quiet (fail)
          have hbn : Hid (Below w.heap.size w (wr.drewN nq)) := HB.out.trans ⟨rfl, rfl, rfl, Nat.le_refl _, fun _ _ => rfl⟩
          go_wp2
          go_roundw
          case rel =>
            refine ⟨k + 1, by omega, by go_num, fun j hj => ?_, hbn.out⟩
            rcases Nat.lt_or_ge j k with h | h
            · exact HA.out j h
            · obtain rfl : j = k := by omega
              rw [HX.out, HY.out, HXY.out]
          case measure => simp [intOf]; omega
        · have hne : (x != y) = true := by simp [hxy]
          have HXY : Hid (¬ x = y) := hxy
          clear hxy
          go_wp2
          go_big_quiet (fail)
          have hbn : Hid (Below w.heap.size w (wr.drewN nq)) := HB.out.trans ⟨rfl, rfl, rfl, Nat.le_refl _, fun _ _ => rfl⟩
          go_wp2
          go_ret
          refine ⟨ret_ii ?_, hbn.out⟩
          rw [com_here k A B HA.out (by rw [E1.out]; omega) (by rw [E2.out]; omega) (.inr (.inr (by rw [HX.out, HY.out]; intro e; exact HXY.out (Option.some.inj e))))]
      · have hkz : ¬ ((k : Int) < n2) := by omega
        go_wp2
        go_ret
        refine ⟨ret_ii ?_, hb⟩
        rw [com_here k A B HA.out (by rw [E1.out]; omega) (by rw [E2.out]; omega) (by rw [E1.out, E2.out]; omega)]
        omega
end Go.Proofs.Ytbnllobofndckaa
