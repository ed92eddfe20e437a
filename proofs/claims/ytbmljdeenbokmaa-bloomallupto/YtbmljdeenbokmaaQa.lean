/-
  The reference's leaves: Probes, Check, Bits.
-/
import Derived.Test.YtbmljdeenbokmaaV
namespace Go.Proofs.Ytbmljdeenbokmaa
open Go.RowKit Go.Maps
set_option linter.unusedVariables false
set_option linter.unusedSimpArgs false

set_option maxHeartbeats 400000 in
theorem rprobes_yes (b : Int) (w : World) (hs1 : 1 ≤ b) (hs2 : b ≤ 64) : Calls Try.prog 10 #[.int .i64 b] w fun e w' => e = .returned (.tuple #[.int .i64 (npr b), .int .i64 0]) ∧ w' = w := by
  obtain ⟨m, hm⟩ : ∃ m, npr b = m := ⟨_, rfl⟩
  rw [hm]
  have HM : Hid (npr b = m) := hm
  clear hm
  go_enter Try.func10, Try.ntmps10
  go_wp2
  all_goals
    go_ret2
    have e := HM.out
    unfold npr at e
    refine ⟨ret2_i ?_, rfl⟩
    by_cases e1 : b * 69 / 100 < 1
    · rw [if_pos e1] at e; omega
    · rw [if_neg e1] at e
      by_cases e2 : 30 < b * 69 / 100
      · rw [if_pos e2] at e; omega
      · rw [if_neg e2] at e; omega
set_option maxHeartbeats 400000 in
theorem rprobes_no (b : Int) (w : World) (hs : b < 1 ∨ 64 < b) : Calls Try.prog 10 #[.int .i64 b] w fun e w' => e = .returned (.tuple #[.int .i64 0, .int .i64 1]) ∧ w' = w := by
  rcases hs with hs | hs
  · go_enter Try.func10, Try.ntmps10
    go_wp2
    go_ret2
    exact ⟨rfl, rfl⟩
  · have : ¬ b < 1 := by omega
    go_enter Try.func10, Try.ntmps10
    go_wp2
    go_ret2
    exact ⟨rfl, rfl⟩
set_option maxRecDepth 100000 in
set_option maxHeartbeats 1000000 in
theorem rcheck_any (a : Option Addr) (len cap : Nat) (l : List Int) (w : World) (h : Arg w a len l) : Calls Try.prog 18 #[.slice a len cap] w fun e w' => e = .returned (.int .i64 (chk l)) ∧ w' = w := by
  obtain ⟨rfl, hb, hl, h4⟩ := h
  obtain ⟨m, hm⟩ : ∃ m, chk l = m := ⟨_, rfl⟩
  rw [hm]
  have HM : Hid (chk l = m) := hm
  clear hm
  by_cases h9 : l.length < 9
  · clear h4
    have HE : Hid (chk l = 3) := by
      show _ = _
      have : ¬ 9 ≤ l.length := by omega
      simp [chk, chkB, isf, this]
    go_enter Try.func18, Try.ntmps18
    go_wp2
    go_ret
    exact ⟨ret_i (by rw [← HM.out, HE.out]), rfl⟩
  · rcases h4 with h4 | ⟨b, off, rfl, hlt, hc⟩
    · exact absurd (by rw [h4]; simp) h9
    · obtain ⟨n, hn⟩ : ∃ n, l.length = n + 1 := ⟨l.length - 1, by omega⟩
      have hcn := hc n (by omega)
      obtain ⟨x, hx⟩ : ∃ x, l.getD n 0 = x := ⟨_, rfl⟩
      have hxb := byt_get hb n
      rw [hx] at hcn hxb
      have HX : Hid (chk l = if (decide (1 ≤ x) && decide (x ≤ 30)) && decide (n + 1 ≤ 16777216) then 0 else 3) := by
        show chk l = _
        unfold chk chkB isf; rw [hn, show n + 1 - 1 = n by omega, hx]
        have : 9 ≤ n + 1 := by omega
        simp [this]
      clear hx hc hb
      obtain ⟨hx0, hx1⟩ := hxb
      rw [hn] at h9 hl ⊢
      clear hn
      by_cases hbig : 16777216 < n + 1
      · have hbi : (16777216 : Int) < (n : Int) + 1 := by omega
        have h9i : ¬ (n : Int) + 1 < 9 := by omega
        have HBG : Hid (16777216 < n + 1) := hbig
        clear hbig h9
        go_enter Try.func18, Try.ntmps18
        go_wp2
        go_ret
        exact ⟨ret_i (by have := HBG.out; rw [← HM.out, HX.out, if_neg]; simp only [Bool.and_eq_true, decide_eq_true_eq]; omega), rfl⟩
      · have hbi : ¬ (16777216 : Int) < (n : Int) + 1 := by omega
        by_cases hx2 : x < 1
        · go_enter Try.func18, Try.ntmps18
          go_wp2
          go_ret
          exact ⟨ret_i (by rw [← HM.out, HX.out, if_neg]; simp only [Bool.and_eq_true, decide_eq_true_eq]; omega), rfl⟩
        · by_cases hx3 : 30 < x
          · go_enter Try.func18, Try.ntmps18
            go_wp2
            go_ret
            exact ⟨ret_i (by rw [← HM.out, HX.out, if_neg]; simp only [Bool.and_eq_true, decide_eq_true_eq]; omega), rfl⟩
          · go_enter Try.func18, Try.ntmps18
            go_wp2
            go_ret
            exact ⟨ret_i (by rw [← HM.out, HX.out, if_pos]; simp only [Bool.and_eq_true, decide_eq_true_eq]; omega), rfl⟩
/-- The cells of numbers of 64 bits. -/
def lc (l : List Int) : List Value := l.map (Value.int .u64)
theorem info31 : (Try.prog.info? 31).map (fun i => (i.zero, i.size, i.bytes)) = some (some (.int .u64 0), 1, 8) := by kernel_rfl
/-- append of one number. -/
theorem wpl_lpush {w : World} {ops : Array Oper} {rest : List Oper} {o : Oper} {a : Act} {Q : Exit → Act → World → Prop} (hgd : o.guard = none) {d : Nat} (hd : o.dst = some d) (s x : Operand)
    (ho : o.op = .call { callee := .builtin .append, args := #[s, x], argTypes := #[50, 50] }) {base n : Nat} {v : Value} {T : List Int} (hs : a.eval s = v) (u : Int) (hx : a.eval x = .slice (some ⟨w.heap.size, 0, none⟩) 1 1) (hown : w.ownsRow base 31 1 v n (lc T)) (hn : (n + 1) * 8 ≤ 140737488355328) (hbase : base ≤ w.heap.size)
    (h : ∀ av cv w', w'.ownsRow base 31 1 (.slice av (n + 1) cv) (n + 1) (lc (T ++ [u])) → Below base w w' → wpList Try.prog ops Q rest (a.put (some d) (.slice av (n + 1) cv)) w') :
    wpList Try.prog ops Q (o :: rest) a (w.alloc (.cells #[.int .u64 u] 31)) := by
  obtain ⟨i0, hi, hz0, hz1, hz2⟩ := info_parts info31
  have hown' : (w.alloc (.cells #[.int .u64 u] 31)).ownsRow base 31 1 v n (lc T) := by
    refine ⟨hown.1, ?_⟩
    rcases hown.2 with hn | ⟨g, cap, cur, rfl, hb, hg, rest⟩
    · exact .inl hn
    · exact .inr ⟨g, cap, cur, rfl, hb, (Below.heap_alloc _ _ _ (Array.getElem?_eq_some_iff.1 hg).1).trans hg, rest⟩
  refine wpList_append_own_at _ hgd _ _ 50 ho base 31 i0 (.int .u64 0) 1 8 Try.underlying50 hi hz0 hz1 hz2 rfl (by decide) v n (lc T) hs hown' ⟨w.heap.size, 0, none⟩ 1 1 [.int .u64 u] hx rfl (cell_one_new _ _ _) (by simp [Value.oneCell']) (by unfold maxLen; omega) (by omega) (by simp; omega) ?_
  intro v' w' h1 h2 _ h4
  obtain ⟨av, cv, rfl⟩ := row_form h1
  rw [hd]
  refine h av cv w' (by simpa [lc] using h1) (((Below.refl base w).alloc hbase _).grown h2 (by simp; omega) (fun k hk => ?_))
  rcases hown.2 with ⟨rfl, _⟩ | ⟨g, cap, cur, rfl, hb, hg, rest⟩
  · cases hk
  · cases hk; exact hb
/-- A row of numbers, as it reads. -/
theorem row_lcell {w : World} {base n cap : Nat} {a : Option Addr} {T : List Int} (h : w.ownsRow base 31 1 (.slice a n cap) n (lc T)) : T.length = n ∧ (T = [] ∨ ∃ b, a = some ⟨b, 0, none⟩ ∧ base ≤ b ∧ b < w.heap.size ∧ ∀ j, j < n → w.cell? ⟨b, j, none⟩ = some (.int .u64 (T.getD j 0))) := by
  have hl : T.length = n := by have := h.1; simpa [lc] using this
  refine ⟨hl, ?_⟩
  rcases h.2 with ⟨he, rfl⟩ | ⟨g, cap', cur, he, hb, hg, hle, hm, hcz, hct⟩
  · exact .inl (List.length_eq_zero_iff.1 hl)
  · cases he
    refine .inr ⟨g, rfl, hb, (Array.getElem?_eq_some_iff.1 hg).1, fun j hj => ?_⟩
    have h1 : (cur.toList.take (n * 1))[j]? = (lc T)[j]? := by rw [hct]
    rw [List.getElem?_take, if_pos (by omega)] at h1
    simp only [World.cell?, hg]
    rw [← Array.getElem?_toList, h1]
    simp [lc, List.getElem?_eq_getElem (by omega : j < T.length)]
theorem row_none31 (w : World) (base : Nat) : w.ownsRow base 31 1 (.slice none 0 0) 0 (lc []) := ⟨rfl, .inl ⟨rfl, rfl⟩⟩
set_option maxHeartbeats 1000000 in
theorem rbits_any (s : ByteArray) (m : Int) (n : Nat) (w : World) (hs : s.size ≤ maxLen) (hm0 : 0 < m) (hm1 : m < 9223372036854775808) (hn : n ≤ 255) :
    Calls Try.prog 25 #[.string s, .int .u64 m, .int .i64 n] w fun e w' => ∃ av cv, e = .returned (.slice av n cv) ∧ w'.ownsRow w.heap.size 31 1 (.slice av n cv) n (lc (prbs (hsh s) m n)) ∧ Below w.heap.size w w' := by
  have hb := hsh_bd s
  have HH : Hid (∀ W, Calls Try.prog 14 #[.string s] W fun e w' => e = .returned (.int .u64 (hsh s)) ∧ w' = W) := fun W => hashr_any s W hs
  obtain ⟨h, hh⟩ : ∃ h, hsh s = h := ⟨_, rfl⟩
  rw [hh] at HH hb ⊢
  obtain ⟨hb0, hb1⟩ := hb
  clear hh
  have hst := stp_bd h
  unfold stp at hst
  obtain ⟨hs0, hs1⟩ := hst
  go_enter Try.func25, Try.ntmps25
  go_wp2_with (go_at_call 14; refine (HH.out _).mono ?_; rintro e w3 ⟨rfl, hw3⟩; have hw4 := hw3.symm; subst hw4; clear hw3)
  go_loopw [8, 10, 11] (fun t v i wr => ∃ k : Nat, k ≤ n ∧ i = .int .i64 k ∧ t = .int .u32 (atK h k) ∧ wr.ownsRow w.heap.size 31 1 v k (lc (prbs h m k)) ∧ Below w.heap.size w wr) (fun _ _ i _ => ((n : Int) - intOf i).toNat)
  case atStart => exact ⟨0, Nat.zero_le _, rfl, rfl, row_none31 _ _, Below.refl _ _⟩
  case round =>
    obtain ⟨k, hk, rfl, rfl, hrow, hbr⟩ := hrel
    obtain ⟨ha0, ha1⟩ := atK_bd h k
    by_cases hlt : k < n
    · have HT : Hid (prbs h m (k + 1) = prbs h m k ++ [atK h k % m]) := prbs_succ h m k
      have HR : Hid (wr.ownsRow w.heap.size 31 1 u10 k (lc (prbs h m k))) := hrow
      have HN : Hid ((k + 1) * 8 ≤ 140737488355328) := by show _ ≤ _; omega
      clear hrow
      go_wp2_with (refine wpl_lpush (by rfl) rfl _ _ (by rfl) (by rfl) (atK h k % m) (by rfl) HR.out HN.out (hbr.size) ?_; intro av cv w2 hr2 hb2)
      go_roundw
      case rel => exact ⟨k + 1, by omega, by go_num, rfl, by rw [HT.out]; exact hr2, hbr.trans hb2⟩
      case measure => simp [intOf]; omega
    · obtain rfl : k = n := by omega
      obtain ⟨av, cv, rfl⟩ := row_form hrow
      go_wp2
      go_ret
      exact ⟨av, cv, rfl, hrow, hbr⟩
end Go.Proofs.Ytbmljdeenbokmaa
