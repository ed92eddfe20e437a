/-
  BloomEmpty: the walk.
-/
import Derived.Test.YtbmljdeenbokmaaE
namespace Go.Proofs.Ytbmljdeenbokmaa
open Go.RowKit Go.Shelf
set_option linter.unusedVariables false
set_option linter.unusedSimpArgs false

theorem hasb_ini (N : Nat) (x p : Int) (h0 : 0 ≤ p) (h : (p / 8).toNat < N) : hasb (ini N x) p = false := by
  have e : (ini N x).getD (p / 8).toNat 0 = 0 := by simp [ini, List.getD_eq_getElem?_getD, List.getElem?_append, h]
  unfold hasb
  rw [e, u8_and _ _ (by omega) (by omega) (mk_bd p).1 (mk_bd p).2]
  simp
theorem bld_last (ks : List ByteArray) (bt : Int) : (bld ks bt).getD ((bld ks bt).length - 1) 0 = npr bt := by
  rw [bld_length, show fsz (bt.toNat * ks.length) + 1 - 1 = fsz (bt.toNat * ks.length) by omega]
  have : 8 ≤ fsz (bt.toNat * ks.length) := by unfold fsz; split <;> omega
  exact bldF_last _ _ _ _ (by omega)
/-- What is built can be looked into. -/
theorem bld_chk (ks : List ByteArray) (bt : Int) (hl : ks.length ≤ 1048576) (h2 : bt ≤ 64) : chkB (bld ks bt) = true := by
  have hb := npr_bd bt
  have hn : bt.toNat * ks.length ≤ 64 * 1048576 := Nat.mul_le_mul (by omega) hl
  have hz := fsz_bd _ hn
  unfold chkB isf
  rw [bld_last, bld_length]
  simp
  omega
theorem prbs_succ' (h m : Int) (n : Nat) : prbs h m (n + 1) = prb h m 0 :: (List.range n).map (fun k => prb h m (k + 1)) := by
  simp [prbs, List.range_succ_eq_map, Function.comp_def]
theorem may_empty (bt : Int) (s : ByteArray) (h2 : bt ≤ 64) : mayB (bld [] bt) s = false := by
  unfold mayB
  rw [bld_chk [] bt (by simp) h2]
  have hb := npr_bd bt
  unfold kprbs lastB mbits
  rw [bld_last, bld_length]
  obtain ⟨n, hn⟩ : ∃ n, (npr bt).toNat = n + 1 := ⟨(npr bt).toNat - 1, by omega⟩
  rw [hn, prbs_succ']
  have hp := prb_bd (hsh s) (m := ((fsz (bt.toNat * ([] : List ByteArray).length) + 1 - 1 : Nat) : Int) * 8) (by simp [fsz]) 0
  have : hasb (bld [] bt) (prb (hsh s) (((fsz (bt.toNat * ([] : List ByteArray).length) + 1 - 1 : Nat) : Int) * 8) 0) = false := by
    refine hasb_ini _ _ _ hp.1 ?_
    have := hp.2
    omega
  simp only [List.all_cons, this]
  rfl
set_option maxRecDepth 100000 in
set_option maxHeartbeats 1000000 in
theorem empty_walk (b : Int) (s : ByteArray) (w : World) (hb0 : 0 ≤ b) (hb1 : b < 256) (hs : s.size ≤ maxLen) :
    Calls Try.prog 6 #[.int .u8 b, .string s] w fun e w' => e = .returned (.bool true) ∧ Below w.heap.size w w' := by
  have h1 : 1 ≤ 1 + b % 64 := by omega
  have h2 : 1 + b % 64 ≤ 64 := by omega
  have HB : Hid (∀ W : World, Calls Try.prog 7 #[.slice none 0 0, .int .i64 (1 + b % 64)] W fun e w' => e = .returned (.tuple #[.slice (some ⟨W.heap.size, 0, none⟩) (bld [] (1 + b % 64)).length (bld [] (1 + b % 64)).length, .int .i64 0]) ∧ Row w' W.heap.size (bld [] (1 + b % 64)) ∧ Below W.heap.size W w') := fun W =>
    build_ok none 0 [] (1 + b % 64) W ⟨by simp, .inl rfl⟩ (by simp) h1 h2
  obtain ⟨f, hf⟩ : ∃ f, bld [] (1 + b % 64) = f := ⟨_, rfl⟩
  have hfb : Byt f := by rw [← hf]; exact bld_byt _ _
  have hfl : f.length ≤ 140737488351232 := by
    rw [← hf, bld_length]
    have := fsz_bd ((1 + b % 64).toNat * ([] : List ByteArray).length) (by simp)
    omega
  have HC : Hid (chk f = 0) := chk_yes (by rw [← hf]; exact bld_chk _ _ (by simp) h2)
  have HM : Hid (mayB f s = false) := by show _ = _; rw [← hf]; exact may_empty _ s h2
  rw [hf] at HB
  clear hf
  obtain ⟨n, hn⟩ : ∃ n, f.length = n := ⟨_, rfl⟩
  have HA : Hid (∀ W B, Row W B f → Arg W (some ⟨B, 0, none⟩) n f) := fun W B h => by rw [← hn]; exact h.arg hfb hfl
  rw [hn] at HB
  clear hn
  go_enter Try.func6, Try.ntmps6
  go_wp2_with (first
    | (go_at_call 19; refine (may_any _ n n f s _ hs (HA.out _ _ hr2)).mono ?_; rw [HM.out]; rintro e w4 ⟨rfl, hb4⟩)
    | (go_at_call 17; refine (check_any _ n n f _ (HA.out _ _ hr2)).mono ?_; rw [HC.out]; rintro e w3 ⟨rfl, hw3⟩; have hw4 := hw3.symm; subst hw4; clear hw3)
    | (go_at_call 7; refine (HB.out _).mono ?_; rintro e w2 ⟨rfl, hr2, hb2⟩)
    | (go_at_call 21; refine (lives_any _).mono ?_; rintro e w1 ⟨rfl, hb1⟩))
  go_ret
  have hB2 := hb1.trans (hb2.mono hb1.size)
  exact ⟨rfl, hB2.trans (hb4.mono hB2.size)⟩
end Go.Proofs.Ytbmljdeenbokmaa
