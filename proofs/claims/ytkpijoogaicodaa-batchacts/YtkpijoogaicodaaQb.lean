import Derived.Test.YtkpijoogaicodaaRc
namespace Go.Proofs.Ytkpijoogaicodaa
open Go.RowKit
set_option linter.unusedVariables false
set_option linter.unusedSimpArgs false

theorem ucut_lo (a : Option Addr) (len cap n : Nat) (h : n ≤ len) (W : World) : (Instr.sliceAt 24 (.slice a len cap) (some (.int .u64 n)) none none).run Try.prog W = .ok (.slice (cutBA a cap n) (len - n) (cap - n)) W := by
  have hs : (sizeOf 5).run Try.prog W = .ok 1 W := by kernel_rfl
  have hr := run_slice_l (P := Try.prog) W 24 a len cap slc24 .u64 (n : Int) (by omega) (by omega)
  rw [elem24, hs] at hr
  simp only [Result.andThen, sliced, Int.toNat_natCast] at hr
  rw [run_sliceAt_slice _ _ _ _ _ _ slc24, hr]
  rfl
theorem ucut_hi (a : Option Addr) (len cap n : Nat) (h : n ≤ cap) (W : World) : (Instr.sliceAt 24 (.slice a len cap) none (some (.int .u64 n)) none).run Try.prog W = .ok (.slice a n cap) W := by
  have hs : (sizeOf 5).run Try.prog W = .ok 1 W := by kernel_rfl
  have hr := run_slice_h (P := Try.prog) W 24 a len cap slc24 .u64 (n : Int) (by omega) (by omega)
  rw [elem24, hs] at hr
  simp only [Result.andThen, sliced, Int.toNat_natCast] at hr
  rw [run_sliceAt_slice _ _ _ _ _ _ slc24, hr]
  cases a <;> simp [Addr.add]
/-- Block qb is the reference's reader. -/
def RdQ (w : World) (qb : Nat) (why : Int) (l : List Int) : Prop := ∃ a cap, Blk w qb 73 [.slice a l.length cap, .int .i64 why] ∧ Arg w a l.length cap l ∧ l.length ≤ cap ∧ ∀ k, Value.ownBlock (.slice a l.length cap) = some k → k < qb
theorem RdQ.below {w w' : World} {qb : Nat} {why : Int} {l : List Int} (h : RdQ w qb why l) (hb : Below w.heap.size w w') : RdQ w' qb why l := by
  obtain ⟨a, cap, h1, h2, h3, h4⟩ := h
  exact ⟨a, cap, h1.upd (S := Non) (Upd.ofBelow hb) (fun hh => hh), h2.below hb, h3, h4⟩
theorem RdQ.alloc {w : World} {qb : Nat} {why : Int} {l : List Int} (h : RdQ w qb why l) (o : Obj) : RdQ (w.alloc o) qb why l := h.below ((Below.refl _ _).alloc (Nat.le_refl _) _)
theorem RdQ.lt {w : World} {qb : Nat} {why : Int} {l : List Int} (h : RdQ w qb why l) : qb < w.heap.size := by
  obtain ⟨a, cap, hB, _⟩ := h
  exact hB.lt
theorem RdQ.bytes {w : World} {qb : Nat} {why : Int} {l : List Int} (h : RdQ w qb why l) : ∀ c ∈ l, 0 ≤ c ∧ c < 256 := by
  obtain ⟨a, cap, _, hA, _⟩ := h
  exact hA.2.1
/-- The reader goes on, and notes why. -/
theorem rdq_adv {w : World} {qb : Nat} {l : List Int} {a : Option Addr} {cap : Nat} {why why' : Int} (hB : Blk w qb 73 [.slice a l.length cap, .int .i64 why]) (hA : Arg w a l.length cap l) (hcap : l.length ≤ cap) (hlt : ∀ k, Value.ownBlock (.slice a l.length cap) = some k → k < qb) (n : Nat) (hn : n ≤ l.length) :
    RdQ ((w.setCell ⟨qb, 1, none⟩ (.int .i64 why')).setCell ⟨qb, 0, none⟩ (.slice (cutBA a cap n) (l.length - n) (cap - n))) qb why' (l.drop n) ∧ Upd (At qb) w ((w.setCell ⟨qb, 1, none⟩ (.int .i64 why')).setCell ⟨qb, 0, none⟩ (.slice (cutBA a cap n) (l.length - n) (cap - n))) := by
  have U : Upd (At qb) w ((w.setCell ⟨qb, 1, none⟩ (.int .i64 why')).setCell ⟨qb, 0, none⟩ (.slice (cutBA a cap n) (l.length - n) (cap - n))) := Upd.setCell (p := ⟨qb, 0, none⟩) (Upd.setCell (p := ⟨qb, 1, none⟩) (Upd.refl (At qb) w) (fun _ => rfl) _) (fun _ => rfl) _
  have hS : ∀ k, Value.ownBlock (.slice a l.length cap) = some k → ¬ At qb k := fun k hk e => by have := hlt k hk; unfold At at e; omega
  refine ⟨⟨cutBA a cap n, cap - n, ?_, ?_, by rw [List.length_drop]; omega, ?_⟩, U⟩
  · rw [List.length_drop]; exact (hB.set 1 _).set 0 _
  · rw [List.length_drop]; exact (hA.drop n hn hcap).upd U (fun k hk => hS k (by rw [cutBA_own _ _ _ _ _ l.length cap] at hk; exact hk))
  · intro k hk
    rw [cutBA_own _ _ _ _ _ l.length cap] at hk
    exact hlt k hk
theorem rdq_cut {w : World} {qb : Nat} {l : List Int} {a : Option Addr} {cap : Nat} {why : Int} (hB : Blk w qb 73 [.slice a l.length cap, .int .i64 why]) (hA : Arg w a l.length cap l) (hcap : l.length ≤ cap) (hlt : ∀ k, Value.ownBlock (.slice a l.length cap) = some k → k < qb) (n : Nat) (hn : n ≤ l.length) :
    RdQ (w.setCell ⟨qb, 0, none⟩ (.slice (cutBA a cap n) (l.length - n) (cap - n))) qb why (l.drop n) ∧ Upd (At qb) w (w.setCell ⟨qb, 0, none⟩ (.slice (cutBA a cap n) (l.length - n) (cap - n))) := by
  have U : Upd (At qb) w (w.setCell ⟨qb, 0, none⟩ (.slice (cutBA a cap n) (l.length - n) (cap - n))) := Upd.setCell (p := ⟨qb, 0, none⟩) (Upd.refl (At qb) w) (fun _ => rfl) _
  have hS : ∀ k, Value.ownBlock (.slice a l.length cap) = some k → ¬ At qb k := fun k hk e => by have := hlt k hk; unfold At at e; omega
  refine ⟨⟨cutBA a cap n, cap - n, ?_, ?_, by rw [List.length_drop]; omega, ?_⟩, U⟩
  · rw [List.length_drop]; exact hB.set 0 _
  · rw [List.length_drop]; exact (hA.drop n hn hcap).upd U (fun k hk => hS k (by rw [cutBA_own _ _ _ _ _ l.length cap] at hk; exact hk))
  · intro k hk
    rw [cutBA_own _ _ _ _ _ l.length cap] at hk
    exact hlt k hk
theorem rdq_why {w : World} {qb : Nat} {l : List Int} {a : Option Addr} {cap : Nat} {why why' : Int} (hB : Blk w qb 73 [.slice a l.length cap, .int .i64 why]) (hA : Arg w a l.length cap l) (hcap : l.length ≤ cap) (hlt : ∀ k, Value.ownBlock (.slice a l.length cap) = some k → k < qb) :
    RdQ (w.setCell ⟨qb, 1, none⟩ (.int .i64 why')) qb why' l ∧ Upd (At qb) w (w.setCell ⟨qb, 1, none⟩ (.int .i64 why')) := by
  have U : Upd (At qb) w (w.setCell ⟨qb, 1, none⟩ (.int .i64 why')) := Upd.setCell (p := ⟨qb, 1, none⟩) (Upd.refl (At qb) w) (fun _ => rfl) _
  refine ⟨⟨a, cap, hB.set 1 _, hA.upd U (fun k hk e => by have := hlt k hk; unfold At at e; omega), hcap, hlt⟩, U⟩
set_option maxRecDepth 100000 in
set_option maxHeartbeats 1000000 in
theorem qvar_bad {w : World} {qb : Nat} {why : Int} {l : List Int} (h : RdQ w qb why l) (hw : (why != 0) = true) :
    Calls Try.prog 63 #[ptr qb] w fun e w' => e = .returned (.int .u64 0) ∧ w' = w := by
  obtain ⟨a, cap, hB, hA, hcap, hlt⟩ := h
  have c1 := hB.cell1 1 _ rfl
  go_enter Try.func63, Try.ntmps63
  go_wp2
  go_ret
  exact ⟨rfl, rfl⟩
set_option maxRecDepth 100000 in
set_option maxHeartbeats 1000000 in
theorem qvar_any {w : World} {qb : Nat} {l : List Int} (h : RdQ w qb 0 l) (v : Int) (s : Nat) (c : Int) (hR : rvG l 0 0 = (v, (s : Int), c)) (hs : s ≤ l.length) :
    Calls Try.prog 63 #[ptr qb] w fun e w' => e = .returned (.int .u64 v) ∧ RdQ w' qb c (l.drop s) ∧ Upd (At qb) w w' := by
  obtain ⟨a, cap, hB, hA, hcap, hlt⟩ := h
  have c0 := hB.cell1 0 _ rfl
  have c1 := hB.cell1 1 _ rfl
  have f0 := hB.frozen 0
  have f1 := hB.frozen 1
  have h1 := bcut_lo a l.length cap s hs
  have HC := rrv_any a l.length cap l w hA
  rw [hR] at HC
  dsimp only at HC
  clear hR
  go_enter Try.func63, Try.ntmps63
  go_wp2_with (go_at_call 77; refine HC.mono ?_; rintro e w' ⟨rfl, rfl⟩)
  go_ret
  exact ⟨rfl, rdq_adv hB hA hcap hlt s hs⟩
set_option maxRecDepth 100000 in
set_option maxHeartbeats 1000000 in
theorem qtext_bad {w : World} {qb : Nat} {why most : Int} {l : List Int} (h : RdQ w qb why l) (hw : (why != 0) = true) :
    Calls Try.prog 64 #[ptr qb, .int .i64 most] w fun e w' => e = .returned (.string ⟨#[]⟩) ∧ w' = w := by
  have HV := qvar_bad h hw
  obtain ⟨a, cap, hB, hA, hcap, hlt⟩ := h
  have c1 := hB.cell1 1 _ rfl
  have hw' : (why == 0) = false := by simpa using hw
  go_enter Try.func64, Try.ntmps64
  go_wp2_with (go_at_call 63; refine HV.mono ?_; rintro e w' ⟨rfl, rfl⟩)
  go_ret
  exact ⟨rfl, rfl⟩
end Go.Proofs.Ytkpijoogaicodaa
namespace Go.Proofs.Ytkpijoogaicodaa
open Go.RowKit
set_option linter.unusedVariables false
set_option linter.unusedSimpArgs false

set_option maxRecDepth 100000 in
set_option maxHeartbeats 1000000 in
theorem qtext_ok {w : World} {qb : Nat} {l t l' : List Int} {most : Int} (h : RdQ w qb 0 l) (m0 : 0 ≤ most) (m1 : most ≤ 100000) (hp : pText most l = .ok (t, l')) :
    Calls Try.prog 64 #[ptr qb, .int .i64 most] w fun e w' => e = .returned (.string (bstr t)) ∧ RdQ w' qb 0 l' ∧ Upd (At qb) w w' := by
  unfold pText at hp
  rcases pVar_cases most l with ⟨v, s, hR, s1, s2, v0, v1, v2, hp'⟩ | ⟨v, s, hR, v2, v0, v1, hp'⟩ | ⟨c', hc', hR, hp'⟩
  · rw [hp'] at hp
    dsimp only at hp
    by_cases hlen : ((l.drop s).length : Int) < v
    · rw [if_pos hlen] at hp; cases hp
    · rw [if_neg hlen] at hp
      cases hp
      obtain ⟨N, rfl⟩ := Int.eq_ofNat_of_zero_le v0
      rw [Int.toNat_natCast]
      have hN : N ≤ (l.drop s).length := by omega
      have HV := qvar_any h (N : Int) s 0 hR s2
      have hll := (show (l.drop s).length ≤ 140737488351232 from by
        obtain ⟨_, _, _, hA, _⟩ := h
        have := hA.2.2.1
        rw [List.length_drop]; omega)
      clear hR hp' hlen s1 s2 v0 v1 h
      generalize l.drop s = l1 at *
      have hN' : (N : Int) ≤ (l1.length : Int) := by omega
      go_enter Try.func64, Try.ntmps64
      go_wp2_with (go_at_call 63; refine HV.mono ?_; rintro e w1 ⟨rfl, hq1, hu1⟩; obtain ⟨a1, cap1, hB1, hA1, hc1, hl1⟩ := hq1; have c0 := hB1.cell1 0 _ rfl; have c1 := hB1.cell1 1 _ rfl; have f0 := hB1.frozen 0; have f1 := hB1.frozen 1; have k1 := ucut_lo a1 l1.length cap1 N hN; have k2 := ucut_hi a1 l1.length cap1 N (by omega); have hstr := (hA1.take N hN).str)
      go_ret
      have hz := rdq_cut hB1 hA1 hc1 hl1 N hN
      exact ⟨rfl, hz.1, hu1.trans hz.2⟩
  · rw [hp'] at hp; cases hp
  · rw [hp'] at hp; cases hp
set_option maxRecDepth 100000 in
set_option maxHeartbeats 1000000 in
theorem qtext_err {w : World} {qb : Nat} {l : List Int} {most c : Int} (h : RdQ w qb 0 l) (m0 : 0 ≤ most) (m1 : most ≤ 100000) (hp : pText most l = .error c) :
    Calls Try.prog 64 #[ptr qb, .int .i64 most] w fun e w' => e = .returned (.string ⟨#[]⟩) ∧ (c != 0) = true ∧ (∃ l', RdQ w' qb c l') ∧ Upd (At qb) w w' := by
  unfold pText at hp
  rcases pVar_cases most l with ⟨v, s, hR, s1, s2, v0, v1, v2, hp'⟩ | ⟨v, s, hR, v2, v0, v1, hp'⟩ | ⟨c', hc', hR, hp'⟩
  · rw [hp'] at hp
    dsimp only at hp
    by_cases hlen : ((l.drop s).length : Int) < v
    · rw [if_pos hlen] at hp
      cases hp
      have HV := qvar_any h v s 0 hR s2
      have hll := (show (l.drop s).length ≤ 140737488351232 from by
        obtain ⟨_, _, _, hA, _⟩ := h
        have := hA.2.2.1
        rw [List.length_drop]; omega)
      clear hR hp'
      generalize l.drop s = l1 at *
      go_enter Try.func64, Try.ntmps64
      go_wp2_with (go_at_call 63; refine HV.mono ?_; rintro e w1 ⟨rfl, hq1, hu1⟩; obtain ⟨a1, cap1, hB1, hA1, hc1, hl1⟩ := hq1; have c0 := hB1.cell1 0 _ rfl; have c1 := hB1.cell1 1 _ rfl; have f0 := hB1.frozen 0; have f1 := hB1.frozen 1)
      go_ret
      have hz := rdq_why (why' := 4) hB1 hA1 hc1 hl1
      exact ⟨rfl, rfl, ⟨_, hz.1⟩, hu1.trans hz.2⟩
    · rw [if_neg hlen] at hp; cases hp
  · rw [hp'] at hp
    cases hp
    obtain ⟨s2⟩ : s ≤ l.length ∧ True := by
      rcases rvG_cases l 0 0 with ⟨v', s', h', _, h2, _⟩ | h' | h'
      · rw [hR] at h'; simp only [Prod.mk.injEq] at h'; exact ⟨by omega, trivial⟩
      · rw [hR] at h'; simp at h'
      · rw [hR] at h'; simp at h'
    have HV := qvar_any h v s 0 hR s2
    clear hR hp'
    generalize l.drop s = l1 at *
    go_enter Try.func64, Try.ntmps64
    go_wp2_with (go_at_call 63; refine HV.mono ?_; rintro e w1 ⟨rfl, hq1, hu1⟩; obtain ⟨a1, cap1, hB1, hA1, hc1, hl1⟩ := hq1; have c0 := hB1.cell1 0 _ rfl; have c1 := hB1.cell1 1 _ rfl; have f0 := hB1.frozen 0; have f1 := hB1.frozen 1)
    go_ret
    have hz := rdq_why (why' := 3) hB1 hA1 hc1 hl1
    exact ⟨rfl, rfl, ⟨_, hz.1⟩, hu1.trans hz.2⟩
  · rw [hp'] at hp
    cases hp
    have tc := bne0 hc'
    have tc' : (c == 0) = false := by simpa using tc
    have HV := qvar_any h 0 0 c hR (Nat.zero_le _)
    clear hR hp' hc'
    rw [List.drop_zero] at HV
    go_enter Try.func64, Try.ntmps64
    go_wp2_with (go_at_call 63; refine HV.mono ?_; rintro e w1 ⟨rfl, hq1, hu1⟩; obtain ⟨a1, cap1, hB1, hA1, hc1, hl1⟩ := hq1; have c1 := hB1.cell1 1 _ rfl)
    go_ret
    exact ⟨rfl, tc, ⟨l, a1, cap1, hB1, hA1, hc1, hl1⟩, hu1⟩
set_option maxRecDepth 100000 in
set_option maxHeartbeats 1000000 in
theorem most_any (k : Int) (w : World) (h1 : 1 ≤ k) (h2 : k ≤ 2) : Calls Try.prog 38 #[.int .i64 k] w fun e w' => e = .returned (.int .i64 (mostV k)) ∧ w' = w := by
  have : k = 1 ∨ k = 2 := by omega
  rcases this with rfl | rfl
  all_goals
    go_enter Try.func38, Try.ntmps38
    go_wp2
    go_ret
    exact ⟨rfl, rfl⟩
end Go.Proofs.Ytkpijoogaicodaa
