/-
  The reference's reader: bad f83, number f81, text f82.
  The reference's reader: key f84.
-/
import Derived.Test.YtkmpcheamdadcaaDd
namespace Go.Proofs.Ytkmpcheamdadcaa
open Go.RowKit
set_option linter.unusedVariables false
set_option linter.unusedSimpArgs false
/-- The reference's reader: what is left, and why it stopped. -/
def Qr (B : Nat) (w : World) (qb : Nat) (s : List Int × Int) : Prop :=
  ∃ a cap, Blk w qb 84 [.slice a s.1.length cap, .int .i64 s.2] ∧ Arg w a s.1.length cap s.1 ∧ s.1.length ≤ cap ∧ B ≤ qb ∧ ∀ p : Addr, a = some p → p.block < B
def qNum (most : Int) (s : List Int × Int) : Int × (List Int × Int) :=
  if s.2 ≠ 0 then (0, s) else ((rvG s.1 0 0).1, (s.1.drop (rvG s.1 0 0).2.1.toNat, if (rvG s.1 0 0).2.2 ≠ 0 then (rvG s.1 0 0).2.2 else if most < (rvG s.1 0 0).1 then 3 else 0))
def qText (n : Int) (s : List Int × Int) : List Int × (List Int × Int) :=
  if s.2 ≠ 0 then ([], s) else if (s.1.length : Int) < n then ([], (s.1, 4)) else (s.1.take n.toNat, (s.1.drop n.toNat, 0))
theorem Qr.lt {B : Nat} {w : World} {qb : Nat} {s : List Int × Int} (h : Qr B w qb s) : qb < w.heap.size ∧ B ≤ qb := by
  obtain ⟨a, cap, h1, h2, h3, h4, h5⟩ := h
  exact ⟨h1.lt, h4⟩
theorem Qr.upd {S : Nat → Prop} {B : Nat} {w w' : World} {qb : Nat} {s : List Int × Int} (h : Qr B w qb s) (u : Upd S w w') (h1 : ¬ S qb) (h2 : ∀ k, k < B → ¬ S k) : Qr B w' qb s := by
  obtain ⟨a, cap, q1, q2, q3, q4, q5⟩ := h
  exact ⟨a, cap, q1.upd u h1, q2.upd u (fun b off e => h2 b (q5 _ e)), q3, q4, q5⟩
theorem Qr.below {B : Nat} {w w' : World} {qb : Nat} {s : List Int × Int} (h : Qr B w qb s) (hb : Below w.heap.size w w') : Qr B w' qb s := h.upd (S := Non) (Upd.ofBelow hb) (fun h => h) (fun _ _ h => h)
theorem Qr.bytes {B : Nat} {w : World} {qb : Nat} {s : List Int × Int} (h : Qr B w qb s) : Byt s.1 := by
  obtain ⟨a, cap, q1, q2, _⟩ := h
  exact q2.2.1
/-- Why it stopped is laid. -/
theorem Qr.why {B : Nat} {w : World} {qb : Nat} {l : List Int} {y : Int} (h : Qr B w qb (l, y)) (c : Int) : Qr B (w.setCell ⟨qb, 1, none⟩ (.int .i64 c)) qb (l, c) ∧ Upd (Is qb) w (w.setCell ⟨qb, 1, none⟩ (.int .i64 c)) := by
  obtain ⟨a, cap, hB, hA, hcap, hrb, hlt⟩ := h
  have I : Is qb qb := rfl
  have U : Upd (Is qb) w (w.setCell ⟨qb, 1, none⟩ (.int .i64 c)) := Upd.setCell (p := ⟨qb, 1, none⟩) (Upd.refl (Is qb) w) (fun _ => I) _
  exact ⟨⟨a, cap, hB.set 1 _, hA.upd U (fun b off hk e => by have := hlt _ hk; unfold Is at e; dsimp only at this; omega), hcap, hrb, hlt⟩, U⟩
/-- The reader goes on. -/
theorem qr_adv {B : Nat} {w : World} {qb : Nat} {l : List Int} {y : Int} {a : Option Addr} {cap : Nat} (hB : Blk w qb 84 [.slice a l.length cap, .int .i64 y]) (hA : Arg w a l.length cap l) (hcap : l.length ≤ cap) (hrb : B ≤ qb) (hlt : ∀ p : Addr, a = some p → p.block < B) (n : Nat) (hn : n ≤ l.length) :
    Qr B (w.setCell ⟨qb, 0, none⟩ (.slice (cutBA a cap n) (l.length - n) (cap - n))) qb (l.drop n, y) ∧ Upd (Is qb) w (w.setCell ⟨qb, 0, none⟩ (.slice (cutBA a cap n) (l.length - n) (cap - n))) := by
  have I : Is qb qb := rfl
  have U : Upd (Is qb) w (w.setCell ⟨qb, 0, none⟩ (.slice (cutBA a cap n) (l.length - n) (cap - n))) := Upd.setCell (p := ⟨qb, 0, none⟩) (Upd.refl (Is qb) w) (fun _ => I) _
  refine ⟨⟨cutBA a cap n, cap - n, ?_, ?_, by dsimp only; rw [List.length_drop]; omega, hrb, ?_⟩, U⟩
  · dsimp only; rw [List.length_drop]; exact hB.set 0 _
  · dsimp only; rw [List.length_drop]; exact (hA.drop n hn hcap).upd U (fun b off hk e => by obtain ⟨p', hk', e'⟩ := cutBA_blk hk; have := hlt p' hk'; unfold Is at e; dsimp only at e'; omega)
  · intro p hk
    obtain ⟨p', hk', e'⟩ := cutBA_blk hk
    rw [← e']
    exact hlt p' hk'
theorem cutBA_zero (a : Option Addr) (cap : Nat) : cutBA a cap 0 = a := by
  unfold cutBA
  split
  · rfl
  · cases a <;> simp [Addr.add]
theorem arg_nil (w : World) : Arg w none 0 0 [] := by
  refine ⟨rfl, ?_, by decide, .inl rfl⟩
  intro n hn
  cases hn
theorem bcut_loU (a : Option Addr) (len cap n : Nat) (h : n ≤ len) (W : World) : (Instr.sliceAt 28 (.slice a len cap) (some (.int .u64 n)) none none).run Try.prog W = .ok (.slice (cutBA a cap n) (len - n) (cap - n)) W := by
  have hs : (sizeOf 5).run Try.prog W = .ok 1 W := by kernel_rfl
  have hr := run_slice_l (P := Try.prog) W 28 a len cap slc28 .u64 (n : Int) (by omega) (by omega)
  rw [elem28, hs] at hr
  simp only [Result.andThen, sliced, Int.toNat_natCast] at hr
  rw [run_sliceAt_slice _ _ _ _ _ _ slc28, hr]
  rfl
theorem bcut_hiU (a : Option Addr) (len cap n : Nat) (h : n ≤ cap) (W : World) : (Instr.sliceAt 28 (.slice a len cap) none (some (.int .u64 n)) none).run Try.prog W = .ok (.slice a n cap) W := by
  have hs : (sizeOf 5).run Try.prog W = .ok 1 W := by kernel_rfl
  have hr := run_slice_h (P := Try.prog) W 28 a len cap slc28 .u64 (n : Int) (by omega) (by omega)
  rw [elem28, hs] at hr
  simp only [Result.andThen, sliced, Int.toNat_natCast] at hr
  rw [run_sliceAt_slice _ _ _ _ _ _ slc28, hr]
  cases a <;> simp [Addr.add]
set_option maxRecDepth 100000 in
set_option maxHeartbeats 1000000 in
theorem bad_any {B : Nat} {w : World} {qb : Nat} {l : List Int} {y : Int} (h : Qr B w qb (l, y)) (c : Int) :
    Calls Try.prog 83 #[ptr qb, .int .i64 c] w fun en w' => en = .returned (.tuple #[]) ∧ Qr B w' qb (l, if y = 0 then c else y) ∧ Upd (Is qb) w w' := by
  have hW := h.why c
  have h' := h
  obtain ⟨a, cap, hB, _⟩ := h'
  have c1 := hB.cell1 1 _ rfl
  have z1 := hB.frozen 1
  dsimp only at c1
  by_cases hy : y = 0
  · subst hy
    rw [if_pos rfl]
    go_enter Try.func83, Try.ntmps83
    go_wp2
    go_end0
    exact ⟨rfl, hW.1, hW.2⟩
  · have q1 : (y == 0) = false := by simpa using hy
    rw [if_neg hy]
    clear hy
    go_enter Try.func83, Try.ntmps83
    go_wp2
    go_end0
    exact ⟨rfl, h, Upd.refl _ _⟩
set_option maxRecDepth 100000 in
set_option maxHeartbeats 2000000 in
theorem qnum_any {B : Nat} {w : World} {qb : Nat} {s : List Int × Int} (h : Qr B w qb s) (most : Int) (m0 : 0 ≤ most) (m1 : most < 18446744073709551616) :
    Calls Try.prog 81 #[ptr qb, .int .u64 most] w fun en w' => en = .returned (.int .u64 (qNum most s).1) ∧ Qr B w' qb (qNum most s).2 ∧ Upd (Is qb) w w' := by
  obtain ⟨l, y⟩ := s
  by_cases hy : y = 0
  case neg =>
    have hq : qNum most (l, y) = (0, (l, y)) := by unfold qNum; rw [if_pos hy]
    rw [hq]
    have q1 : (y != 0) = true := by simpa using hy
    have h' := h
    obtain ⟨a, cap, hB, _⟩ := h'
    have c1 := hB.cell1 1 _ rfl
    dsimp only at c1
    clear hy hq
    go_enter Try.func81, Try.ntmps81
    go_wp2
    go_ret
    exact ⟨rfl, h, Upd.refl _ _⟩
  subst hy
  have h' := h
  obtain ⟨a, cap, hB, hA, hcap, hrb, hlt⟩ := h'
  have c0 := hB.cell1 0 _ rfl
  have c1 := hB.cell1 1 _ rfl
  dsimp only at c0 c1 hA hcap
  have HC := rrv_any a l.length cap l w hA
  have lb := hB.lt
  rcases rvG_cases l 0 0 with ⟨v, k, hR, s1, s2, v0, v1⟩ | hR | hR
  · have hR' : rvG l 0 0 = (v, (k : Int), 0) := by rw [hR]; congr 2; omega
    clear hR
    have hR := hR'
    clear hR'
    by_cases hm : most < v
    · have hq : qNum most (l, 0) = (v, (l.drop k, 3)) := by
        unfold qNum
        rw [if_neg (by simp), hR]
        dsimp only
        rw [if_neg (by simp), if_pos hm, Int.toNat_natCast]
      rw [hq]
      rw [hR] at HC
      dsimp only at HC
      have hbad := bad_any h 3
      rw [if_pos rfl] at hbad
      clear hR hq
      go_enter Try.func81, Try.ntmps81
      go_wp2_with (first
        | (go_at_call 106; refine HC.mono ?_; rintro en w2 ⟨rfl, rfl⟩)
        | (go_at_call 83; refine hbad.mono ?_; rintro en w3 ⟨rfl, hr3, hu3⟩
           have hB3 := hr3
           obtain ⟨a3, k3, hB3, hA3, hk3, _, hl3⟩ := hB3
           have d0 := hB3.cell1 0 _ rfl
           have e0 := hB3.frozen 0
           dsimp only at d0 hA3 hk3
           have hcut3 := bcut_lo a3 l.length k3 k s2
           have HG := qr_adv hB3 hA3 hk3 hrb hl3 k s2))
      go_ret
      exact ⟨rfl, HG.1, hu3.trans HG.2⟩
    · have hq : qNum most (l, 0) = (v, (l.drop k, 0)) := by
        unfold qNum
        rw [if_neg (by simp), hR]
        dsimp only
        rw [if_neg (by simp), if_neg hm, Int.toNat_natCast]
      rw [hq]
      rw [hR] at HC
      dsimp only at HC
      have hbad := bad_any h 0
      rw [if_pos rfl] at hbad
      clear hR hq
      go_enter Try.func81, Try.ntmps81
      go_wp2_with (first
        | (go_at_call 106; refine HC.mono ?_; rintro en w2 ⟨rfl, rfl⟩)
        | (go_at_call 83; refine hbad.mono ?_; rintro en w3 ⟨rfl, hr3, hu3⟩
           have hB3 := hr3
           obtain ⟨a3, k3, hB3, hA3, hk3, _, hl3⟩ := hB3
           have d0 := hB3.cell1 0 _ rfl
           have e0 := hB3.frozen 0
           dsimp only at d0 hA3 hk3
           have hcut3 := bcut_lo a3 l.length k3 k s2
           have HG := qr_adv hB3 hA3 hk3 hrb hl3 k s2))
      go_ret
      exact ⟨rfl, HG.1, hu3.trans HG.2⟩
  · have hq : qNum most (l, 0) = (0, (l.drop 0, 3)) := by
      unfold qNum
      rw [if_neg (by simp), hR]
      simp
    rw [hq]
    rw [hR] at HC
    dsimp only at HC
    have hbad := bad_any h 3
    rw [if_pos rfl] at hbad
    clear hR hq
    go_enter Try.func81, Try.ntmps81
    go_wp2_with (first
      | (go_at_call 106; refine HC.mono ?_; rintro en w2 ⟨rfl, rfl⟩)
      | (go_at_call 83; refine hbad.mono ?_; rintro en w3 ⟨rfl, hr3, hu3⟩
         have hB3 := hr3
         obtain ⟨a3, k3, hB3, hA3, hk3, _, hl3⟩ := hB3
         have d0 := hB3.cell1 0 _ rfl
         have e0 := hB3.frozen 0
         dsimp only at d0 hA3 hk3
         have hcut3 := bcut_lo a3 l.length k3 0 (Nat.zero_le _)
         have HG := qr_adv hB3 hA3 hk3 hrb hl3 0 (Nat.zero_le _)
         rw [cutBA_zero, Nat.sub_zero, Nat.sub_zero] at HG))
    go_ret
    exact ⟨rfl, HG.1, hu3.trans HG.2⟩
  · have hq : qNum most (l, 0) = (0, (l.drop 0, 4)) := by
      unfold qNum
      rw [if_neg (by simp), hR]
      simp
    rw [hq]
    rw [hR] at HC
    dsimp only at HC
    have hbad := bad_any h 4
    rw [if_pos rfl] at hbad
    clear hR hq
    go_enter Try.func81, Try.ntmps81
    go_wp2_with (first
      | (go_at_call 106; refine HC.mono ?_; rintro en w2 ⟨rfl, rfl⟩)
      | (go_at_call 83; refine hbad.mono ?_; rintro en w3 ⟨rfl, hr3, hu3⟩
         have hB3 := hr3
         obtain ⟨a3, k3, hB3, hA3, hk3, _, hl3⟩ := hB3
         have d0 := hB3.cell1 0 _ rfl
         have e0 := hB3.frozen 0
         dsimp only at d0 hA3 hk3
         have hcut3 := bcut_lo a3 l.length k3 0 (Nat.zero_le _)
         have HG := qr_adv hB3 hA3 hk3 hrb hl3 0 (Nat.zero_le _)
         rw [cutBA_zero, Nat.sub_zero, Nat.sub_zero] at HG))
    go_ret
    exact ⟨rfl, HG.1, hu3.trans HG.2⟩
set_option maxRecDepth 100000 in
set_option maxHeartbeats 2000000 in
theorem qtext_any {B : Nat} {w : World} {qb : Nat} {s : List Int × Int} (h : Qr B w qb s) (n : Int) (n0 : 0 ≤ n) (n1 : n < 18446744073709551616) :
    Calls Try.prog 82 #[ptr qb, .int .u64 n] w fun en w' => (∃ a len cap, en = .returned (.slice a len cap) ∧ Arg w' a len cap (qText n s).1 ∧ len ≤ cap) ∧ Qr B w' qb (qText n s).2 ∧ Upd (Is qb) w w' := by
  obtain ⟨l, y⟩ := s
  by_cases hy : y = 0
  case neg =>
    have hq : qText n (l, y) = ([], (l, y)) := by unfold qText; rw [if_pos hy]
    rw [hq]
    have q1 : (y != 0) = true := by simpa using hy
    have q2 : (y == 0) = false := by simpa using hy
    have h' := h
    obtain ⟨a, cap, hB, _⟩ := h'
    have c1 := hB.cell1 1 _ rfl
    dsimp only at c1
    clear hy hq
    go_enter Try.func82, Try.ntmps82
    go_wp2
    go_ret
    exact ⟨⟨none, 0, 0, rfl, arg_nil _, Nat.le_refl _⟩, h, Upd.refl _ _⟩
  subst hy
  have h' := h
  obtain ⟨a, cap, hB, hA, hcap, hrb, hlt⟩ := h'
  have c0 := hB.cell1 0 _ rfl
  have c1 := hB.cell1 1 _ rfl
  have z0 := hB.frozen 0
  have z1 := hB.frozen 1
  have lb := hB.lt
  dsimp only at c0 c1 hA hcap
  have hlz : (l.length : Int) ≤ 140737488351232 := by have := hA.2.2.1; omega
  have hwr : IntKind.u64.wrap (l.length : Int) = (l.length : Int) := by rw [IntKind.wrap_u64]; omega
  by_cases hn : (l.length : Int) < n
  · have hq : qText n (l, 0) = ([], (l, 4)) := by unfold qText; rw [if_neg (by simp), if_pos hn]
    rw [hq]
    have hW := h.why 4
    clear hq
    go_enter Try.func82, Try.ntmps82
    go_wp2
    go_ret
    exact ⟨⟨none, 0, 0, rfl, arg_nil _, Nat.le_refl _⟩, hW.1, hW.2⟩
  · obtain ⟨N, rfl⟩ := Int.eq_ofNat_of_zero_le n0
    have hN : N ≤ l.length := by omega
    have hq : qText (N : Int) (l, 0) = (l.take N, (l.drop N, 0)) := by unfold qText; rw [if_neg (by simp), if_neg hn, Int.toNat_natCast]
    rw [hq]
    have h1 := bcut_loU a l.length cap N hN
    have h2 := bcut_hiU a l.length cap N (by omega)
    have G := qr_adv hB hA hcap hrb hlt N hN
    clear hq
    go_enter Try.func82, Try.ntmps82
    go_wp2
    go_ret
    exact ⟨⟨a, N, cap, rfl, (hA.take N hN).upd G.2 (fun b off hk e => by have := hlt _ hk; unfold Is at e; dsimp only at this; omega), by omega⟩, G.1, G.2⟩
end Go.Proofs.Ytkmpcheamdadcaa
namespace Go.Proofs.Ytkmpcheamdadcaa
open Go.RowKit
set_option linter.unusedVariables false
set_option linter.unusedSimpArgs false
def ky0 : Ky := ⟨⟨#[]⟩, 0, 0⟩
def qKey (s : List Int × Int) : Ky × (List Int × Int) :=
  if (qText (qNum 1032 s).1 (qNum 1032 s).2).2.2 ≠ 0 then (ky0, (qText (qNum 1032 s).1 (qNum 1032 s).2).2) else
    match pKyB (qText (qNum 1032 s).1 (qNum 1032 s).2).1 with
    | .ok k => (k, (qText (qNum 1032 s).1 (qNum 1032 s).2).2)
    | .error _ => (ky0, ((qText (qNum 1032 s).1 (qNum 1032 s).2).2.1, 3))
theorem qNum_bd (most : Int) (s : List Int × Int) : 0 ≤ (qNum most s).1 ∧ (qNum most s).1 < 18446744073709551616 := by
  unfold qNum
  split
  · exact ⟨Int.le_refl _, by show (0 : Int) < _; decide⟩
  · rcases rvG_cases s.1 0 0 with ⟨v, k, hR, s1, s2, v0, v1⟩ | hR | hR
    · rw [hR]; exact ⟨v0, v1⟩
    · rw [hR]; exact ⟨Int.le_refl _, by show (0 : Int) < _; decide⟩
    · rw [hR]; exact ⟨Int.le_refl _, by show (0 : Int) < _; decide⟩
theorem rdec_any {w : World} {a : Option Addr} {n cap : Nat} {t : List Int} (h : Arg w a n cap t) (hc : n ≤ cap) :
    Calls Try.prog 107 #[.slice a n cap] w fun e w' => (∃ k, pKyB t = .ok k ∧ e = .returned (.tuple #[.agg #[.string k.u, .int .u64 k.s, .int .i64 k.k], .int .i64 0])) ∧ Below w.heap.size w w' ∨ (∃ c, (c = 3 ∨ c = 4) ∧ pKyB t = .error 3 ∧ e = .returned (.tuple #[.agg #[.string ⟨#[]⟩, .int .u64 0, .int .i64 0], .int .i64 c])) ∧ Below w.heap.size w w' := by
  have hl : t.length = n := h.1
  by_cases h8 : n < 8
  · refine (rdecode_short a n cap w h8).mono ?_
    rintro e w' ⟨rfl, hb⟩
    exact .inr ⟨⟨4, .inr rfl, by unfold pKyB; rw [if_pos (by omega)], rfl⟩, hb⟩
  · obtain ⟨m, rfl⟩ : ∃ m, n = m + 8 := ⟨n - 8, by omega⟩
    obtain ⟨_, hbd, hm, h4⟩ := h
    rcases h4 with rfl | ⟨b, off, rfl, hlt, hcc⟩
    · simp at hl
    · refine (rdecode_long b off m cap t w hl hbd hm hc hlt hcc).mono ?_
      rintro e w' ⟨rfl, hb⟩
      by_cases hk : checkV (decU m t) (decN m t / 256) (decN m t % 256) = 0
      · rw [if_pos hk]
        refine .inl ⟨⟨kyD m t, ?_, rfl⟩, hb⟩
        unfold pKyB
        rw [if_neg (by omega), show t.length - 8 = m by omega]; exact if_pos hk
      · rw [if_neg hk]
        refine .inr ⟨⟨3, .inl rfl, ?_, rfl⟩, hb⟩
        unfold pKyB
        rw [if_neg (by omega), show t.length - 8 = m by omega]; exact if_neg hk
theorem rdec_yes {w : World} {a : Option Addr} {n cap : Nat} {t : List Int} {k : Ky} (h : Arg w a n cap t) (hc : n ≤ cap) (hk : pKyB t = .ok k) :
    Calls Try.prog 107 #[.slice a n cap] w fun e w' => e = .returned (.tuple #[.agg #[.string k.u, .int .u64 k.s, .int .i64 k.k], .int .i64 0]) ∧ Below w.heap.size w w' := by
  refine (rdec_any h hc).mono ?_
  rintro e w' (⟨⟨k', h1, rfl⟩, hb⟩ | ⟨⟨c, _, h1, _⟩, _⟩)
  · rw [hk] at h1; cases h1; exact ⟨rfl, hb⟩
  · rw [hk] at h1; cases h1
theorem rdec_no {w : World} {a : Option Addr} {n cap : Nat} {t : List Int} {c : Int} (h : Arg w a n cap t) (hc : n ≤ cap) (hk : pKyB t = .error c) :
    Calls Try.prog 107 #[.slice a n cap] w fun e w' => (∃ c', (c' != 0) = true ∧ e = .returned (.tuple #[.agg #[.string ⟨#[]⟩, .int .u64 0, .int .i64 0], .int .i64 c'])) ∧ Below w.heap.size w w' := by
  refine (rdec_any h hc).mono ?_
  rintro e w' (⟨⟨k', h1, _⟩, _⟩ | ⟨⟨c', h0, h1, rfl⟩, hb⟩)
  · rw [hk] at h1; cases h1
  · exact ⟨⟨c', by rcases h0 with rfl | rfl <;> rfl, rfl⟩, hb⟩
theorem nis {B : Nat} {w : World} {qb : Nat} {s : List Int × Int} (h : Qr B w qb s) : ¬ Is qb w.heap.size := by
  have := h.lt.1
  unfold Is; omega
theorem set_res {B : Nat} {w W : World} {qb : Nat} {s : List Int × Int} (h0 : qb < w.heap.size ∧ B ≤ qb) (h : Qr B W qb s) (u : Upd (Is qb) w W) (i : Nat) (v : Value) : Qr B (W.setCell ⟨w.heap.size, i, none⟩ v) qb s ∧ Upd (Is qb) w (W.setCell ⟨w.heap.size, i, none⟩ v) := by
  have I : Is w.heap.size w.heap.size := rfl
  have U : Upd (Is w.heap.size) W (W.setCell ⟨w.heap.size, i, none⟩ v) := Upd.setCell (p := ⟨w.heap.size, i, none⟩) (Upd.refl (Is w.heap.size) W) (fun _ => I) _
  exact ⟨h.upd U (by unfold Is; omega) (fun k hk => by unfold Is; omega), upd_new ⟨w.heap.size, i, none⟩ _ _ (Nat.le_refl _) u⟩
set_option maxRecDepth 100000 in
set_option maxHeartbeats 2000000 in
theorem qkey_any {B : Nat} {w : World} {qb : Nat} {s : List Int × Int} (h : Qr B w qb s) :
    Calls Try.prog 84 #[ptr qb] w fun en w' => en = .returned (.agg #[.string (qKey s).1.u, .int .u64 (qKey s).1.s, .int .i64 (qKey s).1.k]) ∧ Qr B w' qb (qKey s).2 ∧ Upd (Is qb) w w' := by
  obtain ⟨R, hR⟩ : ∃ R, qKey s = R := ⟨_, rfl⟩
  rw [hR]
  unfold qKey at hR
  have hbd := qNum_bd 1032 s
  have H1 := qnum_any (h.below (al1 w (.cells #[.string ⟨#[]⟩, .int .u64 0, .int .i64 0] 48))) 1032 (by decide) (by decide)
  generalize qNum 1032 s = x at *
  obtain ⟨v, s1⟩ := x
  dsimp only at hbd hR H1
  have H2 := fun (W : World) (hq : Qr B W qb s1) => qtext_any hq v hbd.1 hbd.2
  generalize qText v s1 = x at *
  obtain ⟨t, l2, y2⟩ := x
  dsimp only at hR H2
  have BX := Blk.new w 48 [.string ⟨#[]⟩, .int .u64 0, .int .i64 0]
  have nI := nis h
  have hlt := h.lt
  obtain ⟨v0, v1⟩ := hbd
  by_cases hy : y2 = 0
  case neg =>
    rw [if_pos hy] at hR
    subst hR
    have q1 : (y2 != 0) = true := by simpa using hy
    clear hy
    go_enter Try.func84, Try.ntmps84
    go_wp2_with (first
      | (go_at_call 82; refine (H2 _ hr2).mono ?_; rintro en w3 ⟨⟨a3, n3, k3, rfl, hA3, hk3⟩, hr3, hu3⟩
         have hB3 := hr3
         obtain ⟨_, _, hB3, _⟩ := hB3
         have c1 := hB3.cell1 1 _ rfl
         dsimp only at c1
         have X3 := (BX.upd hu2 nI).upd hu3 nI
         have x0 := X3.cell1 0 _ rfl
         have x1 := X3.cell1 1 _ rfl
         have x2 := X3.cell1 2 _ rfl
         have z0 := X3.frozen 0
         have z1 := X3.frozen 1
         have z2 := X3.frozen 2)
      | (go_at_call 81; refine H1.mono ?_; rintro en w2 ⟨rfl, hr2, hu2⟩))
    have U3 : Upd (Is qb) w w3 := (((Upd.refl _ _).alloc _).trans hu2).trans hu3
    have Y := ((X3.set 0 (.string ⟨#[]⟩)).set 1 (.int .u64 0)).set 2 (.int .i64 0)
    have y0 := Y.cell1 0 _ rfl
    have y1 := Y.cell1 1 _ rfl
    have y2 := Y.cell1 2 _ rfl
    have G0 := set_res hlt hr3 U3 0 (.string ⟨#[]⟩)
    have G1 := set_res hlt G0.1 G0.2 1 (.int .u64 0)
    have G2 := set_res hlt G1.1 G1.2 2 (.int .i64 0)
    exact bodyPost_ret (v := .agg #[.string ⟨#[]⟩, .int .u64 0, .int .i64 0]) (by simp [results, Try.results84, go_sem, y0, y1, y2]) rfl ⟨rfl, G2.1, G2.2⟩
  subst hy
  rw [if_neg (by simp)] at hR
  cases hk : pKyB t with
  | ok k =>
    rw [hk] at hR
    subst hR
    go_enter Try.func84, Try.ntmps84
    go_wp2_with (first
      | (go_at_call 107; refine HD.mono ?_; rintro en w5 ⟨rfl, hb5⟩
         have hr5 := hr3.below hb5
         have X5 := X3.upd (S := Non) (Upd.ofBelow hb5) (fun hh => hh)
         have x0 := X5.cell1 0 _ rfl
         have x1 := X5.cell1 1 _ rfl
         have x2 := X5.cell1 2 _ rfl
         have z0 := X5.frozen 0
         have z1 := X5.frozen 1
         have z2 := X5.frozen 2
         have lt5 := X5.lt)
      | (go_at_call 82; refine (H2 _ hr2).mono ?_; rintro en w3 ⟨⟨a3, n3, k3, rfl, hA3, hk3⟩, hr3, hu3⟩
         have hB3 := hr3
         obtain ⟨_, _, hB3, _⟩ := hB3
         have c1 := hB3.cell1 1 _ rfl
         dsimp only at c1
         have HD := rdec_yes hA3 hk3 hk
         have X3 := (BX.upd hu2 nI).upd hu3 nI
         clear hA3)
      | (go_at_call 81; refine H1.mono ?_; rintro en w2 ⟨rfl, hr2, hu2⟩))
    have U5 : Upd (Is qb) w w5 := ((((Upd.refl _ _).alloc _).trans hu2).trans hu3).trans (Upd.ofBelow hb5)
    have Y := (((X5.set 0 (.string k.u)).set 1 (.int .u64 k.s)).set 2 (.int .i64 k.k)).alloc (.cells #[.string k.u, .int .u64 k.s, .int .i64 k.k] 48)
    have y0 := Y.cell1 0 _ rfl
    have y1 := Y.cell1 1 _ rfl
    have y2 := Y.cell1 2 _ rfl
    have G0 := set_res hlt hr5 U5 0 (.string k.u)
    have G1 := set_res hlt G0.1 G0.2 1 (.int .u64 k.s)
    have G2 := set_res hlt G1.1 G1.2 2 (.int .i64 k.k)
    exact bodyPost_ret (v := .agg #[.string k.u, .int .u64 k.s, .int .i64 k.k]) (by simp [results, Try.results84, go_sem, y0, y1, y2]) rfl ⟨rfl, G2.1.below (al1 _ _), G2.2.alloc _⟩
  | error c =>
    rw [hk] at hR
    subst hR
    go_enter Try.func84, Try.ntmps84
    go_wp2_with (first
      | (go_at_call 83; refine (bad_any hr6 3).mono ?_; rintro en w7 ⟨rfl, hr7, hu7⟩
         rw [if_pos rfl] at hr7
         have X7 := (X5.alloc (.cells #[.string ⟨#[]⟩, .int .u64 0, .int .i64 0] 48)).upd hu7 nI
         have K7 := (Blk.new w5 48 [.string ⟨#[]⟩, .int .u64 0, .int .i64 0]).upd hu7 nI5
         have x0 := X7.cell1 0 _ rfl
         have x1 := X7.cell1 1 _ rfl
         have x2 := X7.cell1 2 _ rfl
         have z0 := X7.frozen 0
         have z1 := X7.frozen 1
         have z2 := X7.frozen 2
         have u0 := K7.cell1 0 _ rfl
         have u1 := K7.cell1 1 _ rfl
         have u2 := K7.cell1 2 _ rfl
         have lt7 := X7.lt
         have lk7 := K7.lt)
      | (go_at_call 107; refine HD.mono ?_; rintro en w5 ⟨⟨c', hc5, rfl⟩, hb5⟩
         have hr5 := hr3.below hb5
         have hr6 := hr5.below (al1 w5 (.cells #[.string ⟨#[]⟩, .int .u64 0, .int .i64 0] 48))
         have X5 := X3.upd (S := Non) (Upd.ofBelow hb5) (fun hh => hh)
         have lt5 := X5.lt
         have nI5 : ¬ Is qb w5.heap.size := by unfold Is; have := hlt.1; omega)
      | (go_at_call 82; refine (H2 _ hr2).mono ?_; rintro en w3 ⟨⟨a3, n3, k3, rfl, hA3, hk3⟩, hr3, hu3⟩
         have hB3 := hr3
         obtain ⟨_, _, hB3, _⟩ := hB3
         have c1 := hB3.cell1 1 _ rfl
         dsimp only at c1
         have HD := rdec_no hA3 hk3 hk
         have X3 := (BX.upd hu2 nI).upd hu3 nI
         clear hA3)
      | (go_at_call 81; refine H1.mono ?_; rintro en w2 ⟨rfl, hr2, hu2⟩))
    have U5 : Upd (Is qb) w w7 := (((((Upd.refl _ _).alloc _).trans hu2).trans hu3).trans (Upd.ofBelow hb5)).trans (((Upd.refl _ _).alloc _).trans hu7)
    have Y := ((X7.set 0 (.string ⟨#[]⟩)).set 1 (.int .u64 0)).set 2 (.int .i64 0)
    have y0 := Y.cell1 0 _ rfl
    have y1 := Y.cell1 1 _ rfl
    have y2 := Y.cell1 2 _ rfl
    have G0 := set_res hlt hr7 U5 0 (.string ⟨#[]⟩)
    have G1 := set_res hlt G0.1 G0.2 1 (.int .u64 0)
    have G2 := set_res hlt G1.1 G1.2 2 (.int .i64 0)
    exact bodyPost_ret (v := .agg #[.string ⟨#[]⟩, .int .u64 0, .int .i64 0]) (by simp [results, Try.results84, go_sem, y0, y1, y2]) rfl ⟨rfl, G2.1, G2.2⟩
end Go.Proofs.Ytkmpcheamdadcaa
