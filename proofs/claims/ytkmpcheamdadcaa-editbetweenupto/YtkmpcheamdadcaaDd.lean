/-
  The reader's parts: number f76, whatever f102, level f104, name f101, key f124.
-/
import Derived.Test.YtkmpcheamdadcaaDc
namespace Go.Proofs.Ytkmpcheamdadcaa
open Go.RowKit
set_option linter.unusedVariables false
set_option linter.unusedSimpArgs false

theorem pVar_bd2 {most n : Int} {l l' : List Int} (h : pVar most l = .ok (n, l')) : 0 ≤ n ∧ n ≤ most ∧ n < 18446744073709551616 ∧ l'.length ≤ l.length := by
  rcases pVar_cases most l with ⟨v, s, hR, s1, s2, v0, v1, v2, hp'⟩ | ⟨v, s, hR, v2, v0, v1, hp'⟩ | ⟨c', hc', hR, hp'⟩
  · rw [h] at hp'
    simp only [Except.ok.injEq, Prod.mk.injEq] at hp'
    obtain ⟨rfl, rfl⟩ := hp'
    exact ⟨v0, v2, v1, by simp⟩
  · rw [h] at hp'; cases hp'
  · rw [h] at hp'; cases hp'
theorem must_b {b : Bool} (hb : b = true) (w : World) : Calls Try.prog 77 #[.bool b] w fun e w' => e = .returned (.tuple #[]) ∧ w' = w := by subst hb; exact must_yes w
theorem must_bn {b : Bool} (hb : b = false) (w : World) : Calls Try.prog 77 #[.bool b] w fun e w' => e = pnk 3 ∧ w' = w := by subst hb; exact must_no w
theorem Arg.first {w : World} {a : Option Addr} {cap : Nat} {c : Int} {l : List Int} (h : Arg w a 1 cap ((c :: l).take 1)) : ∃ b off, a = some ⟨b, off, none⟩ ∧ w.cell? ⟨b, off, none⟩ = some (.int .u8 c) := by
  obtain ⟨_, _, _, h4⟩ := h
  rcases h4 with h4 | ⟨b, off, rfl, hlt, hc⟩
  · cases h4
  · exact ⟨b, off, rfl, hc 0 (by simp)⟩
set_option maxRecDepth 100000 in
set_option maxHeartbeats 1000000 in
theorem number_ok {B : Nat} {w : World} {rb : Nat} {n : Int} {l : List Int} {cs : List Value} (h : Rdl B w rb (n :: l) cs) :
    Calls Try.prog 76 #[ptr rb] w fun e w' => e = .returned (.int .i64 n) ∧ Rdl B w' rb l cs ∧ Upd (Is rb) w w' := by
  have hb := h.bytes n (List.mem_cons_self ..)
  go_enter Try.func76, Try.ntmps76
  go_wp2_with (go_at_call 99; refine (take_yes h 1 (by simp)).mono ?_; rintro e w2 ⟨a2, cap2, rfl, hA2, hc2, hr2, hu2⟩; obtain ⟨b2, off2, rfl, cb⟩ := hA2.first; clear hA2)
  go_ret
  exact ⟨rfl, hr2, hu2⟩
set_option maxRecDepth 100000 in
set_option maxHeartbeats 1000000 in
theorem number_err {B : Nat} {w : World} {rb : Nat} {cs : List Value} (h : Rdl B w rb [] cs) :
    Calls Try.prog 76 #[ptr rb] w fun e w' => e = pnk 4 ∧ w' = w := by
  go_enter Try.func76, Try.ntmps76
  go_wp2_with (go_at_call 99; refine (take_no h 1 (by simp)).mono ?_; rintro e w2 ⟨rfl, rfl⟩)
  exact ⟨rfl, rfl, rfl⟩
set_option maxRecDepth 100000 in
set_option maxHeartbeats 1000000 in
theorem whatever_ok {B : Nat} {w : World} {rb : Nat} {l l' : List Int} {n : Int} {cs : List Value} (h : Rdl B w rb l cs) (hp : pAny l = .ok (n, l')) :
    Calls Try.prog 102 #[ptr rb] w fun e w' => e = .returned (.int .u64 n) ∧ Rdl B w' rb l' cs ∧ Upd (Is rb) w w' := by
  go_enter Try.func102, Try.ntmps102
  go_wp2_with (go_at_call 78; refine (varint_ok h (by decide) (by decide) hp).mono ?_; rintro e w2 ⟨rfl, hr2, hu2⟩)
  go_ret
  exact ⟨rfl, hr2, hu2⟩
set_option maxRecDepth 100000 in
set_option maxHeartbeats 1000000 in
theorem whatever_err {B : Nat} {w : World} {rb : Nat} {l : List Int} {c : Int} {cs : List Value} (h : Rdl B w rb l cs) (hp : pAny l = .error c) :
    Calls Try.prog 102 #[ptr rb] w fun e w' => e = pnk c ∧ w' = w := by
  go_enter Try.func102, Try.ntmps102
  go_wp2_with (go_at_call 78; refine (varint_err h (by decide) (by decide) hp).mono ?_; rintro e w2 ⟨rfl, rfl⟩)
  exact ⟨rfl, rfl, rfl⟩
set_option maxRecDepth 100000 in
set_option maxHeartbeats 1000000 in
theorem level_ok {B : Nat} {w : World} {rb : Nat} {l l' : List Int} {n : Int} {cs : List Value} (h : Rdl B w rb l cs) (hp : pLvl l = .ok (n, l')) :
    Calls Try.prog 104 #[ptr rb] w fun e w' => e = .returned (.int .i64 n) ∧ Rdl B w' rb l' cs ∧ Upd (Is rb) w w' := by
  have hb := pVar_bd2 hp
  have h0 := hb.1
  have h1 := hb.2.1
  clear hb
  go_enter Try.func104, Try.ntmps104
  go_wp2_with (go_at_call 78; refine (varint_ok h (by decide) (by decide) hp).mono ?_; rintro e w2 ⟨rfl, hr2, hu2⟩)
  go_ret
  exact ⟨rfl, hr2, hu2⟩
set_option maxRecDepth 100000 in
set_option maxHeartbeats 1000000 in
theorem level_err {B : Nat} {w : World} {rb : Nat} {l : List Int} {c : Int} {cs : List Value} (h : Rdl B w rb l cs) (hp : pLvl l = .error c) :
    Calls Try.prog 104 #[ptr rb] w fun e w' => e = pnk c ∧ w' = w := by
  go_enter Try.func104, Try.ntmps104
  go_wp2_with (go_at_call 78; refine (varint_err h (by decide) (by decide) hp).mono ?_; rintro e w2 ⟨rfl, rfl⟩)
  exact ⟨rfl, rfl, rfl⟩
theorem Arg.str {w : World} {a : Option Addr} {len cap : Nat} {l : List Int} (h : Arg w a len cap l) : (convert 28 9 (.slice a len cap)).run Try.prog w = .ok (.string (bstr l)) w := by
  obtain ⟨rfl, h2, h3, h4⟩ := h
  rcases h4 with rfl | ⟨b, off, rfl, hlt, hc⟩
  · rw [run_convert_bytes_string w 28 9 5 _ _ _ Try.underlying28 Try.underlying5 Try.underlying9]
    cases a with
    | none => simp [Conv.bytesToString, bstr]
    | some x => exact run_bytesToString w x 0 cap [] (run_loadCells_list (P := Try.prog) w x [] (by simp))
  · exact run_string_at w 28 9 Try.underlying28 Try.underlying5 Try.underlying9 b off cap l hc
/-- What a take is, as the pure reader tells it. -/
theorem pTake_yes {n : Nat} {l t l' : List Int} (h : pTake n l = .ok (t, l')) : n ≤ l.length ∧ t = l.take n ∧ l' = l.drop n := by
  unfold pTake at h
  split at h
  · cases h
  · simp only [Except.ok.injEq, Prod.mk.injEq] at h
    exact ⟨by omega, h.1.symm, h.2.symm⟩
theorem pTake_no {n : Nat} {l : List Int} {c : Int} (h : pTake n l = .error c) : l.length < n ∧ c = 4 := by
  unfold pTake at h
  split at h
  · rename_i h1
    simp only [Except.error.injEq] at h
    exact ⟨h1, h.symm⟩
  · cases h
set_option maxRecDepth 100000 in
set_option maxHeartbeats 1000000 in
theorem name_ok {B : Nat} {w : World} {rb : Nat} {l t l' : List Int} {cs : List Value} (h : Rdl B w rb l cs) (hp : pName l = .ok (t, l')) :
    Calls Try.prog 101 #[ptr rb] w fun e w' => e = .returned (.string (bstr t)) ∧ Rdl B w' rb l' cs ∧ Upd (Is rb) w w' := by
  unfold pName at hp
  cases hv : pVar 64 l with
  | error c => rw [hv] at hp; cases hp
  | ok x =>
    obtain ⟨n, l1⟩ := x
    rw [hv] at hp
    dsimp only at hp
    obtain ⟨n0, n1, _⟩ := pVar_bd2 hv
    by_cases hn : n ≤ 0
    · rw [if_pos hn] at hp; cases hp
    · rw [if_neg hn] at hp
      obtain ⟨N, rfl⟩ := Int.eq_ofNat_of_zero_le n0
      rw [Int.toNat_natCast] at hp
      obtain ⟨q1, rfl, rfl⟩ := pTake_yes hp
      have hd : decide (0 < N) = true := by simp; omega
      clear hp
      go_enter Try.func101, Try.ntmps101
      go_wp2_with (first
        | (go_at_call 78; refine (varint_ok h (by decide) (by decide) hv).mono ?_; rintro e w2 ⟨rfl, hr2, hu2⟩)
        | (go_at_call 77; refine (must_yes _).mono ?_; rintro e w3 ⟨rfl, rfl⟩)
        | (go_at_call 99; refine (take_yes hr2 N q1).mono ?_; rintro e w4 ⟨a4, cap4, rfl, hA4, hc4, hr4, hu4⟩; have hs4 := hA4.str))
      go_ret
      exact ⟨rfl, hr4, hu2.trans hu4⟩
set_option maxRecDepth 100000 in
set_option maxHeartbeats 1000000 in
theorem name_err {B : Nat} {w : World} {rb : Nat} {l : List Int} {c : Int} {cs : List Value} (h : Rdl B w rb l cs) (hp : pName l = .error c) :
    Calls Try.prog 101 #[ptr rb] w fun e w' => e = pnk c ∧ Upd (Is rb) w w' := by
  unfold pName at hp
  cases hv : pVar 64 l with
  | error c' =>
    rw [hv] at hp
    cases hp
    go_enter Try.func101, Try.ntmps101
    go_wp2_with (go_at_call 78; refine (varint_err h (by decide) (by decide) hv).mono ?_; rintro e w2 ⟨rfl, rfl⟩)
    exact ⟨rfl, rfl, Upd.refl _ _⟩
  | ok x =>
    obtain ⟨n, l1⟩ := x
    rw [hv] at hp
    dsimp only at hp
    obtain ⟨n0, n1, _⟩ := pVar_bd2 hv
    by_cases hn : n ≤ 0
    · rw [if_pos hn] at hp
      cases hp
      obtain rfl : n = 0 := by omega
      clear hn n0 n1
      go_enter Try.func101, Try.ntmps101
      go_wp2_with (first
        | (go_at_call 78; refine (varint_ok h (by decide) (by decide) hv).mono ?_; rintro e w2 ⟨rfl, hr2, hu2⟩)
        | (go_at_call 77; refine (must_no _).mono ?_; rintro e w3 ⟨rfl, rfl⟩))
      exact ⟨rfl, rfl, hu2⟩
    · rw [if_neg hn] at hp
      obtain ⟨N, rfl⟩ := Int.eq_ofNat_of_zero_le n0
      rw [Int.toNat_natCast] at hp
      obtain ⟨q1, rfl⟩ := pTake_no hp
      have hd : decide (0 < N) = true := by simp; omega
      clear hp
      go_enter Try.func101, Try.ntmps101
      go_wp2_with (first
        | (go_at_call 78; refine (varint_ok h (by decide) (by decide) hv).mono ?_; rintro e w2 ⟨rfl, hr2, hu2⟩)
        | (go_at_call 77; refine (must_yes _).mono ?_; rintro e w3 ⟨rfl, rfl⟩)
        | (go_at_call 99; refine (take_no hr2 N q1).mono ?_; rintro e w4 ⟨rfl, rfl⟩))
      exact ⟨rfl, rfl, hu2⟩
/-- codec's Decode at any bytes. -/
theorem cdec_any {w : World} {a : Option Addr} {n cap : Nat} {t : List Int} (h : Arg w a n cap t) (hc : n ≤ cap) :
    Calls Try.prog 134 #[.slice a n cap] w fun e w' => (∃ k, pKyB t = .ok k ∧ e = .returned (.tuple #[.agg #[.string k.u, .int .u64 k.s, .int .i64 k.k], .int .i64 0])) ∧ Below w.heap.size w w' ∨ (∃ c, (c = 3 ∨ c = 4) ∧ pKyB t = .error 3 ∧ e = .returned (.tuple #[.agg #[.string ⟨#[]⟩, .int .u64 0, .int .i64 0], .int .i64 c])) ∧ Below w.heap.size w w' := by
  have hl : t.length = n := h.1
  by_cases h8 : n < 8
  · refine (cdecode_short a n cap w h8).mono ?_
    rintro e w' ⟨rfl, hb⟩
    exact .inr ⟨⟨4, .inr rfl, by unfold pKyB; rw [if_pos (by omega)], rfl⟩, hb⟩
  · obtain ⟨m, rfl⟩ : ∃ m, n = m + 8 := ⟨n - 8, by omega⟩
    obtain ⟨_, hbd, hm, h4⟩ := h
    rcases h4 with rfl | ⟨b, off, rfl, hlt, hcc⟩
    · simp at hl
    · refine (cdecode_long b off m cap t w hl hbd hm hc hlt hcc).mono ?_
      rintro e w' ⟨rfl, hb⟩
      by_cases hk : checkV (decU m t) (decN m t / 256) (decN m t % 256) = 0
      · rw [if_pos hk]
        refine .inl ⟨⟨kyD m t, ?_, rfl⟩, hb⟩
        unfold pKyB
        rw [if_neg (by omega), show t.length - 8 = m by omega]; exact if_pos hk
      · rw [if_neg hk]
        refine .inr ⟨⟨3, .inl rfl, ?_, rfl⟩, hb⟩
        unfold pKyB
        rw [if_neg (by omega), show t.length - 8 = m by omega]; exact if_neg hk
theorem cdec_yes {w : World} {a : Option Addr} {n cap : Nat} {t : List Int} {k : Ky} (h : Arg w a n cap t) (hc : n ≤ cap) (hk : pKyB t = .ok k) :
    Calls Try.prog 134 #[.slice a n cap] w fun e w' => e = .returned (.tuple #[.agg #[.string k.u, .int .u64 k.s, .int .i64 k.k], .int .i64 0]) ∧ Below w.heap.size w w' := by
  refine (cdec_any h hc).mono ?_
  rintro e w' (⟨⟨k', h1, rfl⟩, hb⟩ | ⟨⟨c, _, h1, _⟩, _⟩)
  · rw [hk] at h1; cases h1; exact ⟨rfl, hb⟩
  · rw [hk] at h1; cases h1
theorem cdec_no {w : World} {a : Option Addr} {n cap : Nat} {t : List Int} {c : Int} (h : Arg w a n cap t) (hc : n ≤ cap) (hk : pKyB t = .error c) :
    Calls Try.prog 134 #[.slice a n cap] w fun e w' => c = 3 ∧ (∃ c', (c' == 0) = false ∧ e = .returned (.tuple #[.agg #[.string ⟨#[]⟩, .int .u64 0, .int .i64 0], .int .i64 c'])) ∧ Below w.heap.size w w' := by
  refine (cdec_any h hc).mono ?_
  rintro e w' (⟨⟨k', h1, _⟩, _⟩ | ⟨⟨c', h0, h1, rfl⟩, hb⟩)
  · rw [hk] at h1; cases h1
  · rw [hk] at h1; cases h1; exact ⟨rfl, ⟨c', by rcases h0 with rfl | rfl <;> rfl, rfl⟩, hb⟩
theorem Rdl.lt {B : Nat} {w : World} {rb : Nat} {l : List Int} {cs : List Value} (h : Rdl B w rb l cs) : rb < w.heap.size ∧ B ≤ rb := by
  obtain ⟨a, cap, h1, h2, h3, h4, h5⟩ := h
  exact ⟨h1.lt, h4⟩
theorem Rdl.upd {S : Nat → Prop} {B : Nat} {w w' : World} {rb : Nat} {l : List Int} {cs : List Value} (h : Rdl B w rb l cs) (u : Upd S w w') (h1 : ¬ S rb) (h2 : ∀ k, k < B → ¬ S k) : Rdl B w' rb l cs := by
  obtain ⟨a, cap, q1, q2, q3, q4, q5⟩ := h
  exact ⟨a, cap, q1.upd u h1, q2.upd u (fun b off e => h2 b (q5 _ e)), q3, q4, q5⟩
/-- A box that a call made is not the reader's. -/
theorem not_is {B : Nat} {w : World} {rb : Nat} {l : List Int} {cs : List Value} (h : Rdl B w rb l cs) : ¬ Is rb w.heap.size := by
  have := h.lt.1
  unfold Is; omega
/-- Cells of a block behind w are laid. -/
theorem upd_new {w w' : World} (p : Addr) (v : Value) (rb : Nat) (hp : w.heap.size ≤ p.block) (h : Upd (Is rb) w w') : Upd (Is rb) w (w'.setCell p v) := Upd.setCell h (fun hh => by omega) v
set_option maxRecDepth 100000 in
set_option maxHeartbeats 1000000 in
theorem key_ok {B : Nat} {w : World} {rb : Nat} {l l' : List Int} {k : Ky} {cs : List Value} (h : Rdl B w rb l cs) (hp : pKey l = .ok (k, l')) :
    Calls Try.prog 124 #[ptr rb] w fun e w' => e = .returned (.agg #[.string k.u, .int .u64 k.s, .int .i64 k.k]) ∧ Rdl B w' rb l' cs ∧ Upd (Is rb) w w' := by
  unfold pKey at hp
  cases hv : pVar 1032 l with
  | error c => rw [hv] at hp; cases hp
  | ok x =>
    have BX := Blk.new w 48 [.string ⟨#[]⟩, .int .u64 0, .int .i64 0]
    have nI := not_is h
    obtain ⟨n, l1⟩ := x
    rw [hv] at hp
    dsimp only at hp
    obtain ⟨n0, n1, _⟩ := pVar_bd2 hv
    obtain ⟨N, rfl⟩ := Int.eq_ofNat_of_zero_le n0
    rw [Int.toNat_natCast] at hp
    cases ht : pTake N l1 with
    | error c => rw [ht] at hp; cases hp
    | ok y =>
      obtain ⟨t, l2⟩ := y
      rw [ht] at hp
      dsimp only at hp
      obtain ⟨q1, rfl, rfl⟩ := pTake_yes ht
      cases hk : pKyB (l1.take N) with
      | error c => rw [hk] at hp; cases hp
      | ok k' =>
        rw [hk] at hp
        cases hp
        clear ht
        go_enter Try.func124, Try.ntmps124
        go_wp2_with (first
          | (go_at_call 78; refine (varint_ok (h.below (al1 _ _)) (by decide) (by decide) hv).mono ?_; rintro e w2 ⟨rfl, hr2, hu2⟩)
          | (go_at_call 99; refine (take_yes hr2 N q1).mono ?_; rintro e w4 ⟨a4, cap4, rfl, hA4, hc4, hr4, hu4⟩; have hs4 := cdec_yes hA4 hc4 hk)
          | (go_at_call 134; refine hs4.mono ?_; rintro e w5 ⟨rfl, hb5⟩; have hr5 := hr4.below hb5; have X5 := ((BX.upd hu2 nI).upd hu4 nI).upd (S := Non) (Upd.ofBelow hb5) (fun hh => hh); have x0 := X5.cell1 0 _ rfl; have x1 := X5.cell1 1 _ rfl; have x2 := X5.cell1 2 _ rfl; have z0 := X5.frozen 0; have z1 := X5.frozen 1; have z2 := X5.frozen 2; have lt5 := X5.lt)
          | (go_at_call 77; refine (must_yes _).mono ?_; rintro e w3 ⟨rfl, rfl⟩))
        have Y := (((X5.set 0 (.string k.u)).set 1 (.int .u64 k.s)).set 2 (.int .i64 k.k)).alloc (.cells #[.string k.u, .int .u64 k.s, .int .i64 k.k] 48)
        have y0 := Y.cell1 0 _ rfl
        have y1 := Y.cell1 1 _ rfl
        have y2 := Y.cell1 2 _ rfl
        have U5 : Upd (Is rb) w w5 := ((((Upd.refl _ _).alloc _).trans hu2).trans hu4).trans (Upd.ofBelow hb5)
        have V : ∀ (W : World), w5.heap.size ≤ W.heap.size → Upd (Is w.heap.size) w5 W → Rdl B W rb (l1.drop N) cs := fun W _ u => hr5.upd u (by have := h.lt; unfold Is; omega) (fun q hq => by have := h.lt; unfold Is; omega)
        refine bodyPost_ret (v := .agg #[.string k.u, .int .u64 k.s, .int .i64 k.k]) (by simp [results, Try.results124, go_sem, y0, y1, y2]) rfl ⟨rfl, V _ (by simp) ?_, ?_⟩
        · have I : Is w.heap.size w.heap.size := rfl
          exact (Upd.setCell (p := ⟨w.heap.size, 2, none⟩) (Upd.setCell (p := ⟨w.heap.size, 1, none⟩) (Upd.setCell (p := ⟨w.heap.size, 0, none⟩) (Upd.refl (Is w.heap.size) w5) (fun _ => I) _) (fun _ => I) _) (fun _ => I) _).alloc _
        · exact (upd_new ⟨w.heap.size, 2, none⟩ _ _ (Nat.le_refl _) (upd_new ⟨w.heap.size, 1, none⟩ _ _ (Nat.le_refl _) (upd_new ⟨w.heap.size, 0, none⟩ _ _ (Nat.le_refl _) U5))).alloc _
set_option maxRecDepth 100000 in
set_option maxHeartbeats 1000000 in
theorem key_err {B : Nat} {w : World} {rb : Nat} {l : List Int} {c : Int} {cs : List Value} (h : Rdl B w rb l cs) (hp : pKey l = .error c) :
    Calls Try.prog 124 #[ptr rb] w fun e w' => e = pnk c ∧ Upd (Is rb) w w' := by
  unfold pKey at hp
  cases hv : pVar 1032 l with
  | error c' =>
    rw [hv] at hp
    cases hp
    go_enter Try.func124, Try.ntmps124
    go_wp2_with (go_at_call 78; refine (varint_err (h.below (al1 _ _)) (by decide) (by decide) hv).mono ?_; rintro e w2 ⟨rfl, rfl⟩)
    exact ⟨rfl, rfl, (Upd.refl _ _).alloc _⟩
  | ok x =>
    obtain ⟨n, l1⟩ := x
    rw [hv] at hp
    dsimp only at hp
    obtain ⟨n0, n1, _⟩ := pVar_bd2 hv
    obtain ⟨N, rfl⟩ := Int.eq_ofNat_of_zero_le n0
    rw [Int.toNat_natCast] at hp
    cases ht : pTake N l1 with
    | error c' =>
      rw [ht] at hp
      cases hp
      obtain ⟨q1, rfl⟩ := pTake_no ht
      clear ht
      go_enter Try.func124, Try.ntmps124
      go_wp2_with (first
        | (go_at_call 78; refine (varint_ok (h.below (al1 _ _)) (by decide) (by decide) hv).mono ?_; rintro e w2 ⟨rfl, hr2, hu2⟩)
        | (go_at_call 99; refine (take_no hr2 N q1).mono ?_; rintro e w4 ⟨rfl, rfl⟩))
      exact ⟨rfl, rfl, ((Upd.refl _ _).alloc _).trans hu2⟩
    | ok y =>
      obtain ⟨t, l2⟩ := y
      rw [ht] at hp
      dsimp only at hp
      obtain ⟨q1, rfl, rfl⟩ := pTake_yes ht
      cases hk : pKyB (l1.take N) with
      | ok k' => rw [hk] at hp; cases hp
      | error c' =>
        rw [hk] at hp
        cases hp
        clear ht
        go_enter Try.func124, Try.ntmps124
        go_wp2_with (first
          | (go_at_call 78; refine (varint_ok (h.below (al1 _ _)) (by decide) (by decide) hv).mono ?_; rintro e w2 ⟨rfl, hr2, hu2⟩)
          | (go_at_call 99; refine (take_yes hr2 N q1).mono ?_; rintro e w4 ⟨a4, cap4, rfl, hA4, hc4, hr4, hu4⟩; have hs4 := cdec_no hA4 hc4 hk)
          | (go_at_call 134; refine hs4.mono ?_; rintro e w5 ⟨rfl, ⟨c', hc5, rfl⟩, hb5⟩)
          | (go_at_call 77; refine (must_no _).mono ?_; rintro e w3 ⟨rfl, rfl⟩))
        exact ⟨rfl, rfl, (((((Upd.refl _ _).alloc _).trans hu2).trans hu4).trans (Upd.ofBelow hb5)).alloc _⟩
end Go.Proofs.Ytkmpcheamdadcaa
