import Derived.Test.YtkdjahgndkdnhaaF
namespace Go.Proofs.Ytkdjahgndkdnhaa
open Go.RowKit Go.Maps
set_option linter.unusedVariables false
set_option linter.unusedSimpArgs false
theorem nums_mem {q : Tk → Bool} {i : Nat} {l : List Tk} {x : Nat} (h : x ∈ nums q i l) : ∃ j t, x = i + j ∧ l[j]? = some t ∧ q t = true := by
  induction l generalizing i with
  | nil => simp [nums] at h
  | cons t l ih =>
    simp only [nums] at h
    split at h
    · rename_i hq
      rcases List.mem_cons.1 h with rfl | h
      · exact ⟨0, t, by omega, rfl, hq⟩
      · obtain ⟨j, t', rfl, h1, h2⟩ := ih h
        exact ⟨j + 1, t', by omega, by simpa using h1, h2⟩
    · obtain ⟨j, t', rfl, h1, h2⟩ := ih h
      exact ⟨j + 1, t', by omega, by simpa using h1, h2⟩
theorem ic_cell {w : World} {base : Nat} {a : Option Addr} {cp : Nat} {l : List Nat} (h : w.ownsRow base 3 1 (.slice a l.length cp) l.length (ic l)) {i x : Nat} (hi : l[i]? = some x) : ∃ g, a = some ⟨g, 0, none⟩ ∧ w.cell? ⟨g, i, none⟩ = some (.int .i64 x) := by
  have hl : i < l.length := (List.getElem?_eq_some_iff.1 hi).1
  rcases h.2 with ⟨e, h0⟩ | ⟨g, cap, cur, e, _⟩
  · omega
  · cases e
    refine ⟨g, rfl, ?_⟩
    have := h.cells (g := g) rfl i (.int .i64 x) (by simp [ic, hi])
    rw [add_at] at this
    simpa using this
section
variable {w : World} {b p : Nat} {rv : Value} {m : Nat} {t : Tk} {st : Nat} {wi : Bool} {ps : List Nat} {ts : List Tk} {H : Int → Option Int} {c : Nat}
set_option maxRecDepth 100000 in
set_option maxHeartbeats 800000 in
theorem pick_none (h : Sc w b rv m ps ts H st wi c) (hl : ps.length ≤ 64) (hst : st < 4000000000000000000) (ok : ∀ t ∈ ts, TkOk st t) (hn : wi = true ∨ nums (mayB H st) 0 ts = []) (i : Int) :
    Calls Try.prog 16 #[ptr b, .int .i64 i] w fun e w' => e = .returned (.tuple #[.int .i64 0, .int .i64 8]) ∧ Below w.heap.size w w' := by
  have HE := enabled_any h hl hst ok
  rcases hn with rfl | hn
  · go_enter Try.func16, Try.ntmps16
    go_wp2_with (go_at_call 19; refine HE.mono ?_; rintro e w1 ⟨a, cp, rfl, hr, hB⟩; have c3 := (h.below hB).blk.cell1 3 _ rfl)
    go_ret2
    exact ⟨rfl, hB⟩
  · rw [hn] at HE
    go_enter Try.func16, Try.ntmps16
    go_wp2_with (go_at_call 19; refine HE.mono ?_; rintro e w1 ⟨a, cp, rfl, hr, hB⟩; have c3 := (h.below hB).blk.cell1 3 _ rfl)
    all_goals go_ret2
    all_goals exact ⟨rfl, hB⟩
set_option maxRecDepth 100000 in
set_option maxHeartbeats 800000 in
theorem pick_any (h : Sc w b rv m ps ts H st false c) (hc : c < maxLen) (hl : ps.length ≤ 64) (hst : st < 4000000000000000000) (ok : ∀ t ∈ ts, TkOk st t) {L : List Nat} (hL : nums (mayB H st) 0 ts = L) {i : Int} {j n : Nat} (hj : max i 0 = j) (hi : i ≤ 9223372036854775807) (hn : L[j % L.length]? = some n) (ht : ts[n]? = some t) (g : Nat) (bd cp : Array Value) (hstep : t.step = .func (.func g) bd cp) (hent : ∀ w, (callFunc g (bd ++ cp)).run Try.prog w = .ok (.enter g (bd ++ cp)) w)
    (S : Nat → Prop) (hS : ∀ k, S k → k < w.heap.size) (R : World → Int → Int → List Tk → (Int → Option Int) → Prop)
    (hg : ∀ w1, Sc w1 b rv m ps (ts.set n t.goes) (lockd H t n) st true (c + 1) → Upd (SB b rv m ps) w w1 →
      Stp g bd cp b rv m ps (ts.set n t.goes) (lockd H t n) st (c + 1) S R w1) :
    Calls Try.prog 16 #[ptr b, .int .i64 i] w fun e w3 => ∃ w2 k o ts2 H2 t2, e = .returned (.tuple #[.int .i64 n, .int .i64 (if t2.failed then 9 else 0)]) ∧ R w2 k o ts2 H2 ∧ ts2[n]? = some t2 ∧ Sc w3 b rv m ps (ts2.set n (t2.wished k o (st + 1))) H2 (st + 1) false (c + 1) ∧ (Upd (fun k => (k = b ∨ k ∈ ps) ∨ w.heap.size ≤ k) w2 w3 ∧ Rws w2 w3) ∧ Upd (fun k => SB b rv m ps k ∨ S k) w w3 := by
  have HE := enabled_any h hl hst ok
  rw [hL] at HE
  have hLl : j % L.length < L.length := (List.getElem?_eq_some_iff.1 hn).1
  have hmx : ∀ W : World, (Builtin.max_ #[3, 3] 3 #[.int .i64 i, .int .i64 0]).run Try.prog W = .ok (.int .i64 j) W := by
    intro W
    rw [← hj]
    have e : max i 0 = if i < 0 then 0 else i := by omega
    rw [e]
    simp [Builtin.max_, Builtin.max2, go_sem]
  have hne : ((L.length : Int) == 0) = false := beq_eq_false_iff_ne.2 (by omega)
  have ho : I64 t.on := (ok t (List.mem_of_getElem? ht)).o64
  have lt := h.sb_lt
  go_enter Try.func16, Try.ntmps16
  go_wp2_with (first
    | (go_at_call 46; refine (doStep_any (h.below hB) hc hl hst ht ho g bd cp hstep hent S (fun k hk => Nat.lt_of_lt_of_le (hS k hk) hB.size) R (fun w1 hs hu => hg w1 hs ((Upd.ofBelow hB).trans hu))).mono ?_
       rintro e w3 ⟨rfl, w2, k, o, ts2, H2, t2, hR, ht2, hS3, hU3, hU4⟩
       obtain ⟨p, hp, P⟩ := hS3.task (i := n) (t := t2.wished k o (st + 1)) (by rw [List.getElem?_set]; simp [(List.getElem?_eq_some_iff.1 ht2).1])
       obtain ⟨g2, c2, hrv, hc2⟩ := hS3.at_ hp
       have d0 := hS3.blk.cell1 0 _ rfl
       rw [hrv] at d0
       have d5 := P.cell1 5 _ rfl
       have hnl : n < ps.length := (List.getElem?_eq_some_iff.1 hp).1
       have hlt : (n : Int) < (ps.length : Int) := by omega
       have hn0 : (0 : Int) ≤ (n : Int) := by omega)
    | (go_at_call 19; refine HE.mono ?_; rintro e w1 ⟨a, ca, rfl, hr, hB⟩; have c3 := (h.below hB).blk.cell1 3 _ rfl; obtain ⟨gg, rfl, hcell⟩ := ic_cell hr hn))
  all_goals go_ret2
  all_goals refine ⟨w2, k, o, ts2, H2, t2, ?_, hR, ht2, hS3, ⟨hU3.1.mono (fun k _ hk => hk.imp id (fun h => Nat.le_trans hB.size h)), hU3.2⟩, (Upd.ofBelow hB).trans hU4⟩
  all_goals simp_all [Tk.wished]
def pickAt (l : List Int) (k : Nat) : Int := (l[k % l.length]?).getD 0
set_option maxRecDepth 100000 in
set_option maxHeartbeats 800000 in
theorem run_any (l : List Int) (a : Option Addr) (cap : Nat) (most : Nat) (hm : most < 4000000000000000000) (hll : l.length < 4000000000000000000) (I J : Nat → World → Prop) (h3 : w.cell? ⟨b, 3, none⟩ = some (.bool false)) (h0 : I 0 w)
    (hc : ∀ k W, I k W → ∀ (j : Nat) (x : Int), l[j]? = some x → ∃ g o, a = some ⟨g, o, none⟩ ∧ W.cell? ⟨g, o + j, none⟩ = some (.int .i64 x))
    (hP : ∀ k W, k < most → I k W → Calls Try.prog 16 #[ptr b, .int .i64 (pickAt l k)] W fun e w' => (∃ n er, e = .returned (.tuple #[.int .i64 n, .int .i64 er]) ∧ er ≠ 8 ∧ I (k + 1) w') ∨ (e = .returned (.tuple #[.int .i64 0, .int .i64 8]) ∧ J k w')) :
    Calls Try.prog 17 #[ptr b, .slice a l.length cap, .int .i64 most] w fun e w' => ∃ k, e = .returned (.tuple #[.int .i64 (k : Nat), .int .i64 0]) ∧ ((k = most ∧ I k w') ∨ (k < most ∧ J k w')) := by
  go_enter Try.func17, Try.ntmps17
  go_wp2
  go_loopw [8] (fun d wr => ∃ (k : Nat), k ≤ most ∧ d = .int .i64 k ∧ I k wr) (fun d _ => most - (intOf d).toNat)
  case atStart => exact ⟨0, Nat.zero_le _, rfl, h0⟩
  case round =>
    obtain ⟨k, hk, rfl, hI⟩ := hrel
    by_cases hlt : k < most
    · have HP := hP k wr hlt hI
      have hlt' : (k : Int) < (most : Int) := by omega
      by_cases hl0 : l.length = 0
      · have hpk : pickAt l k = 0 := by rw [List.eq_nil_of_length_eq_zero hl0]; rfl
        rw [hpk] at HP
        rw [hl0]
        go_wp2_with (go_at_call 16; refine HP.mono ?_; rintro e w1 (⟨n, er, rfl, her, hI1⟩ | ⟨rfl, hJ⟩))
        · have her' : (er == 8) = false := by simpa using her
          go_wp2
          go_roundw
          case rel => exact ⟨k + 1, by omega, by go_num, hI1⟩
          case measure => simp [intOf]; omega
        · go_wp2
          go_ret2
          exact ⟨k, rfl, .inr ⟨hlt, hJ⟩⟩
      · have hmod : k % l.length < l.length := Nat.mod_lt _ (by omega)
        obtain ⟨g, o, rfl, hcell⟩ := hc k wr hI (k % l.length) _ (List.getElem?_eq_getElem hmod)
        have hpk : pickAt l k = l[k % l.length] := by unfold pickAt; rw [List.getElem?_eq_getElem hmod]; rfl
        rw [hpk] at HP
        generalize l[k % l.length] = x at *
        go_wp2_with (go_at_call 16; refine HP.mono ?_; rintro e w1 (⟨n, er, rfl, her, hI1⟩ | ⟨rfl, hJ⟩))
        · have her' : (er == 8) = false := by simpa using her
          go_wp2
          go_roundw
          case rel => exact ⟨k + 1, by omega, by go_num, hI1⟩
          case measure => simp [intOf]; omega
        · go_wp2
          go_ret2
          exact ⟨k, rfl, .inr ⟨hlt, hJ⟩⟩
    · obtain rfl : k = most := by omega
      go_wp2
      go_ret2
      exact ⟨k, rfl, .inl ⟨rfl, hI⟩⟩
end
end Go.Proofs.Ytkdjahgndkdnhaa
