import Derived.Test.YtocanjefonlnaaaDoorJ
namespace Go.Proofs.YtocanjefonlnaaaDoor
open Go.RowKit
set_option linter.unusedVariables false
set_option linter.unusedSimpArgs false
/-- The order of tombstones. -/
def tord (how : Int) (a b : Tm) : Int := if cmpH how a.b b.b ≠ 0 then cmpH how a.b b.b else if cmpH how a.e b.e ≠ 0 then cmpH how a.e b.e else cmpI b.s a.s
abbrev Tm.v (t : Tm) : Value := .agg #[.string t.b, .string t.e, .int .u64 t.s]
abbrev rptr (T : Nat) : Value := .pointer (some ⟨T, 17, none⟩)
theorem tord_w1 {how : Int} {a b : Tm} (h : (cmpH how a.b b.b != 0) = true) : cmpH how a.b b.b = tord how a b := by unfold tord; rw [if_pos (ne0 h)]
theorem tord_w2 {how : Int} {a b : Tm} (h : (cmpH how a.b b.b != 0) = false) (h2 : (cmpH how a.e b.e != 0) = true) : cmpH how a.e b.e = tord how a b := by
  unfold tord; rw [if_neg (by rw [eq0 h]; simp), if_pos (ne0 h2)]
theorem tord_w3 {how : Int} {a b : Tm} (h : (cmpH how a.b b.b != 0) = false) (h2 : (cmpH how a.e b.e != 0) = false) : cmpI b.s a.s = tord how a b := by
  unfold tord; rw [if_neg (by rw [eq0 h]; simp), if_neg (by rw [eq0 h2]; simp)]
set_option maxRecDepth 100000 in
set_option maxHeartbeats 1000000 in
theorem torder_any {w : World} {T : Nat} {how : Int} (h : w.cell? ⟨T, 17, none⟩ = some (.int .i64 how)) (a b : Tm) :
    Calls Tryd.prog 57 #[rptr T, a.v, b.v] w fun e w' => e = .returned (.int .i64 (tord how a b)) ∧ Below w.heap.size w w' := by
  have hT := block_lt_of_cell h
  have hk : ((w.alloc (.cells #[.string a.b, .string a.e, .int .u64 a.s] 81)).alloc (.cells #[.string b.b, .string b.e, .int .u64 b.s] 81)).cell? ⟨T, 17, none⟩ = some (.int .i64 how) := keepc ((Below.refl _ _).alloc (by simp) _) (keepc ((Below.refl _ _).alloc (Nat.le_refl _) _) h)
  have hb0 : Below w.heap.size w ((w.alloc (.cells #[.string a.b, .string a.e, .int .u64 a.s] 81)).alloc (.cells #[.string b.b, .string b.e, .int .u64 b.s] 81)) := ((Below.refl _ _).alloc (Nat.le_refl _) _).alloc (by simp) _
  have B1 : Blk ((w.alloc (.cells #[.string a.b, .string a.e, .int .u64 a.s] 81)).alloc (.cells #[.string b.b, .string b.e, .int .u64 b.s] 81)) w.heap.size 81 a.c := (Blk.new w 81 a.c).alloc _
  have B2 : Blk ((w.alloc (.cells #[.string a.b, .string a.e, .int .u64 a.s] 81)).alloc (.cells #[.string b.b, .string b.e, .int .u64 b.s] 81)) (w.heap.size + 1) 81 b.c := by
    have := Blk.new (w.alloc (.cells #[.string a.b, .string a.e, .int .u64 a.s] 81)) 81 b.c
    rw [World.size_alloc] at this
    exact this
  go_enter Tryd.func57, Tryd.ntmps57
  go_upto_region 1 with fail
  obtain ⟨W0, hW0⟩ : ∃ W0, W0 = (w.alloc (.cells #[.string a.b, .string a.e, .int .u64 a.s] 81)).alloc (.cells #[.string b.b, .string b.e, .int .u64 b.s] 81) := ⟨_, rfl⟩
  rw [← hW0] at hk hb0 B1 B2 ⊢
  clear hW0
  have HB : Hid (Below w.heap.size w W0) := hb0
  have a0 := B1.cell1 0 _ rfl
  have a1 := B1.cell1 1 _ rfl
  have a2 := B1.cell1 2 _ rfl
  have b0 := B2.cell1 0 _ rfl
  have b1 := B2.cell1 1 _ rfl
  have b2 := B2.cell1 2 _ rfl
  clear hb0 B1 B2
  go_big_quiet ((go_at_call 51; exact Calls.quiet_of_same (ccmp_any _ _ _ _)))
  go_wp2_with fail
  · go_ret; exact ⟨ret_int' (tord_w1 ‹_›), belN HB.out _⟩
  · have HB2 : Hid (Below w.heap.size w (W0.drewN nq)) := belN HB.out _
    have hk' : (W0.drewN nq).cell? ⟨T, 17, none⟩ = some (.int .i64 how) := hk
    have a1' : (W0.drewN nq).cell? ⟨w.heap.size, 1, none⟩ = some (.string a.e) := a1
    have a2' : (W0.drewN nq).cell? ⟨w.heap.size, 2, none⟩ = some (.int .u64 a.s) := a2
    have b1' : (W0.drewN nq).cell? ⟨w.heap.size + 1, 1, none⟩ = some (.string b.e) := b1
    have b2' : (W0.drewN nq).cell? ⟨w.heap.size + 1, 2, none⟩ = some (.int .u64 b.s) := b2
    clear hk a0 a1 a2 b0 b1 b2
    generalize W0.drewN nq = W1 at *
    go_big_quiet ((go_at_call 51; exact Calls.quiet_of_same (ccmp_any _ _ _ _)))
    go_wp2_with (go_at_call 62; refine (cmpu_any _ _ _).mono ?_; rintro e w' ⟨rfl, rfl⟩)
    · go_ret; exact ⟨ret_int' (tord_w2 ‹_› ‹_›), belN HB2.out _⟩
    · go_ret; exact ⟨ret_int' (tord_w3 ‹_› ‹_›), belN HB2.out _⟩
/-- A row of tombstones that reads as l. -/
def RdT (w : World) (rv : Value) (l : List Tm) : Prop := (rv = .slice none 0 0 ∧ l = []) ∨ ∃ g cap, rv = .slice (some ⟨g, 0, none⟩) l.length cap ∧ ∀ j t, l[j]? = some t → TAt w g (j * 3) t
theorem row_rdt {w : World} {rv : Value} {l : List Tm} (h : w.ownsRow 0 81 3 rv l.length (tcs l)) : RdT w rv l := by
  have h' := h
  rcases h.2 with ⟨rfl, h0⟩ | ⟨g, cap, cur, rfl, _⟩
  · exact .inl ⟨rfl, List.eq_nil_of_length_eq_zero h0⟩
  · exact .inr ⟨g, cap, rfl, fun j t hj => row_tat h' j t hj⟩
theorem TAt.below {w w' : World} {b o : Nat} {t : Tm} (h : TAt w b o t) (hb : Below w.heap.size w w') : TAt w' b o t := ⟨keepc hb h.1, keepc hb h.2.1, keepc hb h.2.2⟩
theorem RdT.below {w w' : World} {rv : Value} {l : List Tm} (h : RdT w rv l) (hb : Below w.heap.size w w') : RdT w' rv l := by
  rcases h with h | ⟨g, cap, rfl, hc⟩
  · exact .inl h
  · exact .inr ⟨g, cap, rfl, fun j t hj => (hc j t hj).below hb⟩
/-- The first tombstone that is not ahead of x is number p. -/
structure TCut (how : Int) (l : List Tm) (x : Tm) (p : Nat) : Prop where
  le : p ≤ l.length
  lo : ∀ i t, i < p → l[i]? = some t → tord how t x < 0
  hi : ∀ i t, p ≤ i → l[i]? = some t → ¬ tord how t x < 0
/-- Whether x is there. -/
def tis (how : Int) (l : List Tm) (x : Tm) (p : Nat) : Bool := match l[p]? with | some t => decide (tord how t x = 0) | none => false
set_option maxRecDepth 100000 in
set_option maxHeartbeats 2000000 in
theorem bsearch_any {w : World} {T : Nat} {how : Int} (h : w.cell? ⟨T, 17, none⟩ = some (.int .i64 how)) {rv : Value} {l : List Tm} (hr : RdT w rv l) (x : Tm) (p : Nat) (hc : TCut how l x p) (hl : l.length ≤ 10000) :
    Calls Tryd.prog 56 #[rv, x.v, .func (.func 57) #[rptr T] #[]] w fun e w' => e = .returned (.tuple #[.int .i64 p, .bool (tis how l x p)]) ∧ Below w.heap.size w w' := by
  have hp := hc.le
  have HC : Hid (TCut how l x p) := hc
  have HR : Hid (RdT w rv l) := hr
  have HK : Hid (w.cell? ⟨T, 17, none⟩ = some (.int .i64 how)) := h
  have HO : Hid (∀ (W : World), Below w.heap.size w W → ∀ t : Tm, Calls Tryd.prog 57 #[rptr T, t.v, x.v] W fun e w' => e = .returned (.int .i64 (tord how t x)) ∧ Below W.heap.size W w') := fun W hb t => torder_any (keepc hb HK.out) t x
  obtain ⟨a, c, hrv⟩ : ∃ a c, rv = .slice a l.length c := by
    rcases hr with ⟨rfl, rfl⟩ | ⟨g, cap, rfl, _⟩
    · exact ⟨_, _, rfl⟩
    · exact ⟨_, _, rfl⟩
  have HB0 : Hid (Below w.heap.size w (w.alloc (.cells #[.string x.b, .string x.e, .int .u64 x.s] 81))) := (Below.refl _ _).alloc (Nat.le_refl _) _
  have HX0 : Hid (Blk (w.alloc (.cells #[.string x.b, .string x.e, .int .u64 x.s] 81)) w.heap.size 81 x.c) := Blk.new w 81 x.c
  obtain ⟨N, hN⟩ : ∃ N, Hid (N = l.length) := ⟨_, rfl⟩
  rw [← hN.out] at hrv hp hl
  subst hrv
  clear hc hr h
  go_enter Tryd.func56, Tryd.ntmps56
  go_wp2_with fail
  go_loopg [9, 10] N (fun k s9 s10 wr => ∃ i j : Nat, k = j - i ∧ s9 = .int .i64 i ∧ s10 = .int .i64 j ∧ i ≤ p ∧ p ≤ j ∧ j ≤ N ∧ Hid (Below w.heap.size w wr ∧ Blk wr w.heap.size 81 x.c))
  case atStart => exact ⟨0, N, rfl, rfl, rfl, Nat.zero_le _, hp, Nat.le_refl _, HB0.out, HX0.out⟩
  case round =>
    obtain ⟨i, j, rfl, rfl, rfl, hip, hpj, hjN, HI⟩ := hrel
    have x0 := HI.out.2.cell1 0 _ rfl
    have x1 := HI.out.2.cell1 1 _ rfl
    have x2 := HI.out.2.cell1 2 _ rfl
    by_cases hij : i < j
    · have hijz : (i : Int) < (j : Int) := by omega
      obtain ⟨m, hm⟩ : ∃ m, (i + j) / 2 = m := ⟨_, rfl⟩
      have hm1 : i ≤ m ∧ m < j := by omega
      have hw1 : IntKind.i64.wrap ((i : Int) + j) = (i : Int) + j := by rw [IntKind.wrap_i64]; omega
      have hw2 : IntKind.u64.wrap ((i : Int) + j) = (i : Int) + j := by rw [IntKind.wrap_u64]; omega
      have hdv : ((i : Int) + j) / 2 = m := by omega
      have hw3 : IntKind.i64.wrap (m : Int) = m := by rw [IntKind.wrap_i64]; omega
      have hmN : (m : Int) < (N : Int) := by omega
      obtain ⟨g, rfl, hat⟩ : ∃ g, a = some ⟨g, 0, none⟩ ∧ ∀ j t, l[j]? = some t → TAt w g (j * 3) t := by
        rcases HR.out with ⟨h1, h2⟩ | ⟨g, cap, h1, h2⟩
        · have := hN.out; rw [h2] at this; simp at this; omega
        · cases h1; exact ⟨g, rfl, h2⟩
      obtain ⟨t, ht⟩ : ∃ t, l[m]? = some t := ⟨l[m]'(by rw [← hN.out]; omega), List.getElem?_eq_getElem _⟩
      have TA := (hat m t ht).below HI.out.1
      have t0 := TA.1
      have t1 := TA.2.1
      have t2 := TA.2.2
      have HOt := HO.out
      obtain ⟨O, hO⟩ : ∃ O, Hid (tord how t x = O) := ⟨_, rfl⟩
      have HCall : Hid (∀ W, Below w.heap.size w W → Calls Tryd.prog 57 #[rptr T, t.v, x.v] W fun e w' => e = .returned (.int .i64 O) ∧ Below W.heap.size W w') := fun W hb => by rw [← hO.out]; exact HO.out W hb t
      clear TA hat HOt hm
      have hlt : (if m < p then O < 0 else ¬ O < 0) := by
        split
        · rw [← hO.out]; exact HC.out.lo m t ‹_› ht
        · rw [← hO.out]; exact HC.out.hi m t (by omega) ht
      go_wp2_with fail
      go_region_held_law (fun w' => w'.cell? ⟨g, m * 3, none⟩ = some (.string t.b) ∧ w'.cell? ⟨g, m * 3 + 1, none⟩ = some (.string t.e) ∧ w'.cell? ⟨g, m * 3 + 2, none⟩ = some (.int .u64 t.s) ∧ w'.cell? ⟨w.heap.size, 0, none⟩ = some (.string x.b) ∧ w'.cell? ⟨w.heap.size, 1, none⟩ = some (.string x.e) ∧ w'.cell? ⟨w.heap.size, 2, none⟩ = some (.int .u64 x.s))
        (first | (go_keep; done) | (refine keep6 hb1 ?_ <;> assumption))
        ((go_at_call 57; refine (HCall.out _ HI.out.1.drew).mono ?_; rintro e w1 ⟨rfl, hb1⟩))
      have HI2 : Hid (Below w.heap.size w w1 ∧ Blk w1 w.heap.size 81 x.c) := ⟨HI.out.1.drew.trans (hb1.mono HI.out.1.drew.size), (Blk.drew HI.out.2).upd (S := Non) (Upd.ofBelow hb1) (fun x => x)⟩
      clear hb1 t0 t1 t2 x0 x1 x2
      rcases Nat.lt_or_ge m p with hmp | hmp
      · rw [if_pos hmp] at hlt
        go_wp2_with fail
        go_roundg (j - (m + 1))
        case rel => exact ⟨m + 1, j, rfl, by go_num, rfl, by omega, hpj, hjN, HI2.out⟩
        case measure => omega
      · rw [if_neg (by omega)] at hlt
        go_wp2_with fail
        go_roundg (m - i)
        case rel => exact ⟨i, m, rfl, rfl, rfl, hip, hmp, by omega, HI2.out⟩
        case measure => omega
    · obtain rfl : i = p := by omega
      obtain rfl : j = i := by omega
      have hjj : ¬ ((j : Int) < (j : Int)) := by omega
      rcases Nat.lt_or_ge j N with hlt | hge
      · have hmN : (j : Int) < (N : Int) := by omega
        obtain ⟨g, rfl, hat⟩ : ∃ g, a = some ⟨g, 0, none⟩ ∧ ∀ j t, l[j]? = some t → TAt w g (j * 3) t := by
          rcases HR.out with ⟨h1, h2⟩ | ⟨g, cap, h1, h2⟩
          · have := hN.out; rw [h2] at this; simp at this; omega
          · cases h1; exact ⟨g, rfl, h2⟩
        obtain ⟨t, ht⟩ : ∃ t, l[j]? = some t := ⟨l[j]'(by rw [← hN.out]; omega), List.getElem?_eq_getElem _⟩
        have TA := (hat j t ht).below HI.out.1
        have t0 := TA.1
        have t1 := TA.2.1
        have t2 := TA.2.2
        have HT : Hid (tis how l x j = (tord how t x == 0)) := by show _ = _; unfold tis; rw [ht]; rw [Bool.eq_iff_iff]; simp
        obtain ⟨O, hO⟩ : ∃ O, Hid (tord how t x = O) := ⟨_, rfl⟩
        have HCall : Hid (∀ W, Below w.heap.size w W → Calls Tryd.prog 57 #[rptr T, t.v, x.v] W fun e w' => e = .returned (.int .i64 O) ∧ Below W.heap.size W w') := fun W hb => by rw [← hO.out]; exact HO.out W hb t
        clear TA hat
        go_wp2_with fail
        go_region_held_law (fun w' => w'.cell? ⟨g, j * 3, none⟩ = some (.string t.b) ∧ w'.cell? ⟨g, j * 3 + 1, none⟩ = some (.string t.e) ∧ w'.cell? ⟨g, j * 3 + 2, none⟩ = some (.int .u64 t.s) ∧ w'.cell? ⟨w.heap.size, 0, none⟩ = some (.string x.b) ∧ w'.cell? ⟨w.heap.size, 1, none⟩ = some (.string x.e) ∧ w'.cell? ⟨w.heap.size, 2, none⟩ = some (.int .u64 x.s))
          (first | (go_keep; done) | (refine keep6 hb1 ?_ <;> assumption))
          ((go_at_call 57; refine (HCall.out _ HI.out.1.drew).mono ?_; rintro e w1 ⟨rfl, hb1⟩))
        go_wp2_with fail
        go_ret2
        rw [HT.out, hO.out]
        exact ⟨rfl, HI.out.1.drew.trans (hb1.mono HI.out.1.drew.size)⟩
      · obtain rfl : N = j := by omega
        have HT : Hid (tis how l x N = false) := by show _ = _; unfold tis; rw [List.getElem?_eq_none (by rw [← hN.out]; omega)]
        go_wp2_with fail
        clear hjN hij hp hip hpj hge hjj
        first | go_quiet (fail) | go_big_quiet (fail) | go_region
        go_wp2_with fail
        go_ret2
        rw [HT.out]
        first | exact ⟨rfl, belN HI.out.1 _⟩ | exact ⟨rfl, HI.out.1.drew⟩
end Go.Proofs.YtocanjefonlnaaaDoor
