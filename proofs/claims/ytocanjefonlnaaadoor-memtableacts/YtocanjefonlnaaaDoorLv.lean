import Derived.Test.YtocanjefonlnaaaDoorN
namespace Go.Proofs.YtocanjefonlnaaaDoor
open Go.RowKit
set_option linter.unusedVariables false
set_option linter.unusedSimpArgs false
set_option maxRecDepth 100000 in
set_option maxHeartbeats 400000 in
theorem lall_any {w : World} (p u : Value) (s k : Int) (hp : ∃ a, p = .pointer a) (hu : ∃ b, u = .string b) : Calls Tryd.prog 36 #[p, .agg #[u, .int .u64 s, .int .i64 k]] w fun e w' => (∃ cp, e = .returned (.func (.func 52) #[] cp)) ∧ Below w.heap.size w w' := by
  obtain ⟨a, rfl⟩ := hp
  obtain ⟨b, rfl⟩ := hu
  go_enter Tryd.func36, Tryd.ntmps36
  go_wp2_with fail
  go_ret
  exact ⟨⟨_, rfl⟩, ((Below.refl _ _).alloc (Nat.le_refl _) _).alloc (by simp) _⟩
set_option maxRecDepth 100000 in
set_option maxHeartbeats 400000 in
theorem all_any {w : World} {T : Nat} (hT : T < w.heap.size) (u : ByteArray) (s k : Int) : Calls Tryd.prog 15 #[ptr T, .agg #[.string u, .int .u64 s, .int .i64 k]] w fun e w' => (∃ cp, e = .returned (.func (.func 52) #[] cp)) ∧ Below w.heap.size w w' := by
  have hb0 : Below w.heap.size w (w.alloc (.cells #[.string u, .int .u64 s, .int .i64 k] 38)) := (Below.refl _ _).alloc (Nat.le_refl _) _
  have B0 : Blk (w.alloc (.cells #[.string u, .int .u64 s, .int .i64 k] 38)) w.heap.size 38 [.string u, .int .u64 s, .int .i64 k] := Blk.new w 38 _
  go_enter Tryd.func15, Tryd.ntmps15
  go_upto_region 1 with fail
  obtain ⟨W0, hW0⟩ : ∃ W0, W0 = w.alloc (.cells #[.string u, .int .u64 s, .int .i64 k] 38) := ⟨_, rfl⟩
  rw [← hW0] at hb0 B0 ⊢
  clear hW0
  have c0 := B0.cell1 0 _ rfl
  have c1 := B0.cell1 1 _ rfl
  have c2 := B0.cell1 2 _ rfl
  have HB0 : Hid (Below w.heap.size w W0) := hb0
  clear hb0 B0
  go_region_held_law (fun w' => w'.cell? ⟨w.heap.size, 0, none⟩ = some (.string u) ∧ w'.cell? ⟨w.heap.size, 1, none⟩ = some (.int .u64 s) ∧ w'.cell? ⟨w.heap.size, 2, none⟩ = some (.int .i64 k))
    (first | (go_keep; done) | (refine keep3 (S := Non) (Upd.ofBelow hb1) (fun x => x) ?_ <;> assumption))
    ((go_at_call 36; refine (lall_any _ _ _ _ ⟨_, rfl⟩ ⟨_, rfl⟩).mono ?_; rintro e w1 ⟨⟨cp, rfl⟩, hb1⟩))
  go_wp2_with fail
  go_ret
  exact ⟨⟨_, rfl⟩, HB0.out.drew.trans (hb1.mono HB0.out.drew.size)⟩
def sA : ByteArray := ⟨#[97]⟩
def sC : ByteArray := ⟨#[99]⟩
def sX : ByteArray := ⟨#[120]⟩
def st0 : Ms := ⟨[], [], 0, 0, 0⟩
def st1 : Ms := ⟨[⟨sA, 1, 1, sX⟩], [], 18, 1, 1⟩
def st2 : Ms := ⟨[⟨sA, 1, 1, sX⟩], [⟨sA, sC, 2⟩], 36, 1, 2⟩
theorem lv1 : addM 0 st0 1 1 sA sX = (0, st1) := by kernel_rfl
theorem lv2 : addM 0 st1 2 2 sA sC = (0, st2) := by kernel_rfl
theorem lv3 : getV 0 st2.E st2.R sA 9 (posE 0 st2.E sA 9 2) = (⟨#[]⟩, 2, true) := by decide +kernel
theorem lv4 : getV 0 st2.E st2.R sA 1 (posE 0 st2.E sA 1 2) = (sX, 1, true) := by decide +kernel
theorem up_bel {n : Nat} {w w1 w2 : World} {B : Nat → Prop} (hb : Below n w w1) (hu : Upd B w1 w2) (hB : ∀ k, B k → n ≤ k) (hn : n ≤ w1.heap.size) : Below n w w2 :=
  hb.trans (hu.below (fun k hk => by omega) hB)
theorem tz_keep {w w' : World} {n : Nat} (h : Tz w) (hb : Below n w w') (hn : 2 < n) : Tz w' := fun j hj => by
  obtain ⟨y, y0, y1, hy⟩ := h j hj
  exact ⟨y, y0, y1, (hb.cell (p := ⟨2, j, none⟩) hn).trans hy⟩
theorem rdb_nil (w : World) : RdB w (.slice none 0 0) [] := .inl ⟨rfl, rfl⟩
set_option maxRecDepth 100000 in
set_option maxHeartbeats 1000000 in
theorem lives_any {w : World} (hz : Tz w) (h2 : 2 < w.heap.size) : Calls Tryd.prog 9 #[] w fun e w' => e = .returned (.bool true) ∧ Below w.heap.size w w' := by
  have N0 := new_any (rdb_nil w) (Nat.le_refl 0) (by omega) (by simp) (how := 0) (.inl rfl)
  have A1 : Hid (∀ (w1 : World) (T : Nat), Below w.heap.size w w1 → Tb w1 T (newB w w1) 0 st0 → Calls Tryd.prog 12 #[ptr T, .int .u64 1, recV 0 1 sA sX] w1 fun e w' => e = .returned (.int .i64 0) ∧ Tb w' T (newB w w') 0 st1 ∧ Below w.heap.size w w') := fun w1 T hb ht => by
    have := add_any ht (inv_nil 0) (tz_keep hz hb h2) (fun k hk => hk.2) 1 0 1 sA sX
    rw [lv1] at this
    refine this.mono ?_
    rintro e w' ⟨rfl, h3, h4⟩
    refine ⟨rfl, h3.mono ?_, up_bel hb h4 (fun k hk => hk.1) hb.size⟩
    rintro k (hk | hk)
    · exact ⟨hk.1, Nat.lt_of_lt_of_le hk.2 h4.size⟩
    · exact ⟨Nat.le_trans hb.size hk.1, hk.2⟩
  have i1 : Inv 0 st1 := by have := inv_add (inv_nil 0) (seq := 1) (by omega) 1 sA sX; rw [show addM 0 ⟨[], [], 0, 0, 0⟩ 1 1 sA sX = (0, st1) from lv1] at this; exact this
  have i2 : Inv 0 st2 := by have := inv_add i1 (seq := 2) (by omega) 2 sA sC; rw [lv2] at this; exact this
  have A2 : Hid (∀ (w1 : World) (T : Nat), Below w.heap.size w w1 → Tb w1 T (newB w w1) 0 st1 → Calls Tryd.prog 12 #[ptr T, .int .u64 2, recV 0 2 sA sC] w1 fun e w' => e = .returned (.int .i64 0) ∧ Tb w' T (newB w w') 0 st2 ∧ Below w.heap.size w w') := fun w1 T hb ht => by
    have := add_any ht i1 (tz_keep hz hb h2) (fun k hk => hk.2) 2 0 2 sA sC
    rw [lv2] at this
    refine this.mono ?_
    rintro e w' ⟨rfl, h3, h4⟩
    refine ⟨rfl, h3.mono ?_, up_bel hb h4 (fun k hk => hk.1) hb.size⟩
    rintro k (hk | hk)
    · exact ⟨hk.1, Nat.lt_of_lt_of_le hk.2 h4.size⟩
    · exact ⟨Nat.le_trans hb.size hk.1, hk.2⟩
  have G1 : Hid (∀ (w1 : World) (T : Nat), Tb w1 T (newB w w1) 0 st2 → Calls Tryd.prog 13 #[ptr T, .string sA, .int .u64 9] w1 fun e w' => e = .returned (.tuple #[.string ⟨#[]⟩, .int .i64 2, .bool true]) ∧ Tb w' T (newB w w1) 0 st2 ∧ Below w1.heap.size w1 w') := fun w1 T ht => by
    have := get_tb ht i2 sA 9
    rw [lv3] at this
    exact this.mono fun e w' h => ⟨h.1, ht.below h.2, h.2⟩
  have G2 : Hid (∀ (w1 : World) (T : Nat) (B : Nat → Prop), Tb w1 T B 0 st2 → Calls Tryd.prog 13 #[ptr T, .string sA, .int .u64 1] w1 fun e w' => e = .returned (.tuple #[.string sX, .int .i64 1, .bool true]) ∧ Tb w' T B 0 st2 ∧ Below w1.heap.size w1 w') := fun w1 T B ht => by
    have := get_tb ht i2 sA 1
    rw [lv4] at this
    exact this.mono fun e w' h => ⟨h.1, ht.below h.2, h.2⟩
  have Ln : Hid (∀ (w1 : World) (T : Nat) (B : Nat → Prop), Tb w1 T B 0 st2 → Calls Tryd.prog 18 #[ptr T] w1 fun e w' => e = .returned (.int .i64 2) ∧ Below w1.heap.size w1 w') := fun w1 T B ht => by
    have := tb_len ht (by decide)
    exact this.mono fun e w' h => ⟨h.1, h.2 ▸ (Below.refl _ _).drew⟩
  have Al : Hid (∀ (w1 : World) (T : Nat) (B : Nat → Prop), Tb w1 T B 0 st2 → Calls Tryd.prog 15 #[ptr T, .agg #[.string ⟨#[]⟩, .int .u64 0, .int .i64 0]] w1 fun e w' => (∃ cp, e = .returned (.func (.func 52) #[] cp)) ∧ Tb w' T B 0 st2 ∧ Below w1.heap.size w1 w') := fun w1 T B ht => by
    have hT : T < w1.heap.size := by obtain ⟨C, L, _, _, _, _, _, _, hs, _⟩ := ht.ex; exact hs.tab.lt
    exact (all_any hT _ 0 0).mono fun e w' h => ⟨h.1, ht.below h.2, h.2⟩
  have hnf : ∀ (cp : Array Value) (w : World), (binOp .neq 53 (.func (.func 52) #[] cp) .nilFunc).run Tryd.prog w = .ok (.bool true) w := fun cp w => by kernel_rfl
  have HN0 : Hid (Calls Tryd.prog 7 #[.int .i64 0, .slice none 0 0] w fun e w' => ∃ T, e = .returned (.tuple #[ptr T, .int .i64 0]) ∧ Tb w' T (newB w w') 0 st0 ∧ Below w.heap.size w w' ∧ w.heap.size ≤ T) := N0
  have hsx : sX.toList = [120] := by rw [ByteArray.toList_eq]; rfl
  clear N0 hz h2 i1 i2
  go_enter Tryd.func9, Tryd.ntmps9
  go_wp2_with (first
    | (go_at_call 18; refine (Ln.out _ _ _ t6).mono ?_; rintro e w7 ⟨rfl, b7⟩)
    | (go_at_call 15; refine (Al.out _ _ _ t5).mono ?_; rintro e w6 ⟨⟨cp, rfl⟩, t6, b6⟩)
    | (go_at_call 13; refine (G2.out _ _ _ t4).mono ?_; rintro e w5 ⟨rfl, t5, b5⟩)
    | (go_at_call 13; refine (G1.out _ _ t3).mono ?_; rintro e w4 ⟨rfl, t4, b4⟩)
    | (go_at_call 12; refine (A2.out _ _ b2 t2).mono ?_; rintro e w3 ⟨rfl, t3, b3⟩)
    | (go_at_call 12; refine (A1.out _ _ b1 t1).mono ?_; rintro e w2 ⟨rfl, t2, b2⟩)
    | (go_at_call 7; refine HN0.out.mono ?_; rintro e w1 ⟨T, rfl, t1, b1, _⟩))
  go_ret
  have c4 := b3.trans (b4.mono b3.size)
  have c5 := c4.trans (b5.mono c4.size)
  have c6 := c5.trans (b6.mono c5.size)
  exact ⟨rfl, c6.trans (b7.mono c6.size)⟩
end Go.Proofs.YtocanjefonlnaaaDoor
