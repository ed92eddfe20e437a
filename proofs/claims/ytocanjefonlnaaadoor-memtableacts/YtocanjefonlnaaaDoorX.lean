import Derived.Test.YtocanjefonlnaaaDoorV
namespace Go.Proofs.YtocanjefonlnaaaDoor
open Go.RowKit
set_option linter.unusedVariables false
set_option linter.unusedSimpArgs false
theorem plain_del {k : Int} (h : (k == 0) = true) (v : ByteArray) : plainV k v = ⟨#[]⟩ := by unfold plainV; rw [if_pos (by simpa using h)]
theorem plain_put {k : Int} (h : (k == 0) = false) (v : ByteArray) : plainV k v = v := by unfold plainV; rw [if_neg (by simpa using h)]
/-- The put has said what it said: reckoned, or told. -/
theorem put_there {w : World} {T : Nat} {B : Nat → Prop} {how : Int} {st : Ms} {there : Prop} {E' : List Ent} {R' : List Tm} (h : Tb w T B how st) {W : World} (hb : Below w.heap.size w W) {e : Ending} {w' : World} (hp : PutPost W T B how st.E st.R st.sz st.fi st.la there E' R' e w') (ht : there) :
    e = .returned (.bool false) ∧ AddPost w T B how (7, st) (.returned (.int .i64 7)) w' := by
  rcases hp with ⟨_, h2, h3⟩ | ⟨h1, _⟩
  · exact ⟨h2, AddPost.same h (hb.trans (h3.mono hb.size)) 7⟩
  · exact absurd ht h1
theorem put_new {T : Nat} {B : Nat → Prop} {how : Int} {st : Ms} {there : Prop} {E' : List Ent} {R' : List Tm} {W : World} {e : Ending} {w' : World} (hp : PutPost W T B how st.E st.R st.sz st.fi st.la there E' R' e w') (ht : ¬ there) :
    e = .returned (.bool true) ∧ Tab w' T (grB B W w') how E' R' st.sz st.fi st.la ∧ Upd B W w' := by
  rcases hp with ⟨h1, _⟩ | ⟨_, h2, h3, h4⟩
  · exact absurd h1 ht
  · exact ⟨h2, h3, h4⟩
structure AddHyp (w : World) (T : Nat) (B : Nat → Prop) (how : Int) (st : Ms) (seq f k : Int) (key v : ByteArray) (there : Prop) (E' : List Ent) (R' : List Tm) : Prop where
  tab : Tb w T B how st
  put : ∀ W, Below w.heap.size w W → Calls Tryd.prog 32 #[ptr T, .int .u64 seq, recV f k key v] W (PutPost W T B how st.E st.R st.sz st.fi st.la there E' R')
  own : ∀ k, B k → k < w.heap.size
  le : E'.length ≤ 10000
  lr : R'.length ≤ 10000
  s0 : 0 ≤ st.sz
  s1 : st.sz ≤ 1000000000
  ks : key.size ≤ 100000
  vs : v.size ≤ 100000
theorem AddHyp.reckon {w : World} {T : Nat} {B : Nat → Prop} {how : Int} {st : Ms} {seq f k : Int} {key v : ByteArray} {there : Prop} {E' : List Ent} {R' : List Tm} (H : AddHyp w T B how st seq f k key v there E' R') {W w1 : World} (hb : Below w.heap.size w W)
    (ht : Tab w1 T (grB B W w1) how E' R' st.sz st.fi st.la) (hu : Upd B W w1) : Calls Tryd.prog 33 #[ptr T, .int .u64 seq, recV f k key v] w1 fun e w' => e = .returned (.tuple #[]) ∧ AddPost w T B how (0, st.rk E' R' seq key v) (.returned (.int .i64 0)) w' := by
  refine (reckon_tab ht H.le H.lr H.s0 H.s1 seq f k key v H.ks H.vs).mono ?_
  rintro e w' ⟨rfl, h1, h2⟩
  refine ⟨rfl, rfl, h1.mono ?_, ?_⟩
  · rintro k (hk | ⟨hk1, hk2⟩)
    · exact .inl hk
    · exact .inr ⟨Nat.le_trans hb.size hk1, Nat.lt_of_lt_of_le hk2 h2.size⟩
  · have u1 : Upd B w w1 := ((Upd.refl B w).then (Upd.ofBelow hb) (fun _ _ h => h)).then hu (fun _ _ h => h)
    refine u1.then h2 ?_
    rintro k hk (h | ⟨hk1, _⟩)
    · exact h
    · have := hb.size; omega
set_option maxRecDepth 100000 in
set_option maxHeartbeats 1000000 in
theorem add_there {w : World} {T : Nat} {B : Nat → Prop} {how : Int} {st : Ms} {seq f k : Int} {key val : ByteArray} {there : Prop} {E' : List Ent} {R' : List Tm} (H : AddHyp w T B how st seq f k key (plainV k val) there E' R') (hq : seq ≤ 72057594037927935) (hc : chk k key val = 0) (hn : st.n < 8192) (ht : there) :
    Calls Tryd.prog 12 #[ptr T, .int .u64 seq, recV f k key val] w (AddPost w T B how (7, st)) := by
  have HC := check_any f k key val
  rw [hc] at HC
  have HL : Hid (∀ W, Below w.heap.size w W → Calls Tryd.prog 18 #[ptr T] W fun e w' => e = .returned (.int .i64 (st.n : Nat)) ∧ w' = W.drew) := fun W hb => tb_len (H.tab.below hb) (by omega)
  have HP : Hid (∀ W, Below w.heap.size w W → Calls Tryd.prog 32 #[ptr T, .int .u64 seq, recV f k key (plainV k val)] W fun e w' => e = .returned (.bool false) ∧ AddPost w T B how (7, st) (.returned (.int .i64 7)) w') := fun W hb => (H.put W hb).mono fun e w' hp => put_there H.tab hb hp ht
  have hz : (st.n : Int) < 8192 := by omega
  generalize st.n = N at *
  clear H hc ht
  by_cases hk : k = 0
  · have hkb : (k == 0) = true := by simp [hk]
    rw [plain_del hkb] at HP
    clear hk
    go_enter Tryd.func12, Tryd.ntmps12
    go_wp2_with (first
      | (go_at_call 31; refine (HC _).mono ?_; rintro e w1 ⟨rfl, hb1⟩; have hb2 := ((Below.refl _ w).alloc (Nat.le_refl _) (.cells #[.int .u32 f, .int .i64 k, .string key, .string val] 36)).trans (hb1.mono (by simp)); have B1 := (Blk.new w 36 [.int .u32 f, .int .i64 k, .string key, .string val]).upd (S := Non) (Upd.ofBelow hb1) (fun x => x); have d0 := B1.cell1 0 _ rfl; have d1 := B1.cell1 1 _ rfl; have d2 := B1.cell1 2 _ rfl; have d3 := B1.cell1 3 _ rfl; have df := B1.frozen 3)
      | (go_at_call 18; refine (HL.out _ hb2).mono ?_; rintro e w2 ⟨rfl, hw2⟩; have g0 : w2.cell? ⟨w.heap.size, 0, none⟩ = some (.int .u32 f) := (by rw [hw2]; exact d0); have g1 : w2.cell? ⟨w.heap.size, 1, none⟩ = some (.int .i64 k) := (by rw [hw2]; exact d1); have g2 : w2.cell? ⟨w.heap.size, 2, none⟩ = some (.string key) := (by rw [hw2]; exact d2); have g3 : w2.cell? ⟨w.heap.size, 3, none⟩ = some (.string val) := (by rw [hw2]; exact d3); have gf : w2.frozen? ⟨w.heap.size, 3, none⟩ = false := (by rw [hw2]; exact df); have hb3 : Below w.heap.size w (w2.setCell ⟨w.heap.size, 3, none⟩ (.string ⟨#[]⟩)) := (by rw [hw2]; exact hb2.drew.setCell (Nat.le_refl _) _); clear hw2)
      | (go_at_call 32; refine (HP.out _ hb3).mono ?_; rintro e w3 ⟨rfl, hpost⟩))
    go_ret
    exact hpost
  · have hkb : (k == 0) = false := by simp [hk]
    rw [plain_put hkb] at HP
    clear hk
    go_enter Tryd.func12, Tryd.ntmps12
    go_wp2_with (first
      | (go_at_call 31; refine (HC _).mono ?_; rintro e w1 ⟨rfl, hb1⟩; have hb2 := ((Below.refl _ w).alloc (Nat.le_refl _) (.cells #[.int .u32 f, .int .i64 k, .string key, .string val] 36)).trans (hb1.mono (by simp)); have B1 := (Blk.new w 36 [.int .u32 f, .int .i64 k, .string key, .string val]).upd (S := Non) (Upd.ofBelow hb1) (fun x => x); have d0 := B1.cell1 0 _ rfl; have d1 := B1.cell1 1 _ rfl; have d2 := B1.cell1 2 _ rfl; have d3 := B1.cell1 3 _ rfl; have df := B1.frozen 3)
      | (go_at_call 18; refine (HL.out _ hb2).mono ?_; rintro e w2 ⟨rfl, hw2⟩; have g0 : w2.cell? ⟨w.heap.size, 0, none⟩ = some (.int .u32 f) := (by rw [hw2]; exact d0); have g1 : w2.cell? ⟨w.heap.size, 1, none⟩ = some (.int .i64 k) := (by rw [hw2]; exact d1); have g2 : w2.cell? ⟨w.heap.size, 2, none⟩ = some (.string key) := (by rw [hw2]; exact d2); have g3 : w2.cell? ⟨w.heap.size, 3, none⟩ = some (.string val) := (by rw [hw2]; exact d3); have hb3 : Below w.heap.size w w2 := (by rw [hw2]; exact hb2.drew); clear hw2)
      | (go_at_call 32; refine (HP.out _ hb3).mono ?_; rintro e w3 ⟨rfl, hpost⟩))
    go_ret
    exact hpost
set_option maxRecDepth 100000 in
set_option maxHeartbeats 1000000 in
theorem add_fresh {w : World} {T : Nat} {B : Nat → Prop} {how : Int} {st : Ms} {seq f k : Int} {key val : ByteArray} {there : Prop} {E' : List Ent} {R' : List Tm} (H : AddHyp w T B how st seq f k key (plainV k val) there E' R') (hq : seq ≤ 72057594037927935) (hc : chk k key val = 0) (hn : st.n < 8192) (ht : ¬ there) :
    Calls Tryd.prog 12 #[ptr T, .int .u64 seq, recV f k key val] w (AddPost w T B how (0, st.rk E' R' seq key (plainV k val))) := by
  have HC := check_any f k key val
  rw [hc] at HC
  have HL : Hid (∀ W, Below w.heap.size w W → Calls Tryd.prog 18 #[ptr T] W fun e w' => e = .returned (.int .i64 (st.n : Nat)) ∧ w' = W.drew) := fun W hb => tb_len (H.tab.below hb) (by omega)
  have HP : Hid (∀ W, Below w.heap.size w W → Calls Tryd.prog 32 #[ptr T, .int .u64 seq, recV f k key (plainV k val)] W fun e w' => e = .returned (.bool true) ∧ Tab w' T (grB B W w') how E' R' st.sz st.fi st.la ∧ Upd B W w') := fun W hb => (H.put W hb).mono fun e w' hp => put_new hp ht
  have HRk : Hid (∀ (W w1 : World), Below w.heap.size w W → Tab w1 T (grB B W w1) how E' R' st.sz st.fi st.la → Upd B W w1 → Calls Tryd.prog 33 #[ptr T, .int .u64 seq, recV f k key (plainV k val)] w1 fun e w' => e = .returned (.tuple #[]) ∧ AddPost w T B how (0, st.rk E' R' seq key (plainV k val)) (.returned (.int .i64 0)) w') := fun W w1 hb h1 h2 => H.reckon hb h1 h2
  have HOwn : Hid (¬ B w.heap.size) := fun hh => Nat.lt_irrefl _ (H.own _ hh)
  obtain ⟨RK, hRK⟩ : ∃ RK, st.rk E' R' seq key (plainV k val) = RK := ⟨_, rfl⟩
  rw [hRK] at HRk ⊢
  clear hRK
  have hz : (st.n : Int) < 8192 := by omega
  generalize st.n = N at *
  clear H hc ht
  by_cases hk : k = 0
  · have hkb : (k == 0) = true := by simp [hk]
    rw [plain_del hkb] at HP HRk
    clear hk
    go_enter Tryd.func12, Tryd.ntmps12
    go_wp2_with (first
      | (go_at_call 31; refine (HC _).mono ?_; rintro e w1 ⟨rfl, hb1⟩; have hb2 := ((Below.refl _ w).alloc (Nat.le_refl _) (.cells #[.int .u32 f, .int .i64 k, .string key, .string val] 36)).trans (hb1.mono (by simp)); have B1 := (Blk.new w 36 [.int .u32 f, .int .i64 k, .string key, .string val]).upd (S := Non) (Upd.ofBelow hb1) (fun x => x); have d0 := B1.cell1 0 _ rfl; have d1 := B1.cell1 1 _ rfl; have d2 := B1.cell1 2 _ rfl; have d3 := B1.cell1 3 _ rfl; have df := B1.frozen 3)
      | (go_at_call 18; refine (HL.out _ hb2).mono ?_; rintro e w2 ⟨rfl, hw2⟩; have g0 : w2.cell? ⟨w.heap.size, 0, none⟩ = some (.int .u32 f) := (by rw [hw2]; exact d0); have g1 : w2.cell? ⟨w.heap.size, 1, none⟩ = some (.int .i64 k) := (by rw [hw2]; exact d1); have g2 : w2.cell? ⟨w.heap.size, 2, none⟩ = some (.string key) := (by rw [hw2]; exact d2); have g3 : w2.cell? ⟨w.heap.size, 3, none⟩ = some (.string val) := (by rw [hw2]; exact d3); have gf : w2.frozen? ⟨w.heap.size, 3, none⟩ = false := (by rw [hw2]; exact df); have B3 : Blk (w2.setCell ⟨w.heap.size, 3, none⟩ (.string ⟨#[]⟩)) w.heap.size 36 [.int .u32 f, .int .i64 k, .string key, .string ⟨#[]⟩] := (by rw [hw2]; exact (Blk.drew B1).set 3 _); have hb3 : Below w.heap.size w (w2.setCell ⟨w.heap.size, 3, none⟩ (.string ⟨#[]⟩)) := (by rw [hw2]; exact hb2.drew.setCell (Nat.le_refl _) _); clear hw2)
      | (go_at_call 32; refine (HP.out _ hb3).mono ?_; rintro e w3 ⟨rfl, htab, hupd⟩; have BX := B3.upd hupd HOwn.out; have k0 := BX.cell1 0 _ rfl; have k1 := BX.cell1 1 _ rfl; have k2 := BX.cell1 2 _ rfl; have k3 := BX.cell1 3 _ rfl)
      | (go_at_call 33; refine (HRk.out _ _ hb3 htab hupd).mono ?_; rintro e w4 ⟨rfl, hpost⟩))
    go_ret
    exact hpost
  · have hkb : (k == 0) = false := by simp [hk]
    rw [plain_put hkb] at HP HRk
    clear hk
    go_enter Tryd.func12, Tryd.ntmps12
    go_wp2_with (first
      | (go_at_call 31; refine (HC _).mono ?_; rintro e w1 ⟨rfl, hb1⟩; have hb2 := ((Below.refl _ w).alloc (Nat.le_refl _) (.cells #[.int .u32 f, .int .i64 k, .string key, .string val] 36)).trans (hb1.mono (by simp)); have B1 := (Blk.new w 36 [.int .u32 f, .int .i64 k, .string key, .string val]).upd (S := Non) (Upd.ofBelow hb1) (fun x => x); have d0 := B1.cell1 0 _ rfl; have d1 := B1.cell1 1 _ rfl; have d2 := B1.cell1 2 _ rfl; have d3 := B1.cell1 3 _ rfl; have df := B1.frozen 3)
      | (go_at_call 18; refine (HL.out _ hb2).mono ?_; rintro e w2 ⟨rfl, hw2⟩; have g0 : w2.cell? ⟨w.heap.size, 0, none⟩ = some (.int .u32 f) := (by rw [hw2]; exact d0); have g1 : w2.cell? ⟨w.heap.size, 1, none⟩ = some (.int .i64 k) := (by rw [hw2]; exact d1); have g2 : w2.cell? ⟨w.heap.size, 2, none⟩ = some (.string key) := (by rw [hw2]; exact d2); have g3 : w2.cell? ⟨w.heap.size, 3, none⟩ = some (.string val) := (by rw [hw2]; exact d3); have B3 : Blk w2 w.heap.size 36 [.int .u32 f, .int .i64 k, .string key, .string val] := (by rw [hw2]; exact (Blk.drew B1)); have hb3 : Below w.heap.size w w2 := (by rw [hw2]; exact hb2.drew); clear hw2)
      | (go_at_call 32; refine (HP.out _ hb3).mono ?_; rintro e w3 ⟨rfl, htab, hupd⟩; have BX := B3.upd hupd HOwn.out; have k0 := BX.cell1 0 _ rfl; have k1 := BX.cell1 1 _ rfl; have k2 := BX.cell1 2 _ rfl; have k3 := BX.cell1 3 _ rfl)
      | (go_at_call 33; refine (HRk.out _ _ hb3 htab hupd).mono ?_; rintro e w4 ⟨rfl, hpost⟩))
    go_ret
    exact hpost
end Go.Proofs.YtocanjefonlnaaaDoor
