import Derived.Test.YtocanjefonlnaaaDoorU
namespace Go.Proofs.YtocanjefonlnaaaDoor
open Go.RowKit
set_option linter.unusedVariables false
set_option linter.unusedSimpArgs false
/-- What a table holds. -/
structure Ms where
  E : List Ent
  R : List Tm
  sz : Int
  fi : Int
  la : Int
def posE (how : Int) (E : List Ent) (U : ByteArray) (S K : Int) : Nat := (E.takeWhile fun e => decide (okey how e U S K < 0)).length
def posT (how : Int) (R : List Tm) (x : Tm) : Nat := (R.takeWhile fun t => decide (tord how t x < 0)).length
def eisB (E : List Ent) (p : Nat) (x : Ent) : Bool := match E[p]? with | some n => decide (n.u = x.u ∧ n.s = x.s ∧ n.k = x.k) | none => false
theorem eis_iff (E : List Ent) (p : Nat) (x : Ent) : eis E p x ↔ eisB E p x = true := by
  unfold eis eisB ekey
  cases e : E[p]? with
  | none => simp
  | some n => simp
def Ms.n (st : Ms) : Nat := st.E.length + st.R.length
/-- A record counted in. -/
def Ms.rk (st : Ms) (E' : List Ent) (R' : List Tm) (seq : Int) (key val : ByteArray) : Ms :=
  ⟨E', R', st.sz + (key.size + val.size + 16), min (if (E'.length : Int) + R'.length = 1 then seq else st.fi) seq, max st.la seq⟩
def plainV (k : Int) (val : ByteArray) : ByteArray := if k = 0 then ⟨#[]⟩ else val
/-- Add's answer, and what the table holds behind it. -/
def addM (how : Int) (st : Ms) (seq k : Int) (key val : ByteArray) : Int × Ms :=
  if 72057594037927935 < seq then (1, st) else if ¬ chk k key val = 0 then (chk k key val, st) else if 8192 ≤ st.n then (2, st)
  else if k = 2 then (if tis how st.R ⟨key, val, seq⟩ (posT how st.R ⟨key, val, seq⟩) = true then (7, st) else (0, st.rk st.E (tins st.R (posT how st.R ⟨key, val, seq⟩) ⟨key, val, seq⟩) seq key val))
  else (if eisB st.E (posE how st.E key seq k) ⟨key, seq, k, plainV k val⟩ = true then (7, st) else (0, st.rk (eins st.E (posE how st.E key seq k) ⟨key, seq, k, plainV k val⟩) st.R seq key (plainV k val)))
abbrev Tb (w : World) (T : Nat) (B : Nat → Prop) (how : Int) (st : Ms) : Prop := Tab w T B how st.E st.R st.sz st.fi st.la
theorem reckon_tab {w : World} {T : Nat} {B : Nat → Prop} {how : Int} {E : List Ent} {R : List Tm} {sz fi la : Int} (h : Tab w T B how E R sz fi la) (hE : E.length ≤ 10000) (hR : R.length ≤ 10000) (s0 : 0 ≤ sz) (s1 : sz ≤ 1000000000)
    (seq f k : Int) (key val : ByteArray) (hk : key.size ≤ 100000) (hv : val.size ≤ 100000) :
    Calls Tryd.prog 33 #[ptr T, .int .u64 seq, recV f k key val] w fun e w' => e = .returned (.tuple #[]) ∧ Tab w' T B how E R (sz + (key.size + val.size + 16)) (min (if (E.length : Int) + R.length = 1 then seq else fi) seq) (max la seq) ∧ Upd B w w' := by
  obtain ⟨C, L, rfl, rfl, rfl, rfl, hcnt, rfl, hS, hRow, hH, b1, b2, b3, b4⟩ := h.ex
  refine (reckon_any hS.tab hRow hR (by omega) (by omega) s0 s1 seq f k key val hk hv).mono ?_
  rintro e w' ⟨rfl, hT, hU⟩
  have nS : ∀ m ∈ L, m.b ≠ T ∧ m.x ≠ T := fun m hm => by
    obtain ⟨i, hi⟩ := List.mem_iff_getElem?.1 hm
    exact ⟨(hS.nod i m hi).ne hS.tab (by decide), (hS.lnk i m hi).ne hS.tab (by decide)⟩
  refine ⟨rfl, ⟨{ C with sz := C.sz + (key.size + val.size + 16), fi := min (if C.cnt + R.length = 1 then seq else C.fi) seq, la := max C.la seq }, L, rfl, rfl, by rw [← hcnt], rfl, hcnt, rfl, ⟨hT, fun i n hn => (hS.nod i n hn).upd hU (nS n (List.mem_of_getElem? hn)).1, fun i n hn => (hS.lnk i n hn).upd hU (nS n (List.mem_of_getElem? hn)).2, hS.hgt, hS.injb, hS.injx, hS.brn⟩, row_upd hRow hU (fun k hk => row_ne hRow hS.tab (by decide) k hk), hH.upd hU (fun k hk e => (b4 k hk).2.1 (.inl e)), b1, b2, b3, fun k hk => ⟨Nat.lt_of_lt_of_le (b4 k hk).1 hU.size, (b4 k hk).2⟩⟩, hU.mono (fun k _ e => b1 k (.inl e))⟩
/-- What Add leaves. -/
def AddPost (w : World) (T : Nat) (B : Nat → Prop) (how : Int) (r : Int × Ms) (e : Ending) (w' : World) : Prop := e = .returned (.int .i64 r.1) ∧ Tb w' T (grB B w w') how r.2 ∧ Upd B w w'
theorem AddPost.same {w w' : World} {T : Nat} {B : Nat → Prop} {how : Int} {st : Ms} (h : Tb w T B how st) (hb : Below w.heap.size w w') (r : Int) : AddPost w T B how (r, st) (.returned (.int .i64 r)) w' :=
  ⟨rfl, (h.below hb).mono (fun k hk => .inl hk), Upd.ofBelow hb⟩
set_option maxRecDepth 100000 in
set_option maxHeartbeats 1000000 in
theorem add_seq {w : World} {T : Nat} {B : Nat → Prop} {how : Int} {st : Ms} (h : Tb w T B how st) (seq f k : Int) (key val : ByteArray) (hq : 72057594037927935 < seq) :
    Calls Tryd.prog 12 #[ptr T, .int .u64 seq, recV f k key val] w (AddPost w T B how (1, st)) := by
  have HP : Hid (∀ W, Below w.heap.size w W → AddPost w T B how (1, st) (.returned (.int .i64 1)) W) := fun W hb => AddPost.same h hb 1
  clear h
  go_enter Tryd.func12, Tryd.ntmps12
  go_wp2_with fail
  go_ret
  exact HP.out _ ((Below.refl _ _).alloc (Nat.le_refl _) _)
set_option maxRecDepth 100000 in
set_option maxHeartbeats 1000000 in
theorem add_chk {w : World} {T : Nat} {B : Nat → Prop} {how : Int} {st : Ms} (h : Tb w T B how st) (seq f k : Int) (key val : ByteArray) (hq : seq ≤ 72057594037927935) (hc : ¬ chk k key val = 0) :
    Calls Tryd.prog 12 #[ptr T, .int .u64 seq, recV f k key val] w (AddPost w T B how (chk k key val, st)) := by
  have HP : Hid (∀ W, Below w.heap.size w W → AddPost w T B how (chk k key val, st) (.returned (.int .i64 (chk k key val))) W) := fun W hb => AddPost.same h hb _
  have HC := check_any f k key val
  have hcb : (chk k key val != 0) = true := by simpa using hc
  clear h hc
  generalize chk k key val = c at *
  go_enter Tryd.func12, Tryd.ntmps12
  go_wp2_with (go_at_call 31; refine (HC _).mono ?_; rintro e w1 ⟨rfl, hb1⟩)
  go_ret
  exact HP.out _ (((Below.refl _ _).alloc (Nat.le_refl _) _).trans (hb1.mono (by simp)))
theorem tb_len {w : World} {T : Nat} {B : Nat → Prop} {how : Int} {st : Ms} (h : Tb w T B how st) (hn : st.n ≤ 9000) : Calls Tryd.prog 18 #[ptr T] w fun e w' => e = .returned (.int .i64 (st.n : Nat)) ∧ w' = w.drew := by
  obtain ⟨C, L, _, _, _, _, hcnt, _, hS, hRow, _⟩ := h.ex
  unfold Ms.n at *
  have := len_any hS.tab hRow (by omega) (by omega) (by omega)
  rw [hcnt, show ((st.E.length : Int) + st.R.length) = ((st.E.length + st.R.length : Nat) : Int) by omega] at this
  exact this
set_option maxRecDepth 100000 in
set_option maxHeartbeats 1000000 in
theorem add_full {w : World} {T : Nat} {B : Nat → Prop} {how : Int} {st : Ms} (h : Tb w T B how st) (seq f k : Int) (key val : ByteArray) (hq : seq ≤ 72057594037927935) (hc : chk k key val = 0) (hn : 8192 ≤ st.n) (hn2 : st.n ≤ 9000) :
    Calls Tryd.prog 12 #[ptr T, .int .u64 seq, recV f k key val] w (AddPost w T B how (2, st)) := by
  have HP : Hid (∀ W, Below w.heap.size w W → AddPost w T B how (2, st) (.returned (.int .i64 2)) W) := fun W hb => AddPost.same h hb _
  have HC := check_any f k key val
  rw [hc] at HC
  have HL : Hid (∀ W, Below w.heap.size w W → Calls Tryd.prog 18 #[ptr T] W fun e w' => e = .returned (.int .i64 (st.n : Nat)) ∧ w' = W.drew) := fun W hb => tb_len (h.below hb) hn2
  have hz : (8192 : Int) ≤ (st.n : Int) := by omega
  generalize st.n = N at *
  clear h hc
  go_enter Tryd.func12, Tryd.ntmps12
  go_wp2_with (first
    | (go_at_call 31; refine (HC _).mono ?_; rintro e w1 ⟨rfl, hb1⟩; have hb2 := ((Below.refl _ w).alloc (Nat.le_refl _) (.cells #[.int .u32 f, .int .i64 k, .string key, .string val] 36)).trans (hb1.mono (by simp)))
    | (go_at_call 18; refine (HL.out _ hb2).mono ?_; rintro e w2 ⟨rfl, hw2⟩))
  go_ret
  exact HP.out _ (hw2 ▸ hb2.drew)
end Go.Proofs.YtocanjefonlnaaaDoor
