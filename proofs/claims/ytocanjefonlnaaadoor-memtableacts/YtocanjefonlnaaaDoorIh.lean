/-
  The reference's Add.
-/
import Derived.Test.YtocanjefonlnaaaDoorIg
import Derived.Test.YtocanjefonlnaaaDoorIc
import Derived.Test.YtocanjefonlnaaaDoorIb
import Derived.Test.YtocanjefonlnaaaDoorHd
import Derived.Test.YtocanjefonlnaaaDoorZa
import Derived.Deep.RegionHeldLaw
import Derived.BigQuiet
import Derived.Deep.LoopGhost
import Derived.Lib.AppendZeros
namespace Go.Proofs.YtocanjefonlnaaaDoor
open Go.RowKit
set_option linter.unusedVariables false
set_option linter.unusedSimpArgs false
/-- The reference's table, with its room. -/
structure Rq (w : World) (D : Nat) (how : Int) (E : List Ent) (R : List Tm) (sz : Int) (Bad : Nat → Prop) : Prop where
  ex : ∃ la lc ta tc, Rt w D how E R sz la lc ta tc ∧ E.length ≤ lc ∧ R.length ≤ tc ∧ (la = none → E = [] ∧ lc = 0) ∧ (ta = none → R = [] ∧ tc = 0) ∧ (∀ g o, la = some ⟨g, o, none⟩ → E ≠ [] → ¬ Bad g) ∧ (∀ g o, ta = some ⟨g, o, none⟩ → R ≠ [] → ¬ Bad g)
theorem Rq.below {w w' : World} {D : Nat} {how : Int} {E : List Ent} {R : List Tm} {sz : Int} {Bad : Nat → Prop} (h : Rq w D how E R sz Bad) (hb : Below w.heap.size w w') : Rq w' D how E R sz Bad := by
  obtain ⟨la, lc, ta, tc, h1, h2⟩ := h.ex
  exact ⟨la, lc, ta, tc, h1.below hb, h2⟩
def RAdd (w : World) (D : Nat) (how : Int) (Bad : Nat → Prop) (r : Int × Ms) (e : Ending) (w' : World) : Prop := e = .returned (.int .i64 r.1) ∧ Rq w' D how r.2.E r.2.R r.2.sz Bad ∧ Upd (fun b => b = D) w w'
theorem RAdd.same {w w' : World} {D : Nat} {how : Int} {Bad : Nat → Prop} {st : Ms} (h : Rq w D how st.E st.R st.sz Bad) (hb : Below w.heap.size w w') (r : Int) : RAdd w D how Bad (r, st) (.returned (.int .i64 r)) w' := ⟨rfl, h.below hb, Upd.ofBelow hb⟩
set_option maxRecDepth 100000 in
set_option maxHeartbeats 1000000 in
theorem radd_seq {w : World} {D : Nat} {how : Int} {Bad : Nat → Prop} {st : Ms} (h : Rq w D how st.E st.R st.sz Bad) (seq f k : Int) (key val : ByteArray) (hq : 72057594037927935 < seq) :
    Calls Tryd.prog 23 #[ptr D, .int .u64 seq, recV f k key val] w (RAdd w D how Bad (1, st)) := by
  have HP : Hid (∀ W, Below w.heap.size w W → RAdd w D how Bad (1, st) (.returned (.int .i64 1)) W) := fun W hb => RAdd.same h hb 1
  clear h
  go_enter Tryd.func23, Tryd.ntmps23
  go_wp2_with fail
  go_ret
  exact HP.out _ ((Below.refl _ _).alloc (Nat.le_refl _) _)
set_option maxRecDepth 100000 in
set_option maxHeartbeats 1000000 in
theorem radd_chk {w : World} {D : Nat} {how : Int} {Bad : Nat → Prop} {st : Ms} (h : Rq w D how st.E st.R st.sz Bad) (seq f k : Int) (key val : ByteArray) (hv : val.size ≤ 9223372036854775807) (hq : seq ≤ 72057594037927935) (hc : ¬ chk k key val = 0) :
    Calls Tryd.prog 23 #[ptr D, .int .u64 seq, recV f k key val] w (RAdd w D how Bad (chk k key val, st)) := by
  have HP : Hid (∀ W, Below w.heap.size w W → RAdd w D how Bad (chk k key val, st) (.returned (.int .i64 (chk k key val))) W) := fun W hb => RAdd.same h hb _
  have HC := fun W => rcheck_any f k key val W hv
  have hcb : (chk k key val != 0) = true := by simpa using hc
  clear h hc
  generalize chk k key val = c at *
  go_enter Tryd.func23, Tryd.ntmps23
  go_wp2_with (go_at_call 39; refine (HC _).mono ?_; rintro e w1 ⟨rfl, hb1⟩)
  go_ret
  exact HP.out _ (((Below.refl _ _).alloc (Nat.le_refl _) _).trans (hb1.mono (by simp)))
set_option maxRecDepth 100000 in
set_option maxHeartbeats 1000000 in
theorem radd_full {w : World} {D : Nat} {how : Int} {Bad : Nat → Prop} {st : Ms} (h : Rq w D how st.E st.R st.sz Bad) (seq f k : Int) (key val : ByteArray) (hv : val.size ≤ 9223372036854775807) (hq : seq ≤ 72057594037927935) (hc : chk k key val = 0) (hn : 8192 ≤ st.n) (hn2 : st.n ≤ 9000) :
    Calls Tryd.prog 23 #[ptr D, .int .u64 seq, recV f k key val] w (RAdd w D how Bad (2, st)) := by
  have HP : Hid (∀ W, Below w.heap.size w W → RAdd w D how Bad (2, st) (.returned (.int .i64 2)) W) := fun W hb => RAdd.same h hb _
  have HC := fun W => rcheck_any f k key val W hv
  rw [hc] at HC
  obtain ⟨la, lc, ta, tc, hR, hlc, htc, hl0, ht0, hBl, hBt⟩ := h.ex
  unfold Ms.n at hn hn2
  obtain ⟨N, hN⟩ : ∃ N, st.E.length = N := ⟨_, rfl⟩
  obtain ⟨M, hM⟩ : ∃ M, st.R.length = M := ⟨_, rfl⟩
  have HB : Hid (∀ W, Below w.heap.size w W → W.cell? ⟨D, 1, none⟩ = some (.slice la N lc) ∧ W.cell? ⟨D, 2, none⟩ = some (.slice ta M tc)) := fun W hW => by
    have hb := (hR.below hW).blk
    rw [hN, hM] at hb
    exact ⟨hb.cell1 1 _ rfl, hb.cell1 2 _ rfl⟩
  rw [hN, hM] at hn hn2
  clear h hc hR hlc htc hl0 ht0 hN hM
  have hz : (8192 : Int) ≤ (N : Int) + M := by omega
  go_enter Tryd.func23, Tryd.ntmps23
  go_wp2_with (go_at_call 39; refine (HC _).mono ?_; rintro e w1 ⟨rfl, hb1⟩; have hb2 : Below w.heap.size w w1 := ((Below.refl _ w).alloc (Nat.le_refl _) (.cells #[.int .u32 f, .int .i64 k, .string key, .string val] 36)).trans (hb1.mono (by simp)); obtain ⟨c1, c2⟩ := HB.out _ hb2)
  first | go_quiet (fail) | go_big_quiet (fail)
  go_wp2_with fail
  go_ret
  exact HP.out _ (hb2.trans ⟨rfl, rfl, rfl, Nat.le_refl _, fun _ _ => rfl⟩)
end Go.Proofs.YtocanjefonlnaaaDoor
