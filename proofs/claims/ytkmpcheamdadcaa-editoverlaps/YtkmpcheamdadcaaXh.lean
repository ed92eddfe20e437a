/-
  Both sides' Overlaps in one post; a table is equal to itself.
-/
import Derived.Test.YtkmpcheamdadcaaXg
import Derived.Test.YtkmpcheamdadcaaWc
import Derived.Laws.StructEq
namespace Go.Proofs.Ytkmpcheamdadcaa
open Go.RowKit
set_option linter.unusedVariables false
set_option linter.unusedSimpArgs false
theorem str_self (a : ByteArray) : (a.toList == a.toList) = true := by simp
set_option maxRecDepth 100000 in
set_option maxHeartbeats 1000000 in
theorem eqk_self (k : Ky) (W : World) : (Op.equalIn 9999 48 (.agg #[.string k.u, .int .u64 k.s, .int .i64 k.k]) (.agg #[.string k.u, .int .u64 k.s, .int .i64 k.k])).run Try.prog W = .ok true W := by
  have hf : Try.prog.underlying 48 = some (.struct (Try.prog.fieldsOf 48)) := by kernel_rfl
  have h1 : ∀ w, (part 9 #[.string k.u, .int .u64 k.s, .int .i64 k.k] 0).run Try.prog w = .ok (.string k.u) w := fun w => by kernel_rfl
  have h2 : ∀ w, (part 23 #[.string k.u, .int .u64 k.s, .int .i64 k.k] 1).run Try.prog w = .ok (.int .u64 k.s) w := fun w => by kernel_rfl
  have h3 : ∀ w, (part 3 #[.string k.u, .int .u64 k.s, .int .i64 k.k] 2).run Try.prog w = .ok (.int .i64 k.k) w := fun w => by kernel_rfl
  rw [run_equalIn_agg W 9998 48 _ _ hf (by kernel_rfl)]
  have e9 : ∀ w a b, (Op.equalIn 9998 9 (.string a) (.string b)).run Try.prog w = .ok (a.toList == b.toList) w := fun w a b => run_equalIn_string w 9997 9 a b Try.underlying9
  have e23 : ∀ w a b, (Op.equalIn 9998 23 (.int .u64 a) (.int .u64 b)).run Try.prog w = .ok (a == b) w := fun w a b => run_equalIn_int w 9997 23 .u64 .u64 a b Try.underlying23
  have e3 : ∀ w a b, (Op.equalIn 9998 3 (.int .i64 a) (.int .i64 b)).run Try.prog w = .ok (a == b) w := fun w a b => run_equalIn_int w 9997 3 .i64 .i64 a b Try.underlying3
  simp only [Program.fieldsOf, Try.underlying48, Op.eqFields, Sem.run_bind, Sem.run_ite, Sem.run_pure, h1, h2, h3, e9, e23, e3, Result.andThen_ok]
  simp [Result.andThen]
set_option maxRecDepth 100000 in
set_option maxHeartbeats 1000000 in
theorem eqf_self (f : Fi) (W : World) : (binOp .eql 50 f.v f.v).run Try.prog W = .ok (.bool true) W := by
  have hf : Try.prog.underlying 50 = some (.struct (Try.prog.fieldsOf 50)) := by kernel_rfl
  have h1 : ∀ w, (part 23 #[.int .u64 f.num, .int .u64 f.size, .string f.sm.u, .int .u64 f.sm.s, .int .i64 f.sm.k, .string f.la.u, .int .u64 f.la.s, .int .i64 f.la.k, .int .u64 f.ents, .int .u64 f.rngs] 0).run Try.prog w = .ok (.int .u64 f.num) w := fun w => by kernel_rfl
  have h2 : ∀ w, (part 23 #[.int .u64 f.num, .int .u64 f.size, .string f.sm.u, .int .u64 f.sm.s, .int .i64 f.sm.k, .string f.la.u, .int .u64 f.la.s, .int .i64 f.la.k, .int .u64 f.ents, .int .u64 f.rngs] 1).run Try.prog w = .ok (.int .u64 f.size) w := fun w => by kernel_rfl
  have h3 : ∀ w, (part 48 #[.int .u64 f.num, .int .u64 f.size, .string f.sm.u, .int .u64 f.sm.s, .int .i64 f.sm.k, .string f.la.u, .int .u64 f.la.s, .int .i64 f.la.k, .int .u64 f.ents, .int .u64 f.rngs] 2).run Try.prog w = .ok (.agg #[.string f.sm.u, .int .u64 f.sm.s, .int .i64 f.sm.k]) w := fun w => by kernel_rfl
  have h4 : ∀ w, (part 48 #[.int .u64 f.num, .int .u64 f.size, .string f.sm.u, .int .u64 f.sm.s, .int .i64 f.sm.k, .string f.la.u, .int .u64 f.la.s, .int .i64 f.la.k, .int .u64 f.ents, .int .u64 f.rngs] 5).run Try.prog w = .ok (.agg #[.string f.la.u, .int .u64 f.la.s, .int .i64 f.la.k]) w := fun w => by kernel_rfl
  have h5 : ∀ w, (part 23 #[.int .u64 f.num, .int .u64 f.size, .string f.sm.u, .int .u64 f.sm.s, .int .i64 f.sm.k, .string f.la.u, .int .u64 f.la.s, .int .i64 f.la.k, .int .u64 f.ents, .int .u64 f.rngs] 8).run Try.prog w = .ok (.int .u64 f.ents) w := fun w => by kernel_rfl
  have h6 : ∀ w, (part 23 #[.int .u64 f.num, .int .u64 f.size, .string f.sm.u, .int .u64 f.sm.s, .int .i64 f.sm.k, .string f.la.u, .int .u64 f.la.s, .int .i64 f.la.k, .int .u64 f.ents, .int .u64 f.rngs] 9).run Try.prog w = .ok (.int .u64 f.rngs) w := fun w => by kernel_rfl
  rw [run_eql_struct, run_equalIn_agg W 9999 50 _ _ hf (by kernel_rfl)]
  have e23 : ∀ w a, (Op.equalIn 9999 23 (.int .u64 a) (.int .u64 a)).run Try.prog w = .ok true w := fun w a => by rw [run_equalIn_int w 9998 23 .u64 .u64 a a Try.underlying23]; simp
  have e48 := fun w => eqk_self f.sm w
  have e49 := fun w => eqk_self f.la w
  have hF : Try.prog.fieldsOf 50 = Try.prog.fieldsOf 50 := rfl
  simp only [Program.fieldsOf, Try.underlying50, Op.eqFields, Sem.run_bind, Sem.run_ite, Sem.run_pure, h1, h2, h3, h4, h5, h6, e23, e48, e49, Result.andThen_ok]
  simp [Result.andThen]
theorem neqf_self (f : Fi) (W : World) : (binOp .neq 50 f.v f.v).run Try.prog W = .ok (.bool false) W := by
  have := eqf_self f W
  simp only [binOp] at *
  simp only [Sem.run_bind, Sem.run_pure, Sem.run_map] at *
  generalize Sem.run Try.prog (Op.equal 50 f.v f.v) W = r at *
  cases r <;> simp_all [Result.andThen]
/-- What Overlaps tells, of either side. -/
def ovC (how lv : Int) : Int := if (isLvB lv && isHowB how) = true then 0 else 1
def ovL (how lv : Int) (L : Nat → List Fi) (b en : ByteArray) : List Fi := if (isLvB lv && isHowB how) = true then pickN (L lv.toNat) (ovT how lv.toNat (L lv.toNat) b en) (L lv.toNat).length else []
/-- A told level, in memory. -/
def OvAll (w : World) (how lv : Int) (L : Nat → List Fi) (b en : ByteArray) (e : Ending) (w' : World) : Prop :=
  ∃ a c, e = .returned (.tuple #[.slice a (ovL how lv L b en).length c, .int .i64 (ovC how lv)]) ∧ Below w.heap.size w w' ∧ RdF w' a (ovL how lv L b en)
theorem OvPost.all {w : World} {how : Int} {lv : Nat} {L : Nat → List Fi} {b en : ByteArray} {e : Ending} {w' : World} (hv : (isLvB (lv : Int) && isHowB how) = true) (h : OvPost w how lv (L lv) b en e w') : OvAll w how lv L b en e w' := by
  obtain ⟨v, rfl, h1, h2⟩ := h
  obtain ⟨a, c, rfl, _, h3, _⟩ := row_rd fi_k h2
  unfold OvAll ovL ovC
  rw [if_pos hv, if_pos hv]
  exact ⟨a, c, rfl, h1, h3⟩
theorem ovl_len {w : World} {V : Vn} {L : Nat → List Fi} (h : RdV w V L) (how lv : Int) (b en : ByteArray) : (ovL how lv L b en).length * 96 ≤ 140737488355328 := by
  unfold ovL
  split
  · next hv =>
    simp only [Bool.and_eq_true] at hv
    obtain ⟨k, rfl, hk⟩ := isLv_nat hv.1
    have := h.len k hk
    have := pick_len (L k) (ovT how k (L k) b en) (L k).length
    simp only [Int.toNat_natCast]
    omega
  · simp
theorem overlaps_any {w : World} {V : Vn} {L : Nat → List Fi} (h : RdV w V L) (how lv : Int) (b en : ByteArray) : Calls Try.prog 30 #[.int .i64 how, .agg (verA V L), .int .i64 lv, .string b, .string en] w (OvAll w how lv L b en) := by
  cases hv : (isLvB lv && isHowB how)
  · refine (overlaps_no how lv b en hv).mono ?_
    rintro e w' ⟨rfl, hb⟩
    refine ⟨none, 0, ?_, hb, ?_⟩ <;> (unfold ovL; try unfold ovC) <;> rw [hv]
    · rfl
    · exact .inl rfl
  · have hv' := hv
    simp only [Bool.and_eq_true] at hv'
    obtain ⟨k, rfl, hk⟩ := isLv_nat hv'.1
    exact (overlaps_yes h k hk how b en hv'.2).mono fun e w' hp => hp.all hv
theorem roverlaps_any {w : World} {V : Vn} {L : Nat → List Fi} (h : RdV w V L) (how lv : Int) (b en : ByteArray) : Calls Try.prog 31 #[.int .i64 how, .agg (verA V L), .int .i64 lv, .string b, .string en] w (OvAll w how lv L b en) := by
  cases hv : (isLvB lv && isHowB how)
  · refine (roverlaps_no how lv b en hv).mono ?_
    rintro e w' ⟨rfl, hb⟩
    refine ⟨none, 0, ?_, hb, ?_⟩ <;> (unfold ovL; try unfold ovC) <;> rw [hv]
    · rfl
    · exact .inl rfl
  · have hv' := hv
    simp only [Bool.and_eq_true] at hv'
    obtain ⟨k, rfl, hk⟩ := isLv_nat hv'.1
    exact (roverlaps_yes h k hk how b en hv'.2).mono fun e w' hp => hp.all hv
end Go.Proofs.Ytkmpcheamdadcaa
