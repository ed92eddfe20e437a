import Derived.Test.YtocanjefonlnaaaDoorE
import Derived.Laws.StructEq
namespace Go.Proofs.YtocanjefonlnaaaDoor
open Go.RowKit
set_option linter.unusedVariables false
set_option linter.unusedSimpArgs false
theorem bytes_beq (a b : ByteArray) : (a.toList == b.toList) = decide (a = b) := by
  rw [Bool.eq_iff_iff]; simp only [beq_iff_eq, decide_eq_true_eq, ByteArray.toList_eq]; exact ba_eq
set_option maxRecDepth 100000 in
set_option maxHeartbeats 1000000 in
theorem eq_key (W : World) (u u' : ByteArray) (s s' k k' : Int) :
    (binOp .eql 38 (.agg #[.string u, .int .u64 s, .int .i64 k]) (.agg #[.string u', .int .u64 s', .int .i64 k'])).run Tryd.prog W = .ok (.bool (decide (u = u' ∧ s = s' ∧ k = k'))) W := by
  have hf : Tryd.prog.underlying 38 = some (.struct (Tryd.prog.fieldsOf 38)) := by kernel_rfl
  have h1 : ∀ w, (part 9 #[.string u, .int .u64 s, .int .i64 k] 0).run Tryd.prog w = .ok (.string u) w := fun w => by kernel_rfl
  have h2 : ∀ w, (part 33 #[.string u, .int .u64 s, .int .i64 k] 1).run Tryd.prog w = .ok (.int .u64 s) w := fun w => by kernel_rfl
  have h3 : ∀ w, (part 3 #[.string u, .int .u64 s, .int .i64 k] 2).run Tryd.prog w = .ok (.int .i64 k) w := fun w => by kernel_rfl
  have h1' : ∀ w, (part 9 #[.string u', .int .u64 s', .int .i64 k'] 0).run Tryd.prog w = .ok (.string u') w := fun w => by kernel_rfl
  have h2' : ∀ w, (part 33 #[.string u', .int .u64 s', .int .i64 k'] 1).run Tryd.prog w = .ok (.int .u64 s') w := fun w => by kernel_rfl
  have h3' : ∀ w, (part 3 #[.string u', .int .u64 s', .int .i64 k'] 2).run Tryd.prog w = .ok (.int .i64 k') w := fun w => by kernel_rfl
  rw [run_eql_struct, run_equalIn_agg W 9999 38 _ _ hf (by kernel_rfl)]
  have e9 : ∀ w a b, (Op.equalIn 9999 9 (.string a) (.string b)).run Tryd.prog w = .ok (a.toList == b.toList) w := fun w a b => run_equalIn_string w 9998 9 a b Tryd.underlying9
  have e33 : ∀ w a b, (Op.equalIn 9999 33 (.int .u64 a) (.int .u64 b)).run Tryd.prog w = .ok (a == b) w := fun w a b => run_equalIn_int w 9998 33 .u64 .u64 a b Tryd.underlying33
  have e3 : ∀ w a b, (Op.equalIn 9999 3 (.int .i64 a) (.int .i64 b)).run Tryd.prog w = .ok (a == b) w := fun w a b => run_equalIn_int w 9998 3 .i64 .i64 a b Tryd.underlying3
  simp only [Program.fieldsOf, Tryd.underlying38, Op.eqFields, Sem.run_bind, Sem.run_ite, Sem.run_pure, h1, h2, h3, h1', h2', h3', e9, e33, e3, Result.andThen_ok, bytes_beq]
  by_cases a : u = u' <;> by_cases b : s = s' <;> by_cases c : k = k' <;> simp [a, b, c, Result.andThen]
end Go.Proofs.YtocanjefonlnaaaDoor
