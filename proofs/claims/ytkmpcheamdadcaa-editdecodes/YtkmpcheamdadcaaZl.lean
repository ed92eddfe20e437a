/-
  Two edits held against each other by what they say of other things than tables.
-/
import Derived.Test.YtkmpcheamdadcaaZk
import Derived.Test.YtkmpcheamdadcaaZj
namespace Go.Proofs.Ytkmpcheamdadcaa
open Go.RowKit
set_option linter.unusedVariables false
set_option linter.unusedSimpArgs false
def seq75 (p q : Ed) : Bool := ((p.fam == q.fam) && ((p.ma == q.ma) && ((p.dr == q.dr) && ((p.name.toList == q.name.toList) && ((p.how == q.how) && ((p.hl == q.hl) && ((p.hn == q.hn) && ((p.hs == q.hs) && ((p.log == q.log) && ((p.next == q.next) && (p.seq == q.seq)))))))))))
set_option maxRecDepth 100000 in
set_option maxHeartbeats 4000000 in
theorem eqs_any (p q : Ed) (W : World) : (binOp .eql 75 (.agg (saiA p)) (.agg (saiA q))).run Try.prog W = .ok (.bool (seq75 p q)) W := by
  have hf : Try.prog.underlying 75 = some (.struct (Try.prog.fieldsOf 75)) := by kernel_rfl
  have h0 : ∀ (p : Ed) w, (part 22 #[.int .u32 p.fam, .bool p.ma, .bool p.dr, .string p.name, .int .i64 p.how, .bool p.hl, .bool p.hn, .bool p.hs, .int .u64 p.log, .int .u64 p.next, .int .u64 p.seq] 0).run Try.prog w = .ok (.int .u32 p.fam) w := fun p w => by kernel_rfl
  have h1 : ∀ (p : Ed) w, (part 4 #[.int .u32 p.fam, .bool p.ma, .bool p.dr, .string p.name, .int .i64 p.how, .bool p.hl, .bool p.hn, .bool p.hs, .int .u64 p.log, .int .u64 p.next, .int .u64 p.seq] 1).run Try.prog w = .ok (.bool p.ma) w := fun p w => by kernel_rfl
  have h2 : ∀ (p : Ed) w, (part 4 #[.int .u32 p.fam, .bool p.ma, .bool p.dr, .string p.name, .int .i64 p.how, .bool p.hl, .bool p.hn, .bool p.hs, .int .u64 p.log, .int .u64 p.next, .int .u64 p.seq] 2).run Try.prog w = .ok (.bool p.dr) w := fun p w => by kernel_rfl
  have h3 : ∀ (p : Ed) w, (part 9 #[.int .u32 p.fam, .bool p.ma, .bool p.dr, .string p.name, .int .i64 p.how, .bool p.hl, .bool p.hn, .bool p.hs, .int .u64 p.log, .int .u64 p.next, .int .u64 p.seq] 3).run Try.prog w = .ok (.string p.name) w := fun p w => by kernel_rfl
  have h4 : ∀ (p : Ed) w, (part 3 #[.int .u32 p.fam, .bool p.ma, .bool p.dr, .string p.name, .int .i64 p.how, .bool p.hl, .bool p.hn, .bool p.hs, .int .u64 p.log, .int .u64 p.next, .int .u64 p.seq] 4).run Try.prog w = .ok (.int .i64 p.how) w := fun p w => by kernel_rfl
  have h5 : ∀ (p : Ed) w, (part 4 #[.int .u32 p.fam, .bool p.ma, .bool p.dr, .string p.name, .int .i64 p.how, .bool p.hl, .bool p.hn, .bool p.hs, .int .u64 p.log, .int .u64 p.next, .int .u64 p.seq] 5).run Try.prog w = .ok (.bool p.hl) w := fun p w => by kernel_rfl
  have h6 : ∀ (p : Ed) w, (part 4 #[.int .u32 p.fam, .bool p.ma, .bool p.dr, .string p.name, .int .i64 p.how, .bool p.hl, .bool p.hn, .bool p.hs, .int .u64 p.log, .int .u64 p.next, .int .u64 p.seq] 6).run Try.prog w = .ok (.bool p.hn) w := fun p w => by kernel_rfl
  have h7 : ∀ (p : Ed) w, (part 4 #[.int .u32 p.fam, .bool p.ma, .bool p.dr, .string p.name, .int .i64 p.how, .bool p.hl, .bool p.hn, .bool p.hs, .int .u64 p.log, .int .u64 p.next, .int .u64 p.seq] 7).run Try.prog w = .ok (.bool p.hs) w := fun p w => by kernel_rfl
  have h8 : ∀ (p : Ed) w, (part 23 #[.int .u32 p.fam, .bool p.ma, .bool p.dr, .string p.name, .int .i64 p.how, .bool p.hl, .bool p.hn, .bool p.hs, .int .u64 p.log, .int .u64 p.next, .int .u64 p.seq] 8).run Try.prog w = .ok (.int .u64 p.log) w := fun p w => by kernel_rfl
  have h9 : ∀ (p : Ed) w, (part 23 #[.int .u32 p.fam, .bool p.ma, .bool p.dr, .string p.name, .int .i64 p.how, .bool p.hl, .bool p.hn, .bool p.hs, .int .u64 p.log, .int .u64 p.next, .int .u64 p.seq] 9).run Try.prog w = .ok (.int .u64 p.next) w := fun p w => by kernel_rfl
  have h10 : ∀ (p : Ed) w, (part 23 #[.int .u32 p.fam, .bool p.ma, .bool p.dr, .string p.name, .int .i64 p.how, .bool p.hl, .bool p.hn, .bool p.hs, .int .u64 p.log, .int .u64 p.next, .int .u64 p.seq] 10).run Try.prog w = .ok (.int .u64 p.seq) w := fun p w => by kernel_rfl
  rw [run_eql_struct, run_equalIn_agg W 9999 75 _ _ hf (by kernel_rfl)]
  have e9 : ∀ w a b, (Op.equalIn 9999 9 (.string a) (.string b)).run Try.prog w = .ok (a.toList == b.toList) w := fun w a b => run_equalIn_string w 9998 9 a b Try.underlying9
  have e22 : ∀ w a b, (Op.equalIn 9999 22 (.int .u32 a) (.int .u32 b)).run Try.prog w = .ok (a == b) w := fun w a b => run_equalIn_int w 9998 22 .u32 .u32 a b Try.underlying22
  have e23 : ∀ w a b, (Op.equalIn 9999 23 (.int .u64 a) (.int .u64 b)).run Try.prog w = .ok (a == b) w := fun w a b => run_equalIn_int w 9998 23 .u64 .u64 a b Try.underlying23
  have e3 : ∀ w a b, (Op.equalIn 9999 3 (.int .i64 a) (.int .i64 b)).run Try.prog w = .ok (a == b) w := fun w a b => run_equalIn_int w 9998 3 .i64 .i64 a b Try.underlying3
  have e4 : ∀ w a b, (Op.equalIn 9999 4 (.bool a) (.bool b)).run Try.prog w = .ok (a == b) w := fun w a b => run_equalIn_bool w 9998 4 a b Try.underlying4
  simp only [Program.fieldsOf, Try.underlying75, Op.eqFields, Sem.run_bind, Sem.run_ite, Sem.run_pure, h0 p, h0 q, h1 p, h1 q, h2 p, h2 q, h3 p, h3 q, h4 p, h4 q, h5 p, h5 q, h6 p, h6 q, h7 p, h7 q, h8 p, h8 q, h9 p, h9 q, h10 p, h10 q, e9, e22, e23, e3, e4, Result.andThen_ok]
  unfold seq75
  generalize (p.fam == q.fam) = x0
  generalize (p.ma == q.ma) = x1
  generalize (p.dr == q.dr) = x2
  generalize (p.name.toList == q.name.toList) = x3
  generalize (p.how == q.how) = x4
  generalize (p.hl == q.hl) = x5
  generalize (p.hn == q.hn) = x6
  generalize (p.hs == q.hs) = x7
  generalize (p.log == q.log) = x8
  generalize (p.next == q.next) = x9
  generalize (p.seq == q.seq) = x10
  cases x0
  · rfl
  cases x1
  · rfl
  cases x2
  · rfl
  cases x3
  · rfl
  cases x4
  · rfl
  cases x5
  · rfl
  cases x6
  · rfl
  cases x7
  · rfl
  cases x8
  · rfl
  cases x9
  · rfl
  cases x10 <;> rfl
theorem seq75_iff {p q : Ed} : seq75 p q = true ↔ p.fam = q.fam ∧ p.ma = q.ma ∧ p.dr = q.dr ∧ p.name = q.name ∧ p.how = q.how ∧ p.hl = q.hl ∧ p.hn = q.hn ∧ p.hs = q.hs ∧ p.log = q.log ∧ p.next = q.next ∧ p.seq = q.seq := by
  unfold seq75
  have hn : (p.name.toList = q.name.toList) ↔ p.name = q.name := by
    constructor
    · intro h
      rw [ByteArray.toList_eq, ByteArray.toList_eq] at h
      exact ByteArray.ext (Array.ext' h)
    · intro h; rw [h]
  simp only [Bool.and_eq_true, beq_iff_eq, hn]
end Go.Proofs.Ytkmpcheamdadcaa
