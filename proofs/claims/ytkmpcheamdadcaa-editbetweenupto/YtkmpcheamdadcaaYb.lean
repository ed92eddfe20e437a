/-
  Two tables held against each other.
-/
import Derived.Test.YtkmpcheamdadcaaVf
import Derived.Laws.StructEq
namespace Go.Proofs.Ytkmpcheamdadcaa
open Go.RowKit
set_option linter.unusedVariables false
set_option linter.unusedSimpArgs false
def keq (a b : Ky) : Bool := (a.u.toList == b.u.toList) && ((a.s == b.s) && (a.k == b.k))
def feq (a b : Fi) : Bool := (a.num == b.num) && ((a.size == b.size) && (keq a.sm b.sm && (keq a.la b.la && ((a.ents == b.ents) && (a.rngs == b.rngs)))))
theorem keq_iff {a b : Ky} : keq a b = true ↔ a = b := by
  unfold keq
  simp only [Bool.and_eq_true, beq_iff_eq]
  constructor
  · rintro ⟨h1, h2, h3⟩
    obtain ⟨u, s, k⟩ := a
    obtain ⟨u', s', k'⟩ := b
    simp only at h1 h2 h3
    subst h2 h3
    have : u = u' := by
      rw [ByteArray.toList_eq, ByteArray.toList_eq] at h1
      exact ByteArray.ext (Array.ext' h1)
    subst this; rfl
  · rintro rfl; exact ⟨rfl, rfl, rfl⟩
theorem feq_iff {a b : Fi} : feq a b = true ↔ a = b := by
  unfold feq
  simp only [Bool.and_eq_true, beq_iff_eq, keq_iff]
  constructor
  · rintro ⟨h1, h2, h3, h4, h5, h6⟩
    obtain ⟨n, s, m, l, e, r⟩ := a
    obtain ⟨n', s', m', l', e', r'⟩ := b
    simp only at h1 h2 h3 h4 h5 h6
    subst h1 h2 h3 h4 h5 h6; rfl
  · rintro rfl; exact ⟨rfl, rfl, rfl, rfl, rfl, rfl⟩
set_option maxRecDepth 100000 in
set_option maxHeartbeats 1000000 in
theorem eqk_any (a b : Ky) (W : World) : (Op.equalIn 9999 48 (.agg #[.string a.u, .int .u64 a.s, .int .i64 a.k]) (.agg #[.string b.u, .int .u64 b.s, .int .i64 b.k])).run Try.prog W = .ok (keq a b) W := by
  have hf : Try.prog.underlying 48 = some (.struct (Try.prog.fieldsOf 48)) := by kernel_rfl
  have h1 : ∀ (k : Ky) w, (part 9 #[.string k.u, .int .u64 k.s, .int .i64 k.k] 0).run Try.prog w = .ok (.string k.u) w := fun k w => by kernel_rfl
  have h2 : ∀ (k : Ky) w, (part 23 #[.string k.u, .int .u64 k.s, .int .i64 k.k] 1).run Try.prog w = .ok (.int .u64 k.s) w := fun k w => by kernel_rfl
  have h3 : ∀ (k : Ky) w, (part 3 #[.string k.u, .int .u64 k.s, .int .i64 k.k] 2).run Try.prog w = .ok (.int .i64 k.k) w := fun k w => by kernel_rfl
  rw [run_equalIn_agg W 9998 48 _ _ hf (by kernel_rfl)]
  have e9 : ∀ w a b, (Op.equalIn 9998 9 (.string a) (.string b)).run Try.prog w = .ok (a.toList == b.toList) w := fun w a b => run_equalIn_string w 9997 9 a b Try.underlying9
  have e23 : ∀ w a b, (Op.equalIn 9998 23 (.int .u64 a) (.int .u64 b)).run Try.prog w = .ok (a == b) w := fun w a b => run_equalIn_int w 9997 23 .u64 .u64 a b Try.underlying23
  have e3 : ∀ w a b, (Op.equalIn 9998 3 (.int .i64 a) (.int .i64 b)).run Try.prog w = .ok (a == b) w := fun w a b => run_equalIn_int w 9997 3 .i64 .i64 a b Try.underlying3
  simp only [Program.fieldsOf, Try.underlying48, Op.eqFields, Sem.run_bind, Sem.run_ite, Sem.run_pure, h1 a, h1 b, h2 a, h2 b, h3 a, h3 b, e9, e23, e3, Result.andThen_ok]
  unfold keq
  generalize (a.u.toList == b.u.toList) = x1
  generalize (a.s == b.s) = x2
  generalize (a.k == b.k) = x3
  cases x1 <;> cases x2 <;> cases x3 <;> rfl
set_option maxRecDepth 100000 in
set_option maxHeartbeats 1000000 in
theorem eqf_any (f g : Fi) (W : World) : (binOp .eql 50 f.v g.v).run Try.prog W = .ok (.bool (feq f g)) W := by
  have hf : Try.prog.underlying 50 = some (.struct (Try.prog.fieldsOf 50)) := by kernel_rfl
  have h1 : ∀ (f : Fi) w, (part 23 #[.int .u64 f.num, .int .u64 f.size, .string f.sm.u, .int .u64 f.sm.s, .int .i64 f.sm.k, .string f.la.u, .int .u64 f.la.s, .int .i64 f.la.k, .int .u64 f.ents, .int .u64 f.rngs] 0).run Try.prog w = .ok (.int .u64 f.num) w := fun f w => by kernel_rfl
  have h2 : ∀ (f : Fi) w, (part 23 #[.int .u64 f.num, .int .u64 f.size, .string f.sm.u, .int .u64 f.sm.s, .int .i64 f.sm.k, .string f.la.u, .int .u64 f.la.s, .int .i64 f.la.k, .int .u64 f.ents, .int .u64 f.rngs] 1).run Try.prog w = .ok (.int .u64 f.size) w := fun f w => by kernel_rfl
  have h3 : ∀ (f : Fi) w, (part 48 #[.int .u64 f.num, .int .u64 f.size, .string f.sm.u, .int .u64 f.sm.s, .int .i64 f.sm.k, .string f.la.u, .int .u64 f.la.s, .int .i64 f.la.k, .int .u64 f.ents, .int .u64 f.rngs] 2).run Try.prog w = .ok (.agg #[.string f.sm.u, .int .u64 f.sm.s, .int .i64 f.sm.k]) w := fun f w => by kernel_rfl
  have h4 : ∀ (f : Fi) w, (part 48 #[.int .u64 f.num, .int .u64 f.size, .string f.sm.u, .int .u64 f.sm.s, .int .i64 f.sm.k, .string f.la.u, .int .u64 f.la.s, .int .i64 f.la.k, .int .u64 f.ents, .int .u64 f.rngs] 5).run Try.prog w = .ok (.agg #[.string f.la.u, .int .u64 f.la.s, .int .i64 f.la.k]) w := fun f w => by kernel_rfl
  have h5 : ∀ (f : Fi) w, (part 23 #[.int .u64 f.num, .int .u64 f.size, .string f.sm.u, .int .u64 f.sm.s, .int .i64 f.sm.k, .string f.la.u, .int .u64 f.la.s, .int .i64 f.la.k, .int .u64 f.ents, .int .u64 f.rngs] 8).run Try.prog w = .ok (.int .u64 f.ents) w := fun f w => by kernel_rfl
  have h6 : ∀ (f : Fi) w, (part 23 #[.int .u64 f.num, .int .u64 f.size, .string f.sm.u, .int .u64 f.sm.s, .int .i64 f.sm.k, .string f.la.u, .int .u64 f.la.s, .int .i64 f.la.k, .int .u64 f.ents, .int .u64 f.rngs] 9).run Try.prog w = .ok (.int .u64 f.rngs) w := fun f w => by kernel_rfl
  rw [run_eql_struct, run_equalIn_agg W 9999 50 _ _ hf (by kernel_rfl)]
  have e23 : ∀ w a b, (Op.equalIn 9999 23 (.int .u64 a) (.int .u64 b)).run Try.prog w = .ok (a == b) w := fun w a b => run_equalIn_int w 9998 23 .u64 .u64 a b Try.underlying23
  have e48 := fun w => eqk_any f.sm g.sm w
  have e49 := fun w => eqk_any f.la g.la w
  simp only [Program.fieldsOf, Try.underlying50, Op.eqFields, Sem.run_bind, Sem.run_ite, Sem.run_pure, h1 f, h1 g, h2 f, h2 g, h3 f, h3 g, h4 f, h4 g, h5 f, h5 g, h6 f, h6 g, e23, e48, e49, Result.andThen_ok]
  unfold feq
  generalize (f.num == g.num) = x1
  generalize (f.size == g.size) = x2
  generalize keq f.sm g.sm = x3
  generalize keq f.la g.la = x4
  generalize (f.ents == g.ents) = x5
  generalize (f.rngs == g.rngs) = x6
  cases x1 <;> cases x2 <;> cases x3 <;> cases x4 <;> cases x5 <;> cases x6 <;> rfl
theorem neqf_any (f g : Fi) (W : World) : (binOp .neq 50 f.v g.v).run Try.prog W = .ok (.bool (!feq f g)) W := by
  have := eqf_any f g W
  simp only [binOp] at *
  simp only [Sem.run_bind, Sem.run_pure, Sem.run_map] at *
  generalize Sem.run Try.prog (Op.equal 50 f.v g.v) W = r at *
  cases r <;> simp_all [Result.andThen]
/-- Two lists, as the loops hold them against each other. -/
def leq : List Fi → List Fi → Bool
  | [], [] => true
  | a :: l, b :: m => feq a b && leq l m
  | _, _ => false
theorem leq_iff : ∀ {l m : List Fi}, leq l m = true ↔ l = m
  | [], [] => by simp [leq]
  | a :: l, b :: m => by simp [leq, feq_iff, leq_iff]
  | [], b :: m => by simp [leq]
  | a :: l, [] => by simp [leq]
theorem leq_len {l m : List Fi} (h : l.length ≠ m.length) : leq l m = false := by
  cases hq : leq l m
  · rfl
  · exact absurd (by rw [leq_iff.1 hq]) h
theorem leq_self (l : List Fi) : leq l l = true := leq_iff.2 rfl
end Go.Proofs.Ytkmpcheamdadcaa
