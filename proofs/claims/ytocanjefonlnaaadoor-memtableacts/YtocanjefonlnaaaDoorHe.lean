import Derived.Test.YtocanjefonlnaaaDoorHc
import Derived.Test.YtocanjefonlnaaaDoorRd
import Derived.Sort.CutIn
namespace Go.Proofs.YtocanjefonlnaaaDoor
open Go.RowKit Go.Shelf
set_option linter.unusedVariables false
set_option linter.unusedSimpArgs false
attribute [local go_sem] Oper.semAt_some
set_option maxRecDepth 100000 in
set_option maxHeartbeats 1000000 in
theorem eq_ent (W : World) (a b : Ent) : (binOp .neq 56 (ev a) (ev b)).run Tryd.prog W = .ok (.bool (!decide (a.u = b.u ∧ a.s = b.s ∧ a.k = b.k ∧ a.v = b.v))) W := by
  have hf : Tryd.prog.underlying 56 = some (.struct (Tryd.prog.fieldsOf 56)) := by kernel_rfl
  have hf38 : Tryd.prog.underlying 38 = some (.struct (Tryd.prog.fieldsOf 38)) := by kernel_rfl
  obtain ⟨u, s, k, v⟩ := a
  obtain ⟨u', s', k', v'⟩ := b
  have p1 : ∀ w, (part 38 #[.string u, .int .u64 s, .int .i64 k, .string v] 0).run Tryd.prog w = .ok (.agg #[.string u, .int .u64 s, .int .i64 k]) w := fun w => by kernel_rfl
  have p2 : ∀ w, (part 9 #[.string u, .int .u64 s, .int .i64 k, .string v] 3).run Tryd.prog w = .ok (.string v) w := fun w => by kernel_rfl
  have p1' : ∀ w, (part 38 #[.string u', .int .u64 s', .int .i64 k', .string v'] 0).run Tryd.prog w = .ok (.agg #[.string u', .int .u64 s', .int .i64 k']) w := fun w => by kernel_rfl
  have p2' : ∀ w, (part 9 #[.string u', .int .u64 s', .int .i64 k', .string v'] 3).run Tryd.prog w = .ok (.string v') w := fun w => by kernel_rfl
  have h1 : ∀ w, (part 9 #[.string u, .int .u64 s, .int .i64 k] 0).run Tryd.prog w = .ok (.string u) w := fun w => by kernel_rfl
  have h2 : ∀ w, (part 33 #[.string u, .int .u64 s, .int .i64 k] 1).run Tryd.prog w = .ok (.int .u64 s) w := fun w => by kernel_rfl
  have h3 : ∀ w, (part 3 #[.string u, .int .u64 s, .int .i64 k] 2).run Tryd.prog w = .ok (.int .i64 k) w := fun w => by kernel_rfl
  have h1' : ∀ w, (part 9 #[.string u', .int .u64 s', .int .i64 k'] 0).run Tryd.prog w = .ok (.string u') w := fun w => by kernel_rfl
  have h2' : ∀ w, (part 33 #[.string u', .int .u64 s', .int .i64 k'] 1).run Tryd.prog w = .ok (.int .u64 s') w := fun w => by kernel_rfl
  have h3' : ∀ w, (part 3 #[.string u', .int .u64 s', .int .i64 k'] 2).run Tryd.prog w = .ok (.int .i64 k') w := fun w => by kernel_rfl
  unfold ev
  show (binOp .neq 56 (.agg #[.string u, .int .u64 s, .int .i64 k, .string v]) (.agg #[.string u', .int .u64 s', .int .i64 k', .string v'])).run Tryd.prog W = _
  have e9 : ∀ n w a b, (Op.equalIn (n + 1) 9 (.string a) (.string b)).run Tryd.prog w = .ok (a.toList == b.toList) w := fun n w a b => run_equalIn_string w n 9 a b Tryd.underlying9
  have e33 : ∀ w a b, (Op.equalIn 9998 33 (.int .u64 a) (.int .u64 b)).run Tryd.prog w = .ok (a == b) w := fun w a b => run_equalIn_int w 9997 33 .u64 .u64 a b Tryd.underlying33
  have e3 : ∀ w a b, (Op.equalIn 9998 3 (.int .i64 a) (.int .i64 b)).run Tryd.prog w = .ok (a == b) w := fun w a b => run_equalIn_int w 9997 3 .i64 .i64 a b Tryd.underlying3
  have e38 : ∀ w, (Op.equalIn 9999 38 (.agg #[.string u, .int .u64 s, .int .i64 k]) (.agg #[.string u', .int .u64 s', .int .i64 k'])).run Tryd.prog w = .ok (decide (u = u' ∧ s = s' ∧ k = k')) w := fun w => by
    have e9' : ∀ w a b, (Op.equalIn 9998 9 (.string a) (.string b)).run Tryd.prog w = .ok (a.toList == b.toList) w := fun w a b => e9 9997 w a b
    rw [run_equalIn_agg w 9998 38 _ _ hf38 (by kernel_rfl)]
    simp only [Program.fieldsOf, Tryd.underlying38, Op.eqFields, Sem.run_bind, Sem.run_ite, Sem.run_pure, h1, h2, h3, h1', h2', h3', e9', e33, e3, Result.andThen_ok, bytes_beq]
    by_cases a : u = u' <;> by_cases b : s = s' <;> by_cases c : k = k' <;> simp [a, b, c, Result.andThen]
  have e99 : ∀ w a b, (Op.equalIn 9999 9 (.string a) (.string b)).run Tryd.prog w = .ok (a.toList == b.toList) w := fun w a b => e9 9998 w a b
  rw [run_neq_struct, run_equalIn_agg W 9999 56 _ _ hf (by kernel_rfl)]
  simp only [Program.fieldsOf, Tryd.underlying56, Op.eqFields, Sem.run_bind, Sem.run_ite, Sem.run_pure, p1, p2, p1', p2', e38, e99, Result.andThen_ok, bytes_beq]
  by_cases a : u = u' <;> by_cases b : s = s' <;> by_cases c : k = k' <;> by_cases d : v = v' <;> simp [a, b, c, d, Result.andThen]
/-- An entry at a place. -/
def EAt (w : World) (b o : Nat) (e : Ent) : Prop := w.cell? ⟨b, o, none⟩ = some (.string e.u) ∧ w.cell? ⟨b, o + 1, none⟩ = some (.int .u64 e.s) ∧ w.cell? ⟨b, o + 2, none⟩ = some (.int .i64 e.k) ∧ w.cell? ⟨b, o + 3, none⟩ = some (.string e.v)
def RdE (w : World) (a : Option Addr) (l : List Ent) : Prop := l = [] ∨ ∃ b off, a = some ⟨b, off, none⟩ ∧ ∀ (j : Nat) (e : Ent), l[j]? = some e → EAt w b (off + j * 4) e
end Go.Proofs.YtocanjefonlnaaaDoor
