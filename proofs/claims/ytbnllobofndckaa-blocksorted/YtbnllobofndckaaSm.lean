import Derived.Test.YtbnllobofndckaaCp
import Derived.Laws.StructEq
namespace Go.Proofs.Ytbnllobofndckaa
open Go.RowKit
set_option linter.unusedVariables false
set_option linter.unusedSimpArgs false
theorem bytes_beq (a b : ByteArray) : (a.toList == b.toList) = decide (a = b) := by
  rw [Bool.eq_iff_iff]; simp only [beq_iff_eq, decide_eq_true_eq, ByteArray.toList_eq]; exact ba_eq
set_option maxRecDepth 100000 in
set_option maxHeartbeats 1000000 in
theorem eq_ent (W : World) (a b : Ent) : (binOp .neq 48 (ev a) (ev b)).run Try.prog W = .ok (.bool (!decide (a.u = b.u ∧ a.s = b.s ∧ a.k = b.k ∧ a.v = b.v))) W := by
  have hf : Try.prog.underlying 48 = some (.struct (Try.prog.fieldsOf 48)) := by kernel_rfl
  have hf33 : Try.prog.underlying 33 = some (.struct (Try.prog.fieldsOf 33)) := by kernel_rfl
  obtain ⟨u, s, k, v⟩ := a
  obtain ⟨u', s', k', v'⟩ := b
  have p1 : ∀ w, (part 33 #[.string u, .int .u64 s, .int .i64 k, .string v] 0).run Try.prog w = .ok (.agg #[.string u, .int .u64 s, .int .i64 k]) w := fun w => by kernel_rfl
  have p2 : ∀ w, (part 9 #[.string u, .int .u64 s, .int .i64 k, .string v] 3).run Try.prog w = .ok (.string v) w := fun w => by kernel_rfl
  have p1' : ∀ w, (part 33 #[.string u', .int .u64 s', .int .i64 k', .string v'] 0).run Try.prog w = .ok (.agg #[.string u', .int .u64 s', .int .i64 k']) w := fun w => by kernel_rfl
  have p2' : ∀ w, (part 9 #[.string u', .int .u64 s', .int .i64 k', .string v'] 3).run Try.prog w = .ok (.string v') w := fun w => by kernel_rfl
  have h1 : ∀ w, (part 9 #[.string u, .int .u64 s, .int .i64 k] 0).run Try.prog w = .ok (.string u) w := fun w => by kernel_rfl
  have h2 : ∀ w, (part 31 #[.string u, .int .u64 s, .int .i64 k] 1).run Try.prog w = .ok (.int .u64 s) w := fun w => by kernel_rfl
  have h3 : ∀ w, (part 3 #[.string u, .int .u64 s, .int .i64 k] 2).run Try.prog w = .ok (.int .i64 k) w := fun w => by kernel_rfl
  have h1' : ∀ w, (part 9 #[.string u', .int .u64 s', .int .i64 k'] 0).run Try.prog w = .ok (.string u') w := fun w => by kernel_rfl
  have h2' : ∀ w, (part 31 #[.string u', .int .u64 s', .int .i64 k'] 1).run Try.prog w = .ok (.int .u64 s') w := fun w => by kernel_rfl
  have h3' : ∀ w, (part 3 #[.string u', .int .u64 s', .int .i64 k'] 2).run Try.prog w = .ok (.int .i64 k') w := fun w => by kernel_rfl
  unfold ev
  show (binOp .neq 48 (.agg #[.string u, .int .u64 s, .int .i64 k, .string v]) (.agg #[.string u', .int .u64 s', .int .i64 k', .string v'])).run Try.prog W = _
  have e9 : ∀ n w a b, (Op.equalIn (n + 1) 9 (.string a) (.string b)).run Try.prog w = .ok (a.toList == b.toList) w := fun n w a b => run_equalIn_string w n 9 a b Try.underlying9
  have e31 : ∀ w a b, (Op.equalIn 9998 31 (.int .u64 a) (.int .u64 b)).run Try.prog w = .ok (a == b) w := fun w a b => run_equalIn_int w 9997 31 .u64 .u64 a b Try.underlying31
  have e3 : ∀ w a b, (Op.equalIn 9998 3 (.int .i64 a) (.int .i64 b)).run Try.prog w = .ok (a == b) w := fun w a b => run_equalIn_int w 9997 3 .i64 .i64 a b Try.underlying3
  have e33 : ∀ w, (Op.equalIn 9999 33 (.agg #[.string u, .int .u64 s, .int .i64 k]) (.agg #[.string u', .int .u64 s', .int .i64 k'])).run Try.prog w = .ok (decide (u = u' ∧ s = s' ∧ k = k')) w := fun w => by
    have e9' : ∀ w a b, (Op.equalIn 9998 9 (.string a) (.string b)).run Try.prog w = .ok (a.toList == b.toList) w := fun w a b => e9 9997 w a b
    rw [run_equalIn_agg w 9998 33 _ _ hf33 (by kernel_rfl)]
    simp only [Program.fieldsOf, Try.underlying33, Op.eqFields, Sem.run_bind, Sem.run_ite, Sem.run_pure, h1, h2, h3, h1', h2', h3', e9', e31, e3, Result.andThen_ok, bytes_beq]
    by_cases a : u = u' <;> by_cases b : s = s' <;> by_cases c : k = k' <;> simp [a, b, c, Result.andThen]
  have e99 : ∀ w a b, (Op.equalIn 9999 9 (.string a) (.string b)).run Try.prog w = .ok (a.toList == b.toList) w := fun w a b => e9 9998 w a b
  rw [run_neq_struct, run_equalIn_agg W 9999 48 _ _ hf (by kernel_rfl)]
  simp only [Program.fieldsOf, Try.underlying48, Op.eqFields, Sem.run_bind, Sem.run_ite, Sem.run_pure, p1, p2, p1', p2', e33, e99, Result.andThen_ok, bytes_beq]
  by_cases a : u = u' <;> by_cases b : s = s' <;> by_cases c : k = k' <;> by_cases d : v = v' <;> simp [a, b, c, d, Result.andThen]
set_option maxRecDepth 100000 in
set_option maxHeartbeats 1000000 in
theorem same_any {w : World} {a1 a2 : Option Addr} {l : List Ent} (h1 : RdE w a1 l) (h2 : RdE w a2 l) (c1 c2 : Nat) (hN : l.length ≤ 281474976710656) :
    Calls Try.prog 11 #[.slice a1 l.length c1, .slice a2 l.length c2] w fun e w' => e = .returned (.bool true) ∧ Below w.heap.size w w' := by
  obtain ⟨N, hNN⟩ : ∃ N, Hid (l.length = N) := ⟨_, rfl⟩
  have H1 : Hid (RdE w a1 l) := h1
  have H2 : Hid (RdE w a2 l) := h2
  rw [hNN.out] at hN ⊢
  clear h1 h2
  go_enter Try.func11, Try.ntmps11
  go_wp2
  go_loopw [5] (fun i wr => ∃ k : Nat, k ≤ N ∧ i = .int .i64 k ∧ Below w.heap.size w wr) (fun i _ => ((N : Int) - intOf i).toNat)
  case atStart => exact ⟨0, Nat.zero_le _, rfl, Below.refl _ _⟩
  case round =>
    obtain ⟨k, hk, rfl, hb⟩ := hrel
    rcases Nat.lt_or_ge k N with hkN | hkN
    · have hkz : (k : Int) < N := by omega
      obtain ⟨r, hx⟩ : ∃ x, l[k]? = some x := ⟨l[k]'(by rw [hNN.out]; exact hkN), List.getElem?_eq_getElem _⟩
      obtain ⟨b1, o1, rfl, _, hat1⟩ := H1.out.get hb hx
      obtain ⟨b2, o2, rfl, _, hat2⟩ := H2.out.get hb hx
      obtain ⟨e0, e1, e2, e3⟩ := hat1 k r hx
      obtain ⟨e4, e5, e6, e7⟩ := hat2 k r hx
      have hne : ∀ W : World, (binOp .neq 48 (.agg #[.string r.u, .int .u64 r.s, .int .i64 r.k, .string r.v]) (.agg #[.string r.u, .int .u64 r.s, .int .i64 r.k, .string r.v])).run Try.prog W = .ok (.bool false) W := fun W => by
        have := eq_ent W r r; rw [decide_eq_true ⟨rfl, rfl, rfl, rfl⟩] at this; exact this
      have HB : Hid (Below w.heap.size w wr) := hb
      clear hb hx hat1 hat2
      go_wp2
      go_big_quiet (fail)
      have hb4 : Hid (Below w.heap.size w (wr.drewN nq)) := HB.out.trans ⟨rfl, rfl, rfl, Nat.le_refl _, fun _ _ => rfl⟩
      go_wp2
      go_roundw
      case rel => exact ⟨k + 1, by omega, by go_num, hb4.out⟩
      case measure => simp [intOf]; omega
    · have hkz : ¬ (k : Int) < N := by omega
      go_wp2
      go_ret
      exact ⟨rfl, hb⟩
end Go.Proofs.Ytbnllobofndckaa
