/-
  Two tables that are gone, two that are added, held against each other; lists of them.
-/
import Derived.Test.YtkmpcheamdadcaaYc
import Derived.Test.YtkmpcheamdadcaaZc
namespace Go.Proofs.Ytkmpcheamdadcaa
open Go.RowKit
set_option linter.unusedVariables false
set_option linter.unusedSimpArgs false
def geq (a b : Gn) : Bool := (a.lv == b.lv) && (a.num == b.num)
def aeq (a b : Ad) : Bool := (a.lv == b.lv) && feq a.f b.f
theorem geq_iff {a b : Gn} : geq a b = true ↔ a = b := by
  unfold geq
  simp only [Bool.and_eq_true, beq_iff_eq]
  constructor
  · rintro ⟨h1, h2⟩
    obtain ⟨n, s⟩ := a
    obtain ⟨n', s'⟩ := b
    simp only at h1 h2
    subst h1 h2; rfl
  · rintro rfl; exact ⟨rfl, rfl⟩
theorem aeq_iff {a b : Ad} : aeq a b = true ↔ a = b := by
  unfold aeq
  simp only [Bool.and_eq_true, beq_iff_eq, feq_iff]
  constructor
  · rintro ⟨h1, h2⟩
    obtain ⟨n, s⟩ := a
    obtain ⟨n', s'⟩ := b
    simp only at h1 h2
    subst h1 h2; rfl
  · rintro rfl; exact ⟨rfl, rfl⟩
set_option maxRecDepth 100000 in
set_option maxHeartbeats 1000000 in
theorem eqk_d (d : Nat) (a b : Ky) (W : World) : (Op.equalIn (d + 1 + 1) 48 (.agg #[.string a.u, .int .u64 a.s, .int .i64 a.k]) (.agg #[.string b.u, .int .u64 b.s, .int .i64 b.k])).run Try.prog W = .ok (keq a b) W := by
  have hf : Try.prog.underlying 48 = some (.struct (Try.prog.fieldsOf 48)) := by kernel_rfl
  have h1 : ∀ (k : Ky) w, (part 9 #[.string k.u, .int .u64 k.s, .int .i64 k.k] 0).run Try.prog w = .ok (.string k.u) w := fun k w => by kernel_rfl
  have h2 : ∀ (k : Ky) w, (part 23 #[.string k.u, .int .u64 k.s, .int .i64 k.k] 1).run Try.prog w = .ok (.int .u64 k.s) w := fun k w => by kernel_rfl
  have h3 : ∀ (k : Ky) w, (part 3 #[.string k.u, .int .u64 k.s, .int .i64 k.k] 2).run Try.prog w = .ok (.int .i64 k.k) w := fun k w => by kernel_rfl
  rw [run_equalIn_agg W (d + 1) 48 _ _ hf (by kernel_rfl)]
  have e9 : ∀ w a b, (Op.equalIn (d + 1) 9 (.string a) (.string b)).run Try.prog w = .ok (a.toList == b.toList) w := fun w a b => run_equalIn_string w d 9 a b Try.underlying9
  have e23 : ∀ w a b, (Op.equalIn (d + 1) 23 (.int .u64 a) (.int .u64 b)).run Try.prog w = .ok (a == b) w := fun w a b => run_equalIn_int w d 23 .u64 .u64 a b Try.underlying23
  have e3 : ∀ w a b, (Op.equalIn (d + 1) 3 (.int .i64 a) (.int .i64 b)).run Try.prog w = .ok (a == b) w := fun w a b => run_equalIn_int w d 3 .i64 .i64 a b Try.underlying3
  simp only [Program.fieldsOf, Try.underlying48, Op.eqFields, Sem.run_bind, Sem.run_ite, Sem.run_pure, h1 a, h1 b, h2 a, h2 b, h3 a, h3 b, e9, e23, e3, Result.andThen_ok]
  unfold keq
  generalize (a.u.toList == b.u.toList) = x1
  generalize (a.s == b.s) = x2
  generalize (a.k == b.k) = x3
  cases x1 <;> cases x2 <;> cases x3 <;> rfl
set_option maxRecDepth 100000 in
set_option maxHeartbeats 1000000 in
theorem eqf_d (d : Nat) (f g : Fi) (W : World) : (Op.equalIn (d + 1 + 1 + 1) 50 f.v g.v).run Try.prog W = .ok (feq f g) W := by
  have hf : Try.prog.underlying 50 = some (.struct (Try.prog.fieldsOf 50)) := by kernel_rfl
  have h1 : ∀ (f : Fi) w, (part 23 #[.int .u64 f.num, .int .u64 f.size, .string f.sm.u, .int .u64 f.sm.s, .int .i64 f.sm.k, .string f.la.u, .int .u64 f.la.s, .int .i64 f.la.k, .int .u64 f.ents, .int .u64 f.rngs] 0).run Try.prog w = .ok (.int .u64 f.num) w := fun f w => by kernel_rfl
  have h2 : ∀ (f : Fi) w, (part 23 #[.int .u64 f.num, .int .u64 f.size, .string f.sm.u, .int .u64 f.sm.s, .int .i64 f.sm.k, .string f.la.u, .int .u64 f.la.s, .int .i64 f.la.k, .int .u64 f.ents, .int .u64 f.rngs] 1).run Try.prog w = .ok (.int .u64 f.size) w := fun f w => by kernel_rfl
  have h3 : ∀ (f : Fi) w, (part 48 #[.int .u64 f.num, .int .u64 f.size, .string f.sm.u, .int .u64 f.sm.s, .int .i64 f.sm.k, .string f.la.u, .int .u64 f.la.s, .int .i64 f.la.k, .int .u64 f.ents, .int .u64 f.rngs] 2).run Try.prog w = .ok (.agg #[.string f.sm.u, .int .u64 f.sm.s, .int .i64 f.sm.k]) w := fun f w => by kernel_rfl
  have h4 : ∀ (f : Fi) w, (part 48 #[.int .u64 f.num, .int .u64 f.size, .string f.sm.u, .int .u64 f.sm.s, .int .i64 f.sm.k, .string f.la.u, .int .u64 f.la.s, .int .i64 f.la.k, .int .u64 f.ents, .int .u64 f.rngs] 5).run Try.prog w = .ok (.agg #[.string f.la.u, .int .u64 f.la.s, .int .i64 f.la.k]) w := fun f w => by kernel_rfl
  have h5 : ∀ (f : Fi) w, (part 23 #[.int .u64 f.num, .int .u64 f.size, .string f.sm.u, .int .u64 f.sm.s, .int .i64 f.sm.k, .string f.la.u, .int .u64 f.la.s, .int .i64 f.la.k, .int .u64 f.ents, .int .u64 f.rngs] 8).run Try.prog w = .ok (.int .u64 f.ents) w := fun f w => by kernel_rfl
  have h6 : ∀ (f : Fi) w, (part 23 #[.int .u64 f.num, .int .u64 f.size, .string f.sm.u, .int .u64 f.sm.s, .int .i64 f.sm.k, .string f.la.u, .int .u64 f.la.s, .int .i64 f.la.k, .int .u64 f.ents, .int .u64 f.rngs] 9).run Try.prog w = .ok (.int .u64 f.rngs) w := fun f w => by kernel_rfl
  rw [run_equalIn_agg W (d + 1 + 1) 50 _ _ hf (by kernel_rfl)]
  have e23 : ∀ w a b, (Op.equalIn (d + 1 + 1) 23 (.int .u64 a) (.int .u64 b)).run Try.prog w = .ok (a == b) w := fun w a b => run_equalIn_int w (d + 1) 23 .u64 .u64 a b Try.underlying23
  have e48 := fun w => eqk_d d f.sm g.sm w
  have e49 := fun w => eqk_d d f.la g.la w
  simp only [Program.fieldsOf, Try.underlying50, Op.eqFields, Sem.run_bind, Sem.run_ite, Sem.run_pure, h1 f, h1 g, h2 f, h2 g, h3 f, h3 g, h4 f, h4 g, h5 f, h5 g, h6 f, h6 g, e23, e48, e49, Result.andThen_ok]
  unfold feq
  generalize (f.num == g.num) = x1
  generalize (f.size == g.size) = x2
  generalize keq f.sm g.sm = x3
  generalize keq f.la g.la = x4
  generalize (f.ents == g.ents) = x5
  generalize (f.rngs == g.rngs) = x6
  cases x1 <;> cases x2 <;> cases x3 <;> cases x4 <;> cases x5 <;> cases x6 <;> rfl
set_option maxRecDepth 100000 in
set_option maxHeartbeats 1000000 in
theorem neqg_any (a b : Gn) (W : World) : (binOp .neq 66 (.agg #[.int .i64 a.lv, .int .u64 a.num]) (.agg #[.int .i64 b.lv, .int .u64 b.num])).run Try.prog W = .ok (.bool (!geq a b)) W := by
  have hh : (binOp .eql 66 (.agg #[.int .i64 a.lv, .int .u64 a.num]) (.agg #[.int .i64 b.lv, .int .u64 b.num])).run Try.prog W = .ok (.bool (geq a b)) W := by
    have hf : Try.prog.underlying 66 = some (.struct (Try.prog.fieldsOf 66)) := by kernel_rfl
    have h1 : ∀ (a : Gn) w, (part 3 #[.int .i64 a.lv, .int .u64 a.num] 0).run Try.prog w = .ok (.int .i64 a.lv) w := fun a w => by kernel_rfl
    have h2 : ∀ (a : Gn) w, (part 23 #[.int .i64 a.lv, .int .u64 a.num] 1).run Try.prog w = .ok (.int .u64 a.num) w := fun a w => by kernel_rfl
    rw [run_eql_struct, run_equalIn_agg W 9999 66 _ _ hf (by kernel_rfl)]
    have e23 : ∀ w a b, (Op.equalIn 9999 23 (.int .u64 a) (.int .u64 b)).run Try.prog w = .ok (a == b) w := fun w a b => run_equalIn_int w 9998 23 .u64 .u64 a b Try.underlying23
    have e3 : ∀ w a b, (Op.equalIn 9999 3 (.int .i64 a) (.int .i64 b)).run Try.prog w = .ok (a == b) w := fun w a b => run_equalIn_int w 9998 3 .i64 .i64 a b Try.underlying3
    simp only [Program.fieldsOf, Try.underlying66, Op.eqFields, Sem.run_bind, Sem.run_ite, Sem.run_pure, h1 a, h1 b, h2 a, h2 b, e23, e3, Result.andThen_ok]
    unfold geq
    generalize (a.lv == b.lv) = x1
    generalize (a.num == b.num) = x2
    cases x1 <;> cases x2 <;> rfl
  simp only [binOp] at *
  simp only [Sem.run_bind, Sem.run_pure, Sem.run_map] at *
  generalize Sem.run Try.prog (Op.equal 66 _ _) W = r at *
  cases r <;> simp_all [Result.andThen]
set_option maxRecDepth 100000 in
set_option maxHeartbeats 1000000 in
theorem neqa_any (a b : Ad) (W : World) : (binOp .neq 64 (.agg #[.int .i64 a.lv, .int .u64 a.f.num, .int .u64 a.f.size, .string a.f.sm.u, .int .u64 a.f.sm.s, .int .i64 a.f.sm.k, .string a.f.la.u, .int .u64 a.f.la.s, .int .i64 a.f.la.k, .int .u64 a.f.ents, .int .u64 a.f.rngs]) (.agg #[.int .i64 b.lv, .int .u64 b.f.num, .int .u64 b.f.size, .string b.f.sm.u, .int .u64 b.f.sm.s, .int .i64 b.f.sm.k, .string b.f.la.u, .int .u64 b.f.la.s, .int .i64 b.f.la.k, .int .u64 b.f.ents, .int .u64 b.f.rngs])).run Try.prog W = .ok (.bool (!aeq a b)) W := by
  have hh : (binOp .eql 64 (.agg #[.int .i64 a.lv, .int .u64 a.f.num, .int .u64 a.f.size, .string a.f.sm.u, .int .u64 a.f.sm.s, .int .i64 a.f.sm.k, .string a.f.la.u, .int .u64 a.f.la.s, .int .i64 a.f.la.k, .int .u64 a.f.ents, .int .u64 a.f.rngs]) (.agg #[.int .i64 b.lv, .int .u64 b.f.num, .int .u64 b.f.size, .string b.f.sm.u, .int .u64 b.f.sm.s, .int .i64 b.f.sm.k, .string b.f.la.u, .int .u64 b.f.la.s, .int .i64 b.f.la.k, .int .u64 b.f.ents, .int .u64 b.f.rngs])).run Try.prog W = .ok (.bool (aeq a b)) W := by
    have hf : Try.prog.underlying 64 = some (.struct (Try.prog.fieldsOf 64)) := by kernel_rfl
    have h1 : ∀ (a : Ad) w, (part 3 #[.int .i64 a.lv, .int .u64 a.f.num, .int .u64 a.f.size, .string a.f.sm.u, .int .u64 a.f.sm.s, .int .i64 a.f.sm.k, .string a.f.la.u, .int .u64 a.f.la.s, .int .i64 a.f.la.k, .int .u64 a.f.ents, .int .u64 a.f.rngs] 0).run Try.prog w = .ok (.int .i64 a.lv) w := fun a w => by kernel_rfl
    have h2 : ∀ (a : Ad) w, (part 50 #[.int .i64 a.lv, .int .u64 a.f.num, .int .u64 a.f.size, .string a.f.sm.u, .int .u64 a.f.sm.s, .int .i64 a.f.sm.k, .string a.f.la.u, .int .u64 a.f.la.s, .int .i64 a.f.la.k, .int .u64 a.f.ents, .int .u64 a.f.rngs] 1).run Try.prog w = .ok a.f.v w := fun a w => by kernel_rfl
    rw [run_eql_struct, run_equalIn_agg W 9999 64 _ _ hf (by kernel_rfl)]
    have e3 : ∀ w a b, (Op.equalIn 9999 3 (.int .i64 a) (.int .i64 b)).run Try.prog w = .ok (a == b) w := fun w a b => run_equalIn_int w 9998 3 .i64 .i64 a b Try.underlying3
    have e50 : ∀ w, (Op.equalIn 9999 50 a.f.v b.f.v).run Try.prog w = .ok (feq a.f b.f) w := fun w => eqf_d 9996 a.f b.f w
    simp only [Program.fieldsOf, Try.underlying64, Op.eqFields, Sem.run_bind, Sem.run_ite, Sem.run_pure, h1 a, h1 b, h2 a, h2 b, e3, e50, Result.andThen_ok]
    unfold aeq
    generalize (a.lv == b.lv) = x1
    generalize feq a.f b.f = x2
    cases x1 <;> cases x2 <;> rfl
  simp only [binOp] at *
  simp only [Sem.run_bind, Sem.run_pure, Sem.run_map] at *
  generalize Sem.run Try.prog (Op.equal 64 _ _) W = r at *
  cases r <;> simp_all [Result.andThen]
/-- Two lists, as the loops hold them against each other. -/
def lgq : List Gn → List Gn → Bool
  | [], [] => true
  | a :: l, b :: m => geq a b && lgq l m
  | _, _ => false
theorem lgq_iff : ∀ {l m : List Gn}, lgq l m = true ↔ l = m
  | [], [] => by simp [lgq]
  | a :: l, b :: m => by simp [lgq, geq_iff, lgq_iff]
  | [], b :: m => by simp [lgq]
  | a :: l, [] => by simp [lgq]
theorem lgq_len {l m : List Gn} (h : l.length ≠ m.length) : lgq l m = false := by
  cases hq : lgq l m
  · rfl
  · exact absurd (by rw [lgq_iff.1 hq]) h
/-- Two lists, as the loops hold them against each other. -/
def laq : List Ad → List Ad → Bool
  | [], [] => true
  | a :: l, b :: m => aeq a b && laq l m
  | _, _ => false
theorem laq_iff : ∀ {l m : List Ad}, laq l m = true ↔ l = m
  | [], [] => by simp [laq]
  | a :: l, b :: m => by simp [laq, aeq_iff, laq_iff]
  | [], b :: m => by simp [laq]
  | a :: l, [] => by simp [laq]
theorem laq_len {l m : List Ad} (h : l.length ≠ m.length) : laq l m = false := by
  cases hq : laq l m
  · rfl
  · exact absurd (by rw [laq_iff.1 hq]) h
set_option maxRecDepth 100000 in
set_option maxHeartbeats 1000000 in
theorem seqg_any {w : World} {a b : Option Addr} {ca cb : Nat} {l m : List Gn} (h : RdG w a l) (k : RdG w b m) (hl : l.length * 16 ≤ 140737488355328) (hm : m.length * 16 ≤ 140737488355328) :
    Calls Try.prog 40 #[.slice a l.length ca, .slice b m.length cb] w fun e w' => e = .returned (.bool (lgq l m)) ∧ Below w.heap.size w w' := by
  obtain ⟨R, hR⟩ : ∃ R, Hid (lgq l m = R) := ⟨_, rfl⟩
  rw [hR.out]
  obtain ⟨N, hN⟩ : ∃ N, Hid (l.length = N) := ⟨_, rfl⟩
  obtain ⟨M, hM⟩ : ∃ M, Hid (m.length = M) := ⟨_, rfl⟩
  have HR : Hid (RdG w a l ∧ RdG w b m) := ⟨h, k⟩
  rw [hN.out] at hl ⊢
  rw [hM.out] at hm ⊢
  clear h k
  by_cases hnm : N = M
  · subst hnm
    have hz : ((N : Int) != (N : Int)) = false := by simp
    go_enter Try.func40, Try.ntmps40
    go_wp2
    go_loopw [13] (fun i wr => ∃ k : Nat, k ≤ N ∧ i = .int .i64 k ∧ Hid (lgq (l.drop k) (m.drop k) = R) ∧ Hid (Below w.heap.size w wr)) (fun i _ => ((N : Int) - intOf i).toNat)
    case atStart => exact ⟨0, Nat.zero_le _, rfl, hR.out, Below.refl _ _⟩
    case round =>
      clear hR
      obtain ⟨k, hk, rfl, HC, HB⟩ := hrel
      rcases Nat.lt_or_ge k N with hkN | hkN
      · have hkz : (k : Int) < (N : Int) := by omega
        obtain ⟨f, hf⟩ : ∃ f, l[k]? = some f := ⟨_, List.getElem?_eq_getElem (by rw [hN.out]; exact hkN)⟩
        obtain ⟨g, hg⟩ : ∃ g, m[k]? = some g := ⟨_, List.getElem?_eq_getElem (by rw [hM.out]; exact hkN)⟩
        obtain ⟨ga, oa, e1, hat1⟩ := (HR.out.1.below HB.out).at_ hf
        obtain ⟨gb, ob, e2, hat2⟩ := (HR.out.2.below HB.out).at_ hg
        obtain ⟨y0, y1⟩ := hat1.g
        obtain ⟨z0, z1⟩ := hat2.g
        have HC' : Hid (lgq (f :: l.drop (k + 1)) (g :: m.drop (k + 1)) = R) := by
          show _ = _
          rw [← drop_get hf, ← drop_get hg]; exact HC.out
        have hq : ∀ W, (binOp .neq 66 (.agg #[.int .i64 f.lv, .int .u64 f.num]) (.agg #[.int .i64 g.lv, .int .u64 g.num])).run Try.prog W = .ok (.bool (!geq f g)) W := fun W => neqg_any f g W
        subst e1 e2
        clear hf hg hat1 hat2 HC
        cases hfg : geq f g
        · have hres : Hid (R = false) := by
            have := HC'.out
            simp only [lgq, hfg, Bool.false_and] at this
            exact this.symm
          rw [hfg] at hq
          have hq' := hq
          clear HC' hfg
          go_wp2_with (go_quiet (fail))
          go_ret
          exact ⟨by rw [hres.out]; rfl, belN HB.out _⟩
        · have HN : Hid (lgq (l.drop (k + 1)) (m.drop (k + 1)) = R) := by
            have := HC'.out
            simp only [lgq, hfg, Bool.true_and] at this
            exact this
          rw [hfg] at hq
          have hq' := hq
          clear HC' hfg
          go_wp2_with (go_quiet (fail))
          go_roundw
          case rel => exact ⟨k + 1, by omega, by go_num, HN.out, belN HB.out _⟩
          case measure => simp [intOf]; omega
      · obtain rfl : k = N := by omega
        have hz : ¬ ((k : Int) < k) := by omega
        have hres : Hid (R = true) := by
          have := HC.out
          rw [List.drop_of_length_le (by rw [hN.out]; exact Nat.le_refl _), List.drop_of_length_le (by rw [hM.out]; exact Nat.le_refl _)] at this
          exact this.symm
        go_wp2
        go_ret
        exact ⟨by rw [hres.out]; rfl, HB.out⟩
  · have hres : Hid (R = false) := by
      show _ = _
      rw [← hR.out]
      exact lgq_len (by rw [hN.out, hM.out]; exact hnm)
    have hz : ((N : Int) != (M : Int)) = true := by simp; omega
    go_enter Try.func40, Try.ntmps40
    go_wp2
    go_ret
    exact ⟨by rw [hres.out]; rfl, Below.refl _ _⟩
set_option maxRecDepth 100000 in
set_option maxHeartbeats 1000000 in
theorem seqa_any {w : World} {a b : Option Addr} {ca cb : Nat} {l m : List Ad} (h : RdA w a l) (k : RdA w b m) (hl : l.length * 104 ≤ 140737488355328) (hm : m.length * 104 ≤ 140737488355328) :
    Calls Try.prog 41 #[.slice a l.length ca, .slice b m.length cb] w fun e w' => e = .returned (.bool (laq l m)) ∧ Below w.heap.size w w' := by
  obtain ⟨R, hR⟩ : ∃ R, Hid (laq l m = R) := ⟨_, rfl⟩
  rw [hR.out]
  obtain ⟨N, hN⟩ : ∃ N, Hid (l.length = N) := ⟨_, rfl⟩
  obtain ⟨M, hM⟩ : ∃ M, Hid (m.length = M) := ⟨_, rfl⟩
  have HR : Hid (RdA w a l ∧ RdA w b m) := ⟨h, k⟩
  rw [hN.out] at hl ⊢
  rw [hM.out] at hm ⊢
  clear h k
  by_cases hnm : N = M
  · subst hnm
    have hz : ((N : Int) != (N : Int)) = false := by simp
    go_enter Try.func41, Try.ntmps41
    go_wp2
    go_loopw [13] (fun i wr => ∃ k : Nat, k ≤ N ∧ i = .int .i64 k ∧ Hid (laq (l.drop k) (m.drop k) = R) ∧ Hid (Below w.heap.size w wr)) (fun i _ => ((N : Int) - intOf i).toNat)
    case atStart => exact ⟨0, Nat.zero_le _, rfl, hR.out, Below.refl _ _⟩
    case round =>
      clear hR
      obtain ⟨k, hk, rfl, HC, HB⟩ := hrel
      rcases Nat.lt_or_ge k N with hkN | hkN
      · have hkz : (k : Int) < (N : Int) := by omega
        obtain ⟨f, hf⟩ : ∃ f, l[k]? = some f := ⟨_, List.getElem?_eq_getElem (by rw [hN.out]; exact hkN)⟩
        obtain ⟨g, hg⟩ : ∃ g, m[k]? = some g := ⟨_, List.getElem?_eq_getElem (by rw [hM.out]; exact hkN)⟩
        obtain ⟨ga, oa, e1, hat1⟩ := (HR.out.1.below HB.out).at_ hf
        obtain ⟨gb, ob, e2, hat2⟩ := (HR.out.2.below HB.out).at_ hg
        obtain ⟨y0, y1, y2, y3, y4, y5, y6, y7, y8, y9, y10⟩ := hat1.a
        obtain ⟨z0, z1, z2, z3, z4, z5, z6, z7, z8, z9, z10⟩ := hat2.a
        have HC' : Hid (laq (f :: l.drop (k + 1)) (g :: m.drop (k + 1)) = R) := by
          show _ = _
          rw [← drop_get hf, ← drop_get hg]; exact HC.out
        have hq : ∀ W, (binOp .neq 64 (.agg #[.int .i64 f.lv, .int .u64 f.f.num, .int .u64 f.f.size, .string f.f.sm.u, .int .u64 f.f.sm.s, .int .i64 f.f.sm.k, .string f.f.la.u, .int .u64 f.f.la.s, .int .i64 f.f.la.k, .int .u64 f.f.ents, .int .u64 f.f.rngs]) (.agg #[.int .i64 g.lv, .int .u64 g.f.num, .int .u64 g.f.size, .string g.f.sm.u, .int .u64 g.f.sm.s, .int .i64 g.f.sm.k, .string g.f.la.u, .int .u64 g.f.la.s, .int .i64 g.f.la.k, .int .u64 g.f.ents, .int .u64 g.f.rngs])).run Try.prog W = .ok (.bool (!aeq f g)) W := fun W => neqa_any f g W
        subst e1 e2
        clear hf hg hat1 hat2 HC
        cases hfg : aeq f g
        · have hres : Hid (R = false) := by
            have := HC'.out
            simp only [laq, hfg, Bool.false_and] at this
            exact this.symm
          rw [hfg] at hq
          have hq' := hq
          clear HC' hfg
          go_wp2_with (go_quiet (fail))
          go_ret
          exact ⟨by rw [hres.out]; rfl, belN HB.out _⟩
        · have HN : Hid (laq (l.drop (k + 1)) (m.drop (k + 1)) = R) := by
            have := HC'.out
            simp only [laq, hfg, Bool.true_and] at this
            exact this
          rw [hfg] at hq
          have hq' := hq
          clear HC' hfg
          go_wp2_with (go_quiet (fail))
          go_roundw
          case rel => exact ⟨k + 1, by omega, by go_num, HN.out, belN HB.out _⟩
          case measure => simp [intOf]; omega
      · obtain rfl : k = N := by omega
        have hz : ¬ ((k : Int) < k) := by omega
        have hres : Hid (R = true) := by
          have := HC.out
          rw [List.drop_of_length_le (by rw [hN.out]; exact Nat.le_refl _), List.drop_of_length_le (by rw [hM.out]; exact Nat.le_refl _)] at this
          exact this.symm
        go_wp2
        go_ret
        exact ⟨by rw [hres.out]; rfl, HB.out⟩
  · have hres : Hid (R = false) := by
      show _ = _
      rw [← hR.out]
      exact laq_len (by rw [hN.out, hM.out]; exact hnm)
    have hz : ((N : Int) != (M : Int)) = true := by simp; omega
    go_enter Try.func41, Try.ntmps41
    go_wp2
    go_ret
    exact ⟨by rw [hres.out]; rfl, Below.refl _ _⟩
end Go.Proofs.Ytkmpcheamdadcaa
