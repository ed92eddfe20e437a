/-
  Two lists of fragments, of tombstones, that read the same.
-/
import Derived.Test.YtagnnocecfoggaaLv
import Derived.Laws.StructEq
namespace Go.Proofs.Ytagnnocecfoggaa
open Go.RowKit
set_option linter.unusedVariables false
set_option linter.unusedSimpArgs false
set_option maxRecDepth 100000 in
set_option maxHeartbeats 1000000 in
theorem frags_same {w : World} {a a' : Option Addr} {c c' : Nat} {L : List Fg} (h1 : RdF w a L) (h2 : RdF w a' L) (hl : L.length ≤ 100000) (hq : ∀ f ∈ L, f.q.length ≤ 100000) :
    Calls Try.prog 12 #[.slice a L.length c, .slice a' L.length c'] w fun e w' => e = .returned (.bool true) ∧ Below w.heap.size w w' := by
  have H1 : Hid (RdF w a L) := h1
  have H2 : Hid (RdF w a' L) := h2
  have HQ : Hid (∀ f ∈ L, f.q.length ≤ 100000) := hq
  obtain ⟨N, hN⟩ : ∃ N, Hid (L.length = N) := ⟨_, rfl⟩
  rw [hN.out] at hl ⊢
  clear h1 h2 hq
  go_enter Try.func12, Try.ntmps12
  go_wp2_with fail
  go_loopw [5] (fun s wr => ∃ i : Nat, i ≤ N ∧ s = .int .i64 i ∧ Hid (Below w.heap.size w wr)) (fun s _ => ((N : Int) - intOf s).toNat)
  case atStart => exact ⟨0, Nat.zero_le _, rfl, Below.refl _ _⟩
  case round =>
    obtain ⟨i, hi, rfl, HB⟩ := hrel
    rcases Nat.lt_or_ge i N with hiN | hiN
    · have hiz : (i : Int) < N := by omega
      obtain ⟨f, hf⟩ : ∃ f, L[i]? = some f := ⟨_, List.getElem?_eq_getElem (by rw [hN.out]; exact hiN)⟩
      have HT : Hid (∀ W, Below w.heap.size w W → ∃ g o pa pk g' o' pa' pk', a = some ⟨g, o, none⟩ ∧ a' = some ⟨g', o', none⟩ ∧ W.cell? ⟨g, o + i * 3, none⟩ = some (.string f.b) ∧ W.cell? ⟨g, o + i * 3 + 1, none⟩ = some (.string f.e) ∧ W.cell? ⟨g, o + i * 3 + 2, none⟩ = some (.slice pa f.q.length pk) ∧ W.cell? ⟨g', o' + i * 3, none⟩ = some (.string f.b) ∧ W.cell? ⟨g', o' + i * 3 + 1, none⟩ = some (.string f.e) ∧ W.cell? ⟨g', o' + i * 3 + 2, none⟩ = some (.slice pa' f.q.length pk') ∧ Rd uc 1 W pa f.q ∧ Rd uc 1 W pa' f.q) := fun W hb => by
        obtain ⟨g, o, pa, pk, e, t0, t1, t2, t3⟩ := (H1.out.below hb).at_ hf
        obtain ⟨g', o', pa', pk', e', t0', t1', t2', t3'⟩ := (H2.out.below hb).at_ hf
        exact ⟨g, o, pa, pk, g', o', pa', pk', e, e', t0, t1, t2, t0', t1', t2', t3, t3'⟩
      obtain ⟨g, o, pa, pk, g', o', pa', pk', rfl, rfl, t0, t1, t2, u0, u1, u2, t3, u3⟩ := HT.out wr HB.out
      have hql := HQ.out f (List.mem_of_getElem? hf)
      have HR3 : Hid (Rd uc 1 wr pa f.q ∧ Rd uc 1 wr pa' f.q) := ⟨t3, u3⟩
      obtain ⟨QN, hQN⟩ : ∃ QN, Hid (f.q.length = QN) := ⟨_, rfl⟩
      rw [hQN.out] at t2 u2 hql
      have hee : (f.b.toList == f.b.toList) = true := by simp
      have hee2 : (f.e.toList == f.e.toList) = true := by simp
      clear hf t3 u3 HT
      obtain ⟨W0, hW0⟩ : ∃ W0, W0 = wr := ⟨_, rfl⟩
      rw [← hW0] at t0 t1 t2 u0 u1 u2 HB HR3 ⊢
      clear hW0
      go_wp2_with fail
      go_quiet (fail)
      have v2 : ∀ n, (W0.drewN n).cell? ⟨g, o + i * 3 + 2, none⟩ = some (.slice pa QN pk) := fun n => t2
      have HB1 : Hid (Below w.heap.size w (W0.drewN nq) ∧ Below W0.heap.size W0 (W0.drewN nq)) := ⟨belN HB.out _, belN (Below.refl _ _) _⟩
      go_wp2_with fail
      go_loopw [6] (fun s wr => ∃ k : Nat, k ≤ QN ∧ s = .int .i64 k ∧ Hid (Below w.heap.size w wr ∧ Below W0.heap.size W0 wr)) (fun s _ => ((QN : Int) - intOf s).toNat)
      case atStart => exact ⟨0, Nat.zero_le _, rfl, HB1.out⟩
      case round =>
        clear HB1
        obtain ⟨k, hk, rfl, HK⟩ := hrel
        have c2 := cell_below HK.out.2 t2
        have d2 := cell_below HK.out.2 u2
        rcases Nat.lt_or_ge k QN with hkN | hkN
        · have hkz : (k : Int) < QN := by omega
          obtain ⟨x, hx⟩ : ∃ x, f.q[k]? = some x := ⟨_, List.getElem?_eq_getElem (by rw [hQN.out]; exact hkN)⟩
          obtain ⟨pg, po, rfl, hat⟩ := (HR3.out.1.below HK.out.2).at_ hx
          obtain ⟨pg', po', rfl, hat'⟩ := (HR3.out.2.below HK.out.2).at_ hx
          have x0 := hat.u1
          have x1 := hat'.u1
          rw [Nat.mul_one] at x0 x1
          have HBn : Hid (∀ n, Below w.heap.size w (wr.drewN n) ∧ Below W0.heap.size W0 (wr.drewN n)) := fun n => ⟨belN HK.out.1 n, belN HK.out.2 n⟩
          have hxx : (x != x) = false := by simp
          clear hx hat hat'
          go_wp2_with fail
          go_quiet (fail)
          go_wp2_with fail
          go_roundw
          case rel => exact ⟨k + 1, by omega, by go_num, HBn.out _⟩
          case measure => simp [intOf]; omega
        · obtain rfl : k = QN := by omega
          have hz : ¬ ((k : Int) < k) := by omega
          go_wp2_with fail
          go_roundw
          case rel => exact ⟨i + 1, by omega, by go_num, HK.out.1⟩
          case measure => simp [intOf]; omega
    · obtain rfl : i = N := by omega
      have hz : ¬ ((i : Int) < i) := by omega
      go_wp2_with fail
      go_ret
      exact ⟨rfl, HB.out⟩
theorem bytes_beq (a b : ByteArray) : (a.toList == b.toList) = decide (a = b) := by
  rw [Bool.eq_iff_iff]
  simp only [beq_iff_eq, ByteArray.toList_eq, decide_eq_true_eq]
  exact ba_eq
set_option maxRecDepth 100000 in
set_option maxHeartbeats 1000000 in
theorem neq_tomb (W : World) (a : Tm) : (binOp .neq 56 a.v a.v).run Try.prog W = .ok (.bool false) W := by
  have hf : Try.prog.underlying 56 = some (.struct (Try.prog.fieldsOf 56)) := by kernel_rfl
  obtain ⟨ab, ae, as_⟩ := a
  have h1 : ∀ w, (part 9 #[.string ab, .string ae, .int .u64 as_] 0).run Try.prog w = .ok (.string ab) w := fun w => by kernel_rfl
  have h2 : ∀ w, (part 9 #[.string ab, .string ae, .int .u64 as_] 1).run Try.prog w = .ok (.string ae) w := fun w => by kernel_rfl
  have h3 : ∀ w, (part 38 #[.string ab, .string ae, .int .u64 as_] 2).run Try.prog w = .ok (.int .u64 as_) w := fun w => by kernel_rfl
  show (binOp .neq 56 (.agg #[.string ab, .string ae, .int .u64 as_]) (.agg #[.string ab, .string ae, .int .u64 as_])).run Try.prog W = _
  rw [run_neq_struct, run_equalIn_agg W 9999 56 _ _ hf (by kernel_rfl)]
  have e9 : ∀ w a b, (Op.equalIn 9999 9 (.string a) (.string b)).run Try.prog w = .ok (a.toList == b.toList) w := fun w a b => run_equalIn_string w 9998 9 a b Try.underlying9
  have e38 : ∀ w a b, (Op.equalIn 9999 38 (.int .u64 a) (.int .u64 b)).run Try.prog w = .ok (a == b) w := fun w a b => run_equalIn_int w 9998 38 .u64 .u64 a b Try.underlying38
  simp only [Program.fieldsOf, Try.underlying56, Op.eqFields, Sem.run_bind, Sem.run_ite, Sem.run_pure, h1, h2, h3, e9, e38, Result.andThen_ok, bytes_beq]
  simp [Result.andThen]
set_option maxRecDepth 100000 in
set_option maxHeartbeats 1000000 in
theorem tombs_same {w : World} {a a' : Option Addr} {c c' : Nat} {T : List Tm} (h1 : RdT w a T) (h2 : RdT w a' T) (hl : T.length ≤ 10000000) :
    Calls Try.prog 13 #[.slice a T.length c, .slice a' T.length c'] w fun e w' => e = .returned (.bool true) ∧ Below w.heap.size w w' := by
  have H1 : Hid (RdT w a T) := h1
  have H2 : Hid (RdT w a' T) := h2
  obtain ⟨N, hN⟩ : ∃ N, Hid (T.length = N) := ⟨_, rfl⟩
  rw [hN.out] at hl ⊢
  clear h1 h2
  go_enter Try.func13, Try.ntmps13
  go_wp2_with fail
  go_loopw [5] (fun s wr => ∃ i : Nat, i ≤ N ∧ s = .int .i64 i ∧ Hid (Below w.heap.size w wr)) (fun s _ => ((N : Int) - intOf s).toNat)
  case atStart => exact ⟨0, Nat.zero_le _, rfl, Below.refl _ _⟩
  case round =>
    obtain ⟨i, hi, rfl, HB⟩ := hrel
    rcases Nat.lt_or_ge i N with hiN | hiN
    · have hiz : (i : Int) < N := by omega
      obtain ⟨f, hf⟩ : ∃ f, T[i]? = some f := ⟨_, List.getElem?_eq_getElem (by rw [hN.out]; exact hiN)⟩
      obtain ⟨g, o, rfl, hat⟩ := (H1.out.below HB.out).at_ hf
      obtain ⟨g', o', rfl, hat'⟩ := (H2.out.below HB.out).at_ hf
      obtain ⟨t0, t1, t2⟩ := hat.t
      obtain ⟨u0, u1, u2⟩ := hat'.t
      have HBn : Hid (∀ n, Below w.heap.size w (wr.drewN n)) := fun n => belN HB.out n
      have hnq : ∀ W, (binOp .neq 56 (.agg #[.string f.b, .string f.e, .int .u64 f.s]) (.agg #[.string f.b, .string f.e, .int .u64 f.s])).run Try.prog W = .ok (.bool false) W := fun W => neq_tomb W f
      clear hf hat hat'
      go_wp2_with fail
      go_quiet (fail)
      go_wp2_with fail
      go_roundw
      case rel => exact ⟨i + 1, by omega, by go_num, HBn.out _⟩
      case measure => simp [intOf]; omega
    · obtain rfl : i = N := by omega
      have hz : ¬ ((i : Int) < i) := by omega
      go_wp2_with fail
      go_ret
      exact ⟨rfl, HB.out⟩
end Go.Proofs.Ytagnnocecfoggaa
