/-
  The reference's numbers.
-/
import Derived.Test.YtkmpcheamdadcaaDc
namespace Go.Proofs.Ytkmpcheamdadcaa
open Go.RowKit
set_option linter.unusedVariables false
set_option linter.unusedSimpArgs false
set_option maxRecDepth 100000 in
set_option maxHeartbeats 2000000 in
theorem numbers_any {w : World} {base : Nat} {v : Value} {l : List Int} (h : OwnB w base v l) (hb : base ≤ w.heap.size) {a : Option Addr} {cap : Nat} {ns : List Int} (hr : Rd uc 1 w a ns) (hne : ∀ g o, a = some ⟨g, o, none⟩ → v.ownBlock ≠ some g ∧ g < w.heap.size) (hn : ∀ n ∈ ns, 0 ≤ n ∧ n < 18446744073709551616) (hl : l.length ≤ 1000000000) (hnl : ns.length ≤ 100) :
    Calls Try.prog 37 #[v, .slice a ns.length cap] w fun e w' => ∃ v', e = .returned v' ∧ AppB w w' base v v' (l ++ nbs ns) := by
  obtain ⟨i0, hi, hz0, hz1, hz2⟩ := info_parts info5
  have HR : Hid (Rd uc 1 w a ns ∧ (∀ g o, a = some ⟨g, o, none⟩ → v.ownBlock ≠ some g ∧ g < w.heap.size) ∧ ∀ n ∈ ns, 0 ≤ n ∧ n < 18446744073709551616) := ⟨hr, hne, hn⟩
  have A1 : AppB w w base v v l := ⟨h, Upd.refl _ _, .inl rfl⟩
  have HLl : Hid (l.length ≤ 1000000000) := hl
  obtain ⟨N, hN⟩ : ∃ N, Hid (ns.length = N) := ⟨_, rfl⟩
  rw [hN.out] at hnl ⊢
  clear hr hne hn hl
  go_enter Try.func37, Try.ntmps37
  go_wp2
  clear h
  go_loopw [0, 5] (fun u i wr => ∃ k : Nat, k ≤ N ∧ i = .int .i64 k ∧ Hid (AppB w wr base v u (l ++ nbs (ns.take k)))) (fun _ i _ => (N : Int).toNat - (intOf i).toNat)
  case atStart => exact ⟨0, Nat.zero_le _, rfl, by show AppB _ _ _ _ _ _; simpa [nbs] using A1⟩
  case round =>
    clear A1
    obtain ⟨k, hk, rfl, HA⟩ := hrel
    by_cases hlt : k < N
    · have hkz : (k : Int) < (N : Int) := by omega
      obtain ⟨x, hx⟩ : ∃ x, ns[k]? = some x := ⟨_, List.getElem?_eq_getElem (by rw [hN.out]; exact hlt)⟩
      obtain ⟨g, o, rfl, hat⟩ := (HR.out.1.upd HA.out.upd (fun g o e => (HR.out.2.1 g o e).1)).at_ hx
      have c0 := hat 0 _ rfl
      rw [Nat.mul_one, Nat.add_zero] at c0
      obtain ⟨x0, x1⟩ := HR.out.2.2 x (List.mem_of_getElem? hx)
      have HV := fun W => rvarint_any x W x0 x1
      have hbw : base ≤ wr.heap.size := Nat.le_trans hb HA.out.upd.size
      have HLx : Hid ((l ++ nbs (ns.take k)).length + (vL 10 x).length ≤ 140737488355328) := by
        show _ ≤ _
        have h1 := nbs_len (ns.take k)
        have h2 := vL_len x
        have h3 : (ns.take k).length ≤ N := by rw [← hN.out]; simp; omega
        have := HLl.out
        simp only [List.length_append, List.length_cons, List.length_nil] at *
        omega
      have HS : Hid (l ++ nbs (ns.take k) ++ vL 10 x = l ++ nbs (ns.take (k + 1))) := by
        show _ = _
        rw [take_snoc' hx, nbs_snoc]; simp
      have HO := HA.out.own
      clear hx hat x0 x1
      generalize l ++ nbs (ns.take k) = l1 at *
      go_wp2_with (first
        | (go_at_call 73; refine (HV _).mono ?_; rintro e w2 ⟨v2, rfl, ho2, hb2⟩; have ho := HO.below hb2 (Nat.le_refl _); have hz2' := hb2.size)
        | (at_builtin; refine OwnB.wpList_append rfl _ _ 28 28 rfl rfl (base := base) (l := l1) ho i0 Try.underlying28 hi hz0 hz1 hz2 v2 rfl (vL 10 x) ho2.src (by omega) HLx.out ?_; intro v3 w3 ho3 hg3 hl3; have A3 := HA.out.trans (AppB.pre hb2 (AppB.grow ho3 hg3 hl3))))
      go_roundw
      case rel => exact ⟨k + 1, by omega, by go_num, by show AppB _ _ _ _ _ _; rw [← HS.out]; exact A3⟩
      case measure => simp [intOf]; omega
    · obtain rfl : k = N := by omega
      have hz : ¬ ((k : Int) < k) := by omega
      have HA' : Hid (AppB w wr base v u0 (l ++ nbs ns)) := by
        have := HA.out
        rw [List.take_of_length_le (by rw [hN.out]; exact Nat.le_refl _)] at this
        exact this
      clear HA
      go_wp2
      go_ret
      exact ⟨_, rfl, HA'.out⟩
theorem numbers_new {W : World} {base : Nat} {v : Value} {l : List Int} (h : OwnB W base v l) (hb : base ≤ W.heap.size) (ns : List Int) {g : Nat} {t : TypeId} (hB : Blk W g t (cls uc ns)) (hg : v.ownBlock ≠ some g) (hn : ∀ n ∈ ns, 0 ≤ n ∧ n < 18446744073709551616) (hl : l.length ≤ 1000000000) (hnl : ns.length ≤ 100) (c : Nat) :
    Calls Try.prog 37 #[v, .slice (some ⟨g, 0, none⟩) ns.length c] W fun e w' => ∃ v', e = .returned v' ∧ AppB W w' base v v' (l ++ nbs ns) :=
  numbers_any h hb (rd_cells uc_k hB) (fun g' o e => by cases e; exact ⟨hg, hB.lt⟩) hn hl hnl
end Go.Proofs.Ytkmpcheamdadcaa
