/-
  between: the pieces from each key up to the next one.
-/
import Derived.Test.YtagnnocecfoggaaSt
namespace Go.Proofs.Ytagnnocecfoggaa
open Go.RowKit
set_option linter.unusedVariables false
set_option linter.unusedSimpArgs false
def Pc0 (p : ByteArray × ByteArray) : Pc := ⟨p.1, p.2, none, 0, 0⟩
theorem pushP {w : World} {base : Nat} {v : Value} {l : List Pc} (h : RowP w base v l) (hb : base ≤ w.heap.size) {vb : Nat} {x : Pc} {tb : TypeId} (hv : Blk w vb tb (x.c)) (ty : TypeId) (hl : l.length ≤ 10000000) :
    ∃ v' w', (Builtin.append_ #[23, 23] ty #[v, .slice (some ⟨vb, 0, none⟩) 1 1]).run Try.prog w = .ok v' w' ∧ RowP w' base v' (l ++ [x]) ∧ Upd (fun k => v.ownBlock = some k) w w' ∧ (v'.ownBlock = v.ownBlock ∨ v'.ownBlock = some w.heap.size) ∧ v' ≠ .slice none 0 0 :=
  push_g pc_k pc_1 Try.underlying23 info63 rfl (by decide) h hb hv ty (by omega) (by unfold maxLen; omega)
set_option maxRecDepth 100000 in
set_option maxHeartbeats 1000000 in
theorem between_any {w : World} {a : Option Addr} {cap : Nat} {K : List ByteArray} (h : Rd sc 1 w a K) (hl : K.length ≤ 10000) :
    Calls Try.prog 47 #[.slice a K.length cap] w fun e w' => ∃ v, e = .returned v ∧ RowP w' w.heap.size v ((pcs K).map Pc0) ∧ Below w.heap.size w w' := by
  have H : Hid (Rd sc 1 w a K) := h
  clear h
  have HPL : Hid ((pcs K).length = K.length - 1) := pcs_len K
  obtain ⟨N, hN⟩ : ∃ N, Hid (N = K.length) := ⟨_, rfl⟩
  rw [← hN.out] at hl ⊢ HPL
  go_enter Try.func47, Try.ntmps47
  go_wp2_with fail
  go_loopw [3, 4] (fun v i wr => ∃ k : Nat, (k = 0 ∨ k < N) ∧ i = .int .i64 ((k : Int) + 1) ∧ Hid (RowP wr w.heap.size v (((pcs K).take k).map Pc0) ∧ Below w.heap.size w wr)) (fun _ i _ => ((N : Int) - intOf i).toNat)
  case atStart => exact ⟨0, .inl rfl, rfl, World.ownsRow_nil _ _ _ _, Below.refl _ _⟩
  case round =>
    obtain ⟨k, hk, rfl, HB⟩ := hrel
    rcases Nat.lt_or_ge (k + 1) N with hkN | hkN
    · have hkz : (k : Int) + 1 < N := by omega
      have hkz0 : (k : Int) < N := by omega
      have hs1 : (k : Int) + 1 - 1 = k := by omega
      have hw0 : IntKind.i64.wrap (k : Int) = k := by rw [IntKind.wrap_i64]; omega
      have hw1 : IntKind.i64.wrap ((k : Int) + 1 - 1) = k := by rw [IntKind.wrap_i64]; omega
      obtain ⟨x, hx⟩ : ∃ x, K[k]? = some x := ⟨K[k]'(by rw [← hN.out]; omega), List.getElem?_eq_getElem _⟩
      obtain ⟨y, hy⟩ : ∃ y, K[k + 1]? = some y := ⟨K[k + 1]'(by rw [← hN.out]; omega), List.getElem?_eq_getElem _⟩
      have hp : (pcs K)[k]? = some (x, y) := pcs_get.2 ⟨hx, hy⟩
      obtain ⟨g, o, rfl, hat⟩ := (H.out.below HB.out.2).at_ hx
      obtain ⟨g', o', e', hat'⟩ := (H.out.below HB.out.2).at_ hy
      cases e'
      have t0 := hat.s1
      have t1 := hat'.s1
      rw [Nat.mul_one] at t0 t1
      have h0k : (0 : Int) ≤ (k : Int) + 1 := by omega
      obtain ⟨va, vc, hv⟩ := row_slice HB.out.1
      have HF : Hid (((pcs K).take (k + 1)).map Pc0 = ((pcs K).take k).map Pc0 ++ [Pc0 (x, y)]) := by show _ = _; rw [List.take_add_one, hp]; simp
      have HL : Hid ((((pcs K).take k).map Pc0).length ≤ 10000) := by show _ ≤ _; simp; omega
      generalize ((pcs K).take k).map Pc0 = L at *
      generalize hLn : L.length = LN at *
      subst hv
      have hbw : Below wr.heap.size wr (wr.drew.alloc (.cells #[.string x, .string y, .slice none 0 0] 63)) := (Below.refl _ _).drew.alloc (Nat.le_refl _) _
      obtain ⟨v', w9, hr9, g2, g3, g4, _⟩ := pushP (base := w.heap.size) (x := Pc0 (x, y)) (row_upd HB.out.1 (S := Non) (Upd.ofBelow hbw) (fun _ _ h => h)) (by have := HB.out.2.size; simp; omega) (Blk.new wr.drew 63 (Pc0 (x, y)).c) 23 (by have := HL.out; omega)
      have HP : Hid (RowP w9 w.heap.size v' (L ++ [Pc0 (x, y)]) ∧ Below w.heap.size w w9) := by
        refine ⟨g2, ?_⟩
        have h1 : Below w.heap.size w (wr.drew.alloc (.cells #[.string x, .string y, .slice none 0 0] 63)) := HB.out.2.drew.alloc HB.out.2.size _
        exact h1.trans (g3.below (fun k hk => Nat.lt_of_lt_of_le hk h1.size) (fun j hj => (row_blk HB.out.1 j hj).1))
      obtain ⟨va', vc', hv'⟩ := row_slice g2
      obtain ⟨M, hM⟩ : ∃ M, Hid ((L ++ [Pc0 (x, y)]).length = M) := ⟨_, rfl⟩
      rw [hM.out] at hv'
      subst hv'
      clear g2 g3 g4 hat hat' hx hy hp hbw
      go_wp2_with fail
      go_region_law (first | (refine step_append_run (by rfl) _ _ _ _ (by rfl) (by rfl) (by rfl) (by rfl) hr9 ?_; skip))
      all_goals
        go_wp2_with fail
        go_roundw
        case rel => 
          refine ⟨k + 1, .inr (by omega), by go_num, ?_, HP.out.2⟩
          rw [HF.out]
          exact HP.out.1
        case measure => simp [intOf]; omega
    · have hz : ¬ ((k : Int) + 1 < N) := by omega
      obtain ⟨va, vc, hv⟩ := row_slice HB.out.1
      rw [List.take_of_length_le (by rw [HPL.out]; omega)] at HB hv
      obtain ⟨M, hM⟩ : ∃ M, Hid (((pcs K).map Pc0).length = M) := ⟨_, rfl⟩
      rw [hM.out] at hv
      subst hv
      go_wp2_with fail
      go_ret
      exact ⟨_, rfl, HB.out⟩
end Go.Proofs.Ytagnnocecfoggaa
