/-
  lying: the tombstones that lie over something, in a row of the call's own.
-/
import Derived.Test.YtagnnocecfoggaaT
import Derived.Lib.AppendZeros
namespace Go.Proofs.Ytagnnocecfoggaa
open Go.RowKit
set_option linter.unusedVariables false
set_option linter.unusedSimpArgs false
abbrev RowT (w : World) (base : Nat) (v : Value) (l : List Tm) : Prop := w.ownsRow base 56 3 v l.length (cls Tm.c l)
theorem rowt_below {w w' : World} {base : Nat} {v : Value} {l : List Tm} (h : RowT w base v l) (hb : Below w.heap.size w w') : RowT w' base v l := row_upd h (S := Non) (Upd.ofBelow hb) (fun _ _ h => h)
theorem filter_take {α : Type} (p : α → Bool) (l : List α) (k : Nat) (x : α) (h : l[k]? = some x) : (l.take (k + 1)).filter p = (l.take k).filter p ++ (if p x = true then [x] else []) := by
  rw [List.take_add_one, h, List.filter_append]
  simp [List.filter_cons]
set_option maxRecDepth 100000 in
set_option maxHeartbeats 1000000 in
theorem lying_any {w : World} {a : Option Addr} {cap : Nat} {l : List Tm} (h : RdT w a l) (how : Int) (hl : l.length ≤ 1024) :
    Calls Try.prog 33 #[.int .i64 how, .slice a l.length cap] w fun e w' => ∃ v, e = .returned v ∧ RowT w' w.heap.size v (l.filter (lies how)) ∧ Below w.heap.size w w' := by
  have H : Hid (RdT w a l) := h
  clear h
  obtain ⟨N, hN⟩ : ∃ N, Hid (N = l.length) := ⟨_, rfl⟩
  rw [← hN.out] at hl ⊢
  go_enter Try.func33, Try.ntmps33
  go_wp2_with fail
  go_loopw [5, 10] (fun v i wr => ∃ k : Nat, k ≤ N ∧ i = .int .i64 k ∧ Hid (RowT wr w.heap.size v ((l.take k).filter (lies how)) ∧ Below w.heap.size w wr)) (fun _ i _ => ((N : Int) - intOf i).toNat)
  case atStart => exact ⟨0, Nat.zero_le _, rfl, World.ownsRow_nil _ _ _ _, Below.refl _ _⟩
  case round =>
    obtain ⟨k, hk, rfl, HB⟩ := hrel
    rcases Nat.lt_or_ge k N with hkN | hkN
    · have hkz : (k : Int) < N := by omega
      obtain ⟨t, ht⟩ : ∃ t, l[k]? = some t := ⟨l[k]'(by rw [← hN.out]; omega), List.getElem?_eq_getElem _⟩
      obtain ⟨g, o, rfl, hat⟩ := (H.out.below HB.out.2).at_ ht
      obtain ⟨t0, t1, t2⟩ := hat.t
      obtain ⟨va, vc, hv⟩ := row_slice HB.out.1
      have HF : Hid ((l.take (k + 1)).filter (lies how) = (l.take k).filter (lies how) ++ (if lies how t = true then [t] else [])) := filter_take _ _ _ _ ht
      have HL : Hid (((l.take k).filter (lies how)).length ≤ 1024) := Nat.le_trans (List.length_filter_le _ _) (by simp; omega)
      generalize (l.take k).filter (lies how) = L at *
      generalize hLn : L.length = LN at *
      subst hv
      have HB2 : Hid (Below w.heap.size w (wr.alloc (.cells #[.string t.b, .string t.e, .int .u64 t.s] 56))) := HB.out.2.alloc HB.out.2.size _
      clear hat ht
      cases hlt : lies how t
      · have hc : ¬ cmpH how t.b t.e < 0 := by simpa [lies, kl] using hlt
        go_wp2_with (go_at_call 42; refine (ccmp_any _ _ _ _).mono ?_; rintro e w' ⟨rfl, rfl⟩)
        go_roundw
        case rel => 
          refine ⟨k + 1, by omega, by go_num, ?_, HB2.out⟩
          rw [HF.out, hlt]
          simp only [Bool.false_eq_true, if_false, List.append_nil]
          exact rowt_below HB.out.1 ((Below.refl _ _).alloc (Nat.le_refl _) _)
        case measure => simp [intOf]; omega
      · have hc : cmpH how t.b t.e < 0 := by simpa [lies, kl] using hlt
        obtain ⟨v', w9, hr9, g2, g3, g4, _⟩ := push_tm (base := w.heap.size) (x := t) (rowt_below (rowt_below HB.out.1 ((Below.refl _ _).alloc (Nat.le_refl _) (.cells #[.string t.b, .string t.e, .int .u64 t.s] 56))) ((Below.refl _ _).alloc (Nat.le_refl _) (.cells #[.string t.b, .string t.e, .int .u64 t.s] 56))) (by have := HB.out.2.size; simp; omega) (Blk.new _ 56 t.c) 22 (by have := HL.out; omega)
        have HP : Hid (RowT w9 w.heap.size v' (L ++ [t]) ∧ Below w.heap.size w w9) := by
          refine ⟨g2, ?_⟩
          refine (HB2.out.alloc HB2.out.size _).trans (g3.below (fun k hk => Nat.lt_of_lt_of_le hk (by have := HB2.out.size; simp at this ⊢; omega)) (fun j hj => (row_blk HB.out.1 j hj).1))
        obtain ⟨va', vc', hv'⟩ := row_slice g2
        obtain ⟨M, hM⟩ : ∃ M, Hid ((L ++ [t]).length = M) := ⟨_, rfl⟩
        rw [hM.out] at hv'
        subst hv'
        rw [World.size_alloc] at hr9
        clear g2 g3 g4
        go_wp2_with (first
          | (go_at_call 42; refine (ccmp_any _ _ _ _).mono ?_; rintro e w' ⟨rfl, rfl⟩)
          | (at_builtin; refine Lib.wpList_append_run _ rfl _ _ _ _ rfl _ _ rfl rfl _ _ hr9 ?_))
        go_roundw
        case rel => 
          refine ⟨k + 1, by omega, by go_num, ?_, HP.out.2⟩
          rw [HF.out, hlt]
          exact HP.out.1
        case measure => simp [intOf]; omega
    · obtain rfl : k = N := by omega
      have hz : ¬ ((k : Int) < k) := by omega
      obtain ⟨va, vc, hv⟩ := row_slice HB.out.1
      rw [List.take_of_length_le (by rw [← hN.out]; omega)] at HB hv
      subst hv
      go_wp2_with fail
      go_ret
      exact ⟨_, rfl, HB.out⟩
end Go.Proofs.Ytagnnocecfoggaa
