import Derived.Test.YtkpijoogaicodaaFa
import Derived.Test.YtkpijoogaicodaaPa
namespace Go.Proofs.Ytkpijoogaicodaa
open Go.RowKit
set_option linter.unusedVariables false
set_option linter.unusedSimpArgs false

set_option maxRecDepth 100000 in
set_option maxHeartbeats 1000000 in
theorem qencode_no1 (seq : Int) (a : Option Addr) (n c : Nat) (w : World) (s0 : 0 ≤ seq) (s1 : seq < 18446744073709551616) (hn : (n : Int) < 9223372036854775808) (h : numb seq n = false) :
    Calls Try.prog 9 #[.int .u64 seq, .slice a n c] w fun e w' => e = .returned (.tuple #[.slice none 0 0, .int .i64 1]) ∧ w' = w := by
  have HN := qnumb_any seq n w s0 s1 (by omega) (by omega)
  rw [h] at HN
  go_enter Try.func9, Try.ntmps9
  go_wp2_with (go_at_call 31; refine HN.mono ?_; rintro e w' ⟨rfl, rfl⟩)
  go_ret2
  exact ⟨rfl, rfl⟩
set_option maxRecDepth 100000 in
set_option maxHeartbeats 1000000 in
theorem qencode_no2 (seq : Int) (a : Option Addr) (n c : Nat) (w : World) (s0 : 0 ≤ seq) (s1 : seq < 18446744073709551616) (hn : (n : Int) < 9223372036854775808) (h : numb seq n = true) (hl : 4096 < (n : Int)) :
    Calls Try.prog 9 #[.int .u64 seq, .slice a n c] w fun e w' => e = .returned (.tuple #[.slice none 0 0, .int .i64 2]) ∧ w' = w := by
  have HN := qnumb_any seq n w s0 s1 (by omega) (by omega)
  rw [h] at HN
  go_enter Try.func9, Try.ntmps9
  go_wp2_with (go_at_call 31; refine HN.mono ?_; rintro e w' ⟨rfl, rfl⟩)
  go_ret2
  exact ⟨rfl, rfl⟩

set_option maxRecDepth 100000 in
set_option maxHeartbeats 1000000 in
/-- The records with no value where they tell of none. -/
theorem plain_any {w : World} {v : Value} {l : List Rec} (h : RdR w v l) (hl : l.length ≤ 5000) :
    Calls Try.prog 15 #[v] w fun e w' => ∃ v', e = .returned v' ∧ RdR w' v' (l.map plainR) ∧ Below w.heap.size w w' := by
  obtain ⟨a, c, rfl⟩ := h.len
  have H0 : (w.alloc (.cells #[] 31)).ownsRow 0 31 4 (.slice (some ⟨w.heap.size, 0, none⟩) 0 0) (([] : List Rec).map plainR).length (rcs (([] : List Rec).map plainR)) :=
    World.ownsRow_made (base := 0) (e := 31) (size := 4) w #[] 0 (Nat.zero_le _) (by unfold maxLen; omega) rfl
  go_enter Try.func15, Try.ntmps15
  go_wp2
  go_loopw [3, 4] (fun lv i wr => ∃ (k : Nat), k ≤ l.length ∧ i = .int .i64 k ∧ wr.ownsRow 0 31 4 lv ((l.take k).map plainR).length (rcs ((l.take k).map plainR)) ∧ Below w.heap.size w wr ∧ New w.heap.size lv) (fun _ i _ => l.length - (intOf i).toNat)
  case atStart => exact ⟨0, Nat.zero_le _, rfl, H0, (Below.refl _ _).alloc (Nat.le_refl _) _, fun k hk => by simp [Value.ownBlock] at hk; omega⟩
  case round =>
    clear H0
    obtain ⟨k, hk, rfl, hrow, hbel, hnew⟩ := hrel
    by_cases hlt : k < l.length
    · obtain ⟨b, off, cap, hv, hb, c0, c1, c2, c3⟩ := (h.below hbel).at hlt
      cases hv
      have HT : Hid ((l.take (k + 1)).map plainR = (l.take k).map plainR ++ [plainR l[k]]) := by show _ = _; rw [List.take_succ_eq_append_getElem hlt, List.map_append]; rfl
      have HC := fun w => qplain_any l[k] w
      have hlen : ((l.take k).map plainR).length ≤ k := by simp; omega
      generalize (l.take k).map plainR = rs at *
      generalize plainR l[k] = p at *
      generalize l[k] = r at *
      obtain ⟨f, kd, key, val⟩ := r
      obtain ⟨f', kd', key', val'⟩ := p
      dsimp only at *
      have hlk : (k : Int) < (l.length : Int) := by omega
      have hn48 : (rs.length + [(⟨f', kd', key', val'⟩ : Rec)].length) * 48 ≤ 140737488355328 := by simp; omega
      go_wp2_with (first
        | (at_builtin
           refine wpList_append_rows (rs := rs) (l := [⟨f', kd', key', val'⟩]) rfl _ _ rfl rfl rfl (row1.alloc _) (Nat.zero_le _) (one_rd' _ _ (by simp) ⟨f', kd', key', val'⟩) hn48 ?_
           intro v' w3 ho3 hg3 hl3)
        | (go_at_call 41; refine (HC _).mono ?_; rintro e w1 ⟨rfl, hb1⟩; have row1 := row_upd hrow (Upd.ofBelow hb1) (S := Non) (fun _ _ hh => hh); have bel1 := bstep hbel hb1))
      go_roundw
      case rel => exact ⟨k + 1, by omega, by go_num, by rw [HT.out]; exact ho3, Upd.bel (bel1.alloc bel1.size _) ((Upd.refl _ _).grown hg3 (fun k hk _ => hk)) hnew, hnew.step (bel1.alloc bel1.size _).size (by
          rcases hl3 with e | e
          · exact .inl e
          · exact .inr fun j hj => by rw [e] at hj; cases hj; exact Nat.le_refl _)⟩
      case measure => simp [intOf]; omega
    · obtain rfl : k = l.length := by omega
      rw [List.take_length] at hrow
      go_wp2
      go_ret
      exact ⟨_, rfl, row_rd hrow, hbel⟩
end Go.Proofs.Ytkpijoogaicodaa
