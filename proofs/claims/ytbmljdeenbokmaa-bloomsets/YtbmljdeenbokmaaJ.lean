/-
  BloomSets: the walk.
-/
import Derived.Test.YtbmljdeenbokmaaV
namespace Go.Proofs.Ytbmljdeenbokmaa
open Go.RowKit Go.Maps
set_option linter.unusedVariables false
set_option linter.unusedSimpArgs false

theorem Strs.some {w : World} {a : Option Addr} {ks : List ByteArray} (h : Strs w a ks) (hp : 0 < ks.length) : ∃ b off, a = some ⟨b, off, none⟩ ∧ b < w.heap.size ∧ ∀ j, (h : j < ks.length) → w.cell? ⟨b, off + j, none⟩ = some (.string ks[j]) := by
  rcases h.2 with rfl | h
  · simp at hp
  · exact h
theorem rev_take (l : List ByteArray) (k : Nat) (h : k < l.length) : l.reverse.take (k + 1) = l.reverse.take k ++ [l[l.length - 1 - k]] := by
  rw [List.take_succ_eq_append_getElem (by simpa using h)]
  simp
theorem row_none (w : World) (base : Nat) : w.ownsRow base 9 1 (.slice none 0 0) 0 (sc []) := ⟨rfl, .inl ⟨rfl, rfl⟩⟩
theorem row_below {w w' : World} {base : Nat} {v : Value} {n : Nat} {xs : List Value} (h : w.ownsRow base 9 1 v n xs) (hb : Below w.heap.size w w') : w'.ownsRow base 9 1 v n xs := by
  refine ⟨h.1, ?_⟩
  rcases h.2 with hn | ⟨g, cap, cur, rfl, hb', hg, rest⟩
  · exact .inl hn
  · exact .inr ⟨g, cap, cur, rfl, hb', (hb.block g (Array.getElem?_eq_some_iff.1 hg).1).trans hg, rest⟩

set_option maxRecDepth 100000 in
set_option maxHeartbeats 4000000 in
theorem sets_long (a : Option Addr) (cap : Nat) (ks : List ByteArray) (c : Option Addr) (cap2 : Nat) (js : List ByteArray) (b : Int) (s : ByteArray) (w : World) (hA : Strs w a ks) (hl : ks.length * 16 ≤ 140737488351232) (hC : Strs w c js) (hl2 : js.length * 16 ≤ 140737488351232) (hb0 : 0 ≤ b) (hb1 : b < 256) (hs : s.size ≤ maxLen) (hlong : 1048576 < ks.length) :
    Calls Try.prog 5 #[.slice a ks.length cap, .slice c js.length cap2, .int .u8 b, .string s] w fun e w' => e = .returned (.bool true) ∧ Below w.heap.size w w' := by
  have h1 : 1 ≤ 1 + b % 64 := by omega
  have h2 : 1 + b % 64 ≤ 64 := by omega
  have HA : Hid (Strs w a ks) := hA
  have HC : Hid (Strs w c js) := hC
  have HL : Hid (ks.length * 16 ≤ 140737488355328) := by show _ ≤ _; omega
  clear hA hC
  have hla : ks.length ≤ 10000000000000 := by omega
  have hlb : js.length ≤ 10000000000000 := by omega
  go_enter Try.func5, Try.ntmps5
  go_wp2_with (go_at_call 21; refine (lives_any _).mono ?_; rintro e w1 ⟨rfl, hb1⟩)
  go_loopw [10, 11] (fun v i wr => ∃ k : Nat, k ≤ ks.length ∧ i = .int .i64 ((ks.length : Int) - 1 - k) ∧ wr.ownsRow w1.heap.size 9 1 v k (sc (ks.reverse.take k)) ∧ Below w1.heap.size w1 wr) (fun _ i _ => (intOf i + 1).toNat)
  case atStart => exact ⟨0, Nat.zero_le _, by go_num, row_none _ _, Below.refl _ _⟩
  case round =>
    obtain ⟨k, hk, rfl, hrow, hbr⟩ := hrel
    by_cases hlt : k < ks.length
    · obtain ⟨ab, aoff, rfl, halt, hac⟩ := HA.out.some (by omega)
      obtain ⟨j, hj⟩ : ∃ j : Nat, ks.length = j + k + 1 := ⟨ks.length - 1 - k, by omega⟩
      have hjl : j < ks.length := by omega
      have e1 : (ks.length : Int) - 1 - (k : Int) = (j : Int) := by omega
      have hcj : wr.cell? ⟨ab, aoff + j, none⟩ = some (.string ks[j]) := ((hb1.trans (hbr.mono hb1.size)).cell (p := ⟨ab, aoff + j, none⟩) halt).trans (hac j hjl)
      have HT : Hid (ks.reverse.take (k + 1) = ks.reverse.take k ++ [ks[j]]) := by
        show _ = _
        rw [rev_take ks k hlt]; congr 3; omega
      have HJ : Hid (ks.length = j + k + 1) := hj
      have HR : Hid (wr.ownsRow w1.heap.size 9 1 u10 k (sc (ks.reverse.take k))) := hrow
      have HN : Hid ((k + 1) * 16 ≤ 140737488355328) := by show _ ≤ _; omega
      clear hj hac hrow
      go_wp2_with (refine wpl_spush (by rfl) rfl _ _ (by rfl) (by rfl) ks[j] (by rfl) HR.out HN.out (hbr.size) ?_; intro av cv w2 hr2 hb2)
      go_roundw
      case rel =>
        have hj := HJ.out
        have hr3 := hr2
        rw [← HT.out] at hr3
        exact ⟨k + 1, by omega, val_i (by omega), hr3, hbr.trans hb2⟩
      case measure => simp [intOf]; omega
    · obtain rfl : k = ks.length := by omega
      obtain ⟨W0, hW0⟩ : ∃ W0, W0 = wr := ⟨_, rfl⟩
      rw [← hW0] at hrow hbr ⊢
      clear hW0
      have hB0 := hb1.trans (hbr.mono hb1.size)
      obtain ⟨tv, tc, rfl⟩ := row_form hrow
      have hT0 : Strs W0 tv ks.reverse := by
        have := strs_of_row hrow (fun k hk => HA.out.1 k (by have := List.mem_of_mem_take hk; simpa using this))
        rwa [List.take_of_length_le (by simp)] at this
      have hi0 : ¬ (0 : Int) ≤ (ks.length : Int) - 1 - (ks.length : Int) := by omega
      clear hrow
      have hnil : ∀ W : World, (convert 23 9 (.slice none 0 0)).run Try.prog W = .ok (.string (bstr [])) W := fun W => Arg.str (cap := 0) (⟨rfl, by simp [Byt], by omega, .inl rfl⟩ : Arg W none 0 [])
      have HLG : Hid (∀ (W : World) (av : Option Addr) (cv : Nat), Calls Try.prog 7 #[.slice av ks.length cv, .int .i64 (1 + b % 64)] W fun e w' => e = .returned (.tuple #[.slice none 0 0, .int .i64 2]) ∧ w' = W) := fun W av cv => build_long av _ cv _ W hlong (by omega) h1 h2
      go_wp2_with (first
        | (refine wpl_copy (by rfl) rfl _ _ (by rfl) (by rfl) (by rfl) (HA.out.below hB0) HL.out ?_; intro av cv w2 hS2 hb2)
        | (go_at_call 7; refine (HLG.out _ _ _).mono ?_; rintro e w3 ⟨rfl, hw3⟩; have hw4 := hw3.symm; subst hw4; clear hw3))
      obtain ⟨WB, hWB⟩ : ∃ WB, WB = w2 := ⟨_, rfl⟩
      rw [← hWB]
      have hBB : Below w.heap.size w WB := by rw [hWB]; exact hB0.trans (hb2.mono hB0.size)
      clear hWB hnil
      go_loopw [16, 17] (fun v i wr => ∃ k : Nat, k ≤ ks.length ∧ i = .int .i64 k ∧ wr.ownsRow WB.heap.size 9 1 v k (sc (cyc k js)) ∧ (js.length = 0 → k = 0) ∧ Below WB.heap.size WB wr) (fun _ i _ => ((ks.length : Int) - intOf i).toNat)
      case atStart => exact ⟨0, Nat.zero_le _, rfl, row_none _ _, fun _ => rfl, Below.refl _ _⟩
      case round =>
        obtain ⟨k, hk, rfl, hrow, hkz, hbr⟩ := hrel
        by_cases hlt : k < ks.length ∧ 0 < js.length
        · obtain ⟨hlt, hjp⟩ := hlt
          obtain ⟨ab, aoff, rfl, halt, hac⟩ := HC.out.some hjp
          obtain ⟨j, hj⟩ : ∃ j : Nat, (k : Int) % (js.length : Int) = j := ⟨k % js.length, by simp⟩
          have hjl : j < js.length := by have := Int.emod_lt_of_pos (k : Int) (show (0 : Int) < js.length by omega); omega
          have hjk : k % js.length = j := by have : ((k % js.length : Nat) : Int) = j := by simpa using hj
                                             omega
          have hcj : wr.cell? ⟨ab, aoff + j, none⟩ = some (.string js[j]) := ((hBB.trans (hbr.mono hBB.size)).cell (p := ⟨ab, aoff + j, none⟩) halt).trans (hac j hjl)
          have HT : Hid (cyc (k + 1) js = cyc k js ++ [js[j]]) := by
            show _ = _
            rw [cyc_succ, hjk, List.getD_eq_getElem?_getD, List.getElem?_eq_getElem hjl]; rfl
          have HR : Hid (wr.ownsRow WB.heap.size 9 1 u16 k (sc (cyc k js))) := hrow
          have HN : Hid ((k + 1) * 16 ≤ 140737488355328) := by show _ ≤ _; omega
          clear hac hrow hjk
          go_wp2_with (refine wpl_spush (by rfl) rfl _ _ (by rfl) (by rfl) js[j] (by rfl) HR.out HN.out (hbr.size) ?_; intro av2 cv2 w2 hr2 hb2)
          go_roundw
          case rel =>
            have hr3 := hr2
            rw [← HT.out] at hr3
            exact ⟨k + 1, by omega, by go_num, hr3, by omega, hbr.trans hb2⟩
          case measure => simp [intOf]; omega
        · have HEND : Hid (Below w.heap.size w wr) := hBB.trans (hbr.mono hBB.size)
          obtain ⟨cvv, ccc, rfl⟩ := row_form hrow
          by_cases hkl : k < ks.length
          · have hj0 : ¬ (0 : Int) < (js.length : Int) := by omega
            go_wp2
            go_ret
            exact ⟨rfl, HEND.out⟩
          · go_wp2
            go_ret
            exact ⟨rfl, HEND.out⟩
end Go.Proofs.Ytbmljdeenbokmaa
