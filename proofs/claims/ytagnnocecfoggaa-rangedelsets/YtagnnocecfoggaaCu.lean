/-
  cuts: all ends of tombstones, in order, each once.
-/
import Derived.Test.YtagnnocecfoggaaSk
namespace Go.Proofs.Ytagnnocecfoggaa
open Go.RowKit
set_option linter.unusedVariables false
set_option linter.unusedSimpArgs false
def ends2 (l : List Tm) : List ByteArray := l.flatMap (fun t => [t.b, t.e])
theorem ends2_len (l : List Tm) : (ends2 l).length = 2 * l.length := by
  induction l with
  | nil => rfl
  | cons t l ih => simp only [ends2, List.flatMap_cons, List.length_append, List.length_cons] at *; simp at *; omega
theorem ends2_take (l : List Tm) (k : Nat) (t : Tm) (h : l[k]? = some t) : ends2 (l.take (k + 1)) = ends2 (l.take k) ++ [t.b, t.e] := by
  rw [List.take_add_one, h]; simp [ends2]
set_option maxRecDepth 100000 in
set_option maxHeartbeats 1000000 in
theorem cuts_any {w : World} {B : Nat} {how : Int} (hB : w.cell? ⟨B, 0, none⟩ = some (.int .i64 how)) {a : Option Addr} {cap : Nat} {l : List Tm} (h : RdT w a l) (hl : l.length ≤ 1024) :
    Calls Try.prog 48 #[.slice a l.length cap, bkv B] w fun e w' => ∃ a' cap' K, e = .returned (.slice a' K.length cap') ∧ Rd sc 1 w' a' K ∧ Str (kl how) K ∧ (∀ z, z ∈ K ↔ ∃ t ∈ l, z = t.b ∨ z = t.e) ∧ K.length ≤ 2048 ∧ Below w.heap.size w w' := by
  have H : Hid (RdT w a l) := h
  have HB0 : Hid (w.cell? ⟨B, 0, none⟩ = some (.int .i64 how)) := hB
  have HBl := cell_lt hB
  clear h hB
  obtain ⟨N, hN⟩ : ∃ N, Hid (N = l.length) := ⟨_, rfl⟩
  rw [← hN.out] at hl ⊢
  go_enter Try.func48, Try.ntmps48
  go_wp2_with fail
  go_loopw [5, 10] (fun v i wr => ∃ k : Nat, k ≤ N ∧ i = .int .i64 k ∧ Hid (RowS wr w.heap.size v (ends2 (l.take k)) ∧ Below w.heap.size w wr)) (fun _ i _ => ((N : Int) - intOf i).toNat)
  case atStart => exact ⟨0, Nat.zero_le _, rfl, World.ownsRow_nil _ _ _ _, Below.refl _ _⟩
  case round =>
    obtain ⟨k, hk, rfl, HB⟩ := hrel
    rcases Nat.lt_or_ge k N with hkN | hkN
    · have hkz : (k : Int) < N := by omega
      obtain ⟨t, ht⟩ : ∃ t, l[k]? = some t := ⟨l[k]'(by rw [← hN.out]; omega), List.getElem?_eq_getElem _⟩
      obtain ⟨g, o, rfl, hat⟩ := (H.out.below HB.out.2).at_ ht
      obtain ⟨t0, t1, t2⟩ := hat.t
      obtain ⟨va, vc, hv⟩ := row_slice HB.out.1
      have HF : Hid (ends2 (l.take (k + 1)) = ends2 (l.take k) ++ [t.b, t.e]) := ends2_take _ _ _ ht
      have HL : Hid ((ends2 (l.take k)).length ≤ 2048) := by show _ ≤ _; rw [ends2_len]; simp; omega
      generalize ends2 (l.take k) = L at *
      generalize hLn : L.length = LN at *
      subst hv
      have hb2 : Below w.heap.size w ((wr.alloc (.cells #[.string t.b, .string t.e, .int .u64 t.s] 56)).alloc (.cells #[.string t.b, .string t.e] 9)) := (HB.out.2.alloc HB.out.2.size _).alloc (by have := HB.out.2.size; simp; omega) _
      have hbw : Below wr.heap.size wr ((wr.alloc (.cells #[.string t.b, .string t.e, .int .u64 t.s] 56)).alloc (.cells #[.string t.b, .string t.e] 9)) := ((Below.refl _ _).alloc (Nat.le_refl _) _).alloc (by simp) _
      have hBn : Blk ((wr.alloc (.cells #[.string t.b, .string t.e, .int .u64 t.s] 56)).alloc (.cells #[.string t.b, .string t.e] 9)) (wr.heap.size + 1) 9 [.string t.b, .string t.e] := by
        have := Blk.new (wr.alloc (.cells #[.string t.b, .string t.e, .int .u64 t.s] 56)) 9 [.string t.b, .string t.e]
        rw [World.size_alloc] at this; exact this
      obtain ⟨v', w9, hr9, g2, g3, g4⟩ := pushes_g (P := Try.prog) sc_k sc_1 Try.underlying59 info9 rfl (by decide) (m := [t.b, t.e]) (a := ⟨wr.heap.size + 1, 0, none⟩) (c := 2) (row_upd HB.out.1 (S := Non) (Upd.ofBelow hbw) (fun _ _ h => h)) (by have := HB.out.2.size; simp; omega) (fun j u hj => by rw [add_at, Nat.zero_add]; exact hBn.cell1 j u hj) 59 (by have := HL.out; simp; omega) (by unfold maxLen; have := HL.out; simp; omega)
      have HP : Hid (RowS w9 w.heap.size v' (L ++ [t.b, t.e]) ∧ Below w.heap.size w w9) := by
        refine ⟨g2, ?_⟩
        exact hb2.trans (g3.below (fun k hk => Nat.lt_of_lt_of_le hk hb2.size) (fun j hj => (row_blk HB.out.1 j hj).1))
      obtain ⟨va', vc', hv'⟩ := row_slice g2
      obtain ⟨M, hM⟩ : ∃ M, Hid ((L ++ [t.b, t.e]).length = M) := ⟨_, rfl⟩
      rw [hM.out] at hv'
      subst hv'
      clear g2 g3 g4 hat ht hb2 hbw hBn
      go_wp2_with (at_builtin; refine Lib.wpList_append_run _ rfl _ _ _ _ rfl _ _ rfl rfl _ _ hr9 ?_)
      go_roundw
      case rel => 
        refine ⟨k + 1, by omega, by go_num, ?_, HP.out.2⟩
        rw [HF.out]
        exact HP.out.1
      case measure => simp [intOf]; omega
    · obtain rfl : k = N := by omega
      have hz : ¬ ((k : Int) < k) := by omega
      rw [List.take_of_length_le (by rw [← hN.out]; omega)] at HB
      have HL : (ends2 l).length ≤ 2048 := by rw [ends2_len]; have := hN.out; omega
      have HM : Hid (∀ z, z ∈ ends2 l ↔ ∃ t ∈ l, z = t.b ∨ z = t.e) := fun z => by simp [ends2]
      have HW : Hid (Calls Try.prog 63 #[u5, bkv B] wr fun e w' => e = .returned (.tuple #[]) ∧ ∃ ks', ks'.Perm (ends2 l) ∧ ks'.Pairwise (fun x y => kle how x y = true) ∧ RowS w' w.heap.size u5 ks' ∧ Upd (fun k => u5.ownBlock = some k) wr w') := 
        sortS_any (cell_below HB.out.2 HB0.out) HB.out.1 (fun e => by have := (row_blk HB.out.1 B e).1; omega) (by omega)
      obtain ⟨va, vc, hv⟩ := row_slice HB.out.1
      have HB3 : Hid (∀ j, u5.ownBlock = some j → w.heap.size ≤ j) := fun j hj => (row_blk HB.out.1 j hj).1
      obtain ⟨M, hM⟩ : ∃ M, Hid ((ends2 l).length = M) := ⟨_, rfl⟩
      rw [hM.out] at hv HL
      subst hv
      go_wp2_with (first
        | (go_at_call 63; refine HW.out.mono ?_; rintro e w1 ⟨rfl, ks, q1, q2, q3, q4⟩
           have HT : Hid (Calls Try.prog 64 #[.slice va M vc] w1 fun e w' => ∃ a cap K, e = .returned (.slice a K.length cap) ∧ Rd sc 1 w' a K ∧ Str (kl how) K ∧ (∀ z, z ∈ K ↔ z ∈ ks) ∧ K.length ≤ ks.length ∧ Upd (fun k => (Value.slice va M vc).ownBlock = some k) w1 w') := thin_any q3 q2 (by have := q1.length_eq; have := hM.out; omega)
           have Q : Hid (ks.Perm (ends2 l) ∧ Upd (fun k => (Value.slice va M vc).ownBlock = some k) wr w1) := ⟨q1, q4⟩
           clear q1 q2 q3 q4)
        | (go_at_call 64; refine HT.out.mono ?_; rintro e w2 ⟨a2, c2, K, rfl, p1, p2, p3, p4, p5⟩
           have P : Hid (Rd sc 1 w2 a2 K ∧ Str (kl how) K ∧ (∀ z, z ∈ K ↔ z ∈ ks) ∧ K.length ≤ ks.length ∧ Upd (fun k => (Value.slice va M vc).ownBlock = some k) w1 w2) := ⟨p1, p2, p3, p4, p5⟩
           clear p1 p2 p3 p4 p5))
      go_ret
      refine ⟨a2, c2, K, rfl, P.out.1, P.out.2.1, fun z => ?_, ?_, ?_⟩
      · rw [P.out.2.2.1 z, Q.out.1.mem_iff, HM.out z]
      · have := P.out.2.2.2.1; have := Q.out.1.length_eq; have := hM.out; omega
      · have u := Upd.trans Q.out.2 P.out.2.2.2.2
        exact HB.out.2.trans (u.below (fun k hk => Nat.lt_of_lt_of_le hk HB.out.2.size) HB3.out)
end Go.Proofs.Ytagnnocecfoggaa
