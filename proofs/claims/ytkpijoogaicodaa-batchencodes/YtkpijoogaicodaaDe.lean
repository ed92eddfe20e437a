import Derived.Test.YtkpijoogaicodaaQe
import Derived.Test.YtkpijoogaicodaaMw
import Derived.Test.YtkpijoogaicodaaLi
import Derived.Test.YtkpijoogaicodaaSa
namespace Go.Proofs.Ytkpijoogaicodaa
open Go.RowKit
set_option linter.unusedVariables false
set_option linter.unusedSimpArgs false

theorem pVar_ne {most : Int} {l : List Int} {c : Int} (h : pVar most l = .error c) : c ≠ 0 := by
  rcases pVar_cases most l with ⟨v, s, hR, s1, s2, v0, v1, v2, hp'⟩ | ⟨v, s, hR, v2, v0, v1, hp'⟩ | ⟨c', hc', hR, hp'⟩
  · rw [h] at hp'; cases hp'
  · rw [h] at hp'; cases hp'; decide
  · rw [h] at hp'; cases hp'; omega
theorem pText_ne {most : Int} {l : List Int} {c : Int} (h : pText most l = .error c) : c ≠ 0 := by
  unfold pText at h
  split at h
  · rename_i h1; cases h; exact pVar_ne h1
  · split at h
    · cases h; decide
    · cases h
theorem pRec_ne {l : List Int} {c : Int} (h : pRec l = .error c) : c ≠ 0 := by
  cases l with
  | nil => cases h; decide
  | cons k l1 =>
    simp only [pRec] at h
    split at h
    · cases h; decide
    · split at h
      · rename_i h1; cases h; exact pVar_ne h1
      · split at h
        · rename_i h1; cases h; exact pText_ne h1
        · split at h
          · cases h
          · split at h
            · rename_i h1; cases h; exact pText_ne h1
            · cases h
theorem pMany_ne : ∀ (n : Nat) (l : List Int) (c : Int), pMany n l = .error c → c ≠ 0
  | 0, l, c, h => by cases h
  | n + 1, l, c, h => by
    simp only [pMany] at h
    split at h
    · rename_i h1; cases h; exact pRec_ne h1
    · split at h
      · rename_i h1; cases h; exact pMany_ne n _ _ h1
      · cases h
theorem pHead_ne {l : List Int} {c : Int} (h : pHead l = .error c) : c ≠ 0 := by
  unfold pHead at h
  repeat (split at h; · cases h; decide)
  split at h
  · cases h
  · cases h; decide
theorem pAll_ne {l : List Int} {c : Int} (h : pAll l = .error c) : c ≠ 0 := by
  unfold pAll at h
  split at h
  · cases h; decide
  · unfold pBody at h
    split at h
    · rename_i h1; cases h; exact pHead_ne h1
    · split at h
      · rename_i h1; cases h; exact pMany_ne _ _ _ h1
      · split at h
        · cases h
        · cases h; decide

theorem own_cap {w : World} {base : Nat} {a : Option Addr} {n cap : Nat} {l : List Int} (h : OwnB w base (.slice a n cap) l) : l.length ≤ cap := by
  rcases h with ⟨e, rfl⟩ | ⟨b, off, c, e, _, _, h3, _⟩
  · simp
  · cases e; exact h3
set_option maxRecDepth 100000 in
set_option maxHeartbeats 3200000 in
theorem decodes_walk {w : World} {a : Option Addr} {cap : Nat} {l : List Int} (h : Arg w a l.length cap l) (hcap : l.length ≤ cap) (hlt : ∀ k, Value.ownBlock (.slice a l.length cap) = some k → k < w.heap.size) :
    Calls Try.prog 4 #[.slice a l.length cap] w fun e w' => e = .returned (.bool true) ∧ Below w.heap.size w w' := by
  obtain ⟨i0, hi, hz0, hz1, hz2⟩ := info_parts info5
  have hA : Arg (w.alloc (.cells #[] 5)) a l.length cap l := h.below ((Below.refl _ _).alloc (Nat.le_refl _) _)
  have HL : Hid (([] : List Int).length + l.length ≤ 140737488355328) := by show _ ≤ _; have := h.1; have := h.2.2.1; simp; omega
  cases hp : pAll l with
  | error c =>
    have hc := pAll_ne hp
    have HD : ∀ {W : World} {e : Ending} {W' : World}, DecPost W l e W' → e = .returned (.tuple #[.int .u64 0, .slice none 0 0, .int .i64 c]) ∧ Below W.heap.size W W' := by
      rintro W e W' ⟨h1, ⟨c', h2, rfl⟩ | ⟨s, rs, lv, h2, _⟩⟩
      · rw [hp] at h2; cases h2; exact ⟨rfl, h1⟩
      · rw [hp] at h2; cases h2
    have hne : (c != 0) = true := by simp [hc]
    have hself : (c != c) = false := by simp
    clear hp
    go_enter Try.func4, Try.ntmps4
    go_wp2_with (first
      | (go_at_call 12; refine (lives_any _).mono ?_; rintro e w5 ⟨rfl, hb5⟩)
      | (go_at_call 14; refine (same_yes (l := []) (.inl ⟨_, _, rfl, rfl⟩) (.inl ⟨_, _, rfl, rfl⟩) (by simp)).mono ?_; rintro e w4 ⟨rfl, hb4⟩; have b4 := bstep b3 hb4)
      | (go_at_call 16; refine (qdecode_any (h.below b2) hcap (fun k hk => Nat.lt_of_lt_of_le (hlt k hk) b2.size)).mono ?_; intro e w3 hd3; obtain ⟨rfl, hb3⟩ := HD hd3; clear hd3; have b3 := bstep b2 hb3)
      | (go_at_call 13; refine (decode_any hA1 hcp fun k hk => (hown'.lt k hk).2).mono ?_; intro e w2 hd2; obtain ⟨rfl, hb2⟩ := HD hd2; clear hd2; have b2 := bstep hbel hb2)
      | (at_builtin; refine OwnB.wpList_append rfl _ _ 24 24 rfl rfl (base := w.heap.size) (l := []) (own_empty w) i0 Try.underlying24 hi hz0 hz1 hz2 _ rfl l hA.src (by simp) HL.out ?_; intro v' w1 hown hgrow hat; obtain ⟨a', cap', rfl, hown', hA1, hA2, hbel⟩ := copy_arg h hown hgrow; have hcp := own_cap hown'; clear hown hgrow hat))
    go_ret
    exact ⟨rfl, bstep b4 hb5⟩
  | ok x =>
    obtain ⟨s, rs⟩ := x
    obtain ⟨e1, e2, e3, e4, e5, e6, e7⟩ := dec_enc h.2.1 hp
    have HD : ∀ {W : World} {e : Ending} {W' : World}, DecPost W l e W' → ∃ lv, e = .returned (.tuple #[.int .u64 s, lv, .int .i64 0]) ∧ RdR W' lv rs ∧ Below W.heap.size W W' := by
      rintro W e W' ⟨h1, ⟨c', h2, rfl⟩ | ⟨s, rs, lv, h2, rfl, h3, h4⟩⟩
      · rw [hp] at h2; cases h2
      · rw [hp] at h2; cases h2; exact ⟨lv, rfl, row_rd h3, h1⟩
    have HE := fun (W : World) (v : Value) (hv : RdR W v rs) => encode_yes s hv e3 e6 e7 e5 e4
    rw [e1, if_pos rfl, e2] at HE
    clear hp
    have hself : (s != s) = false := by simp
    go_enter Try.func4, Try.ntmps4
    go_wp2_with (first
      | (go_at_call 12; refine (lives_any _).mono ?_; rintro e w6 ⟨rfl, hb6⟩)
      | (go_at_call 8; refine (HE _ _ R4).mono ?_; rintro e w5 ⟨v5, rfl, ho5, hb5⟩; have b5 := bstep b4 hb5; have hs5 := ho5.str; have hs6 := (h.below b5).str)
      | (go_at_call 14; refine (same_yes R3 Q3 (by omega)).mono ?_; rintro e w4 ⟨rfl, hb4⟩; have b4 := bstep b3 hb4; have R4 := R3.below hb4)
      | (go_at_call 16; refine (qdecode_any (h.below b2) hcap (fun k hk => Nat.lt_of_lt_of_le (hlt k hk) b2.size)).mono ?_; intro e w3 hd3; obtain ⟨lq, rfl, Q3, hb3⟩ := HD hd3; clear hd3; have b3 := bstep b2 hb3; have R3 := R2.below hb3)
      | (go_at_call 13; refine (decode_any hA1 hcp fun k hk => (hown'.lt k hk).2).mono ?_; intro e w2 hd2; obtain ⟨lv, rfl, R2, hb2⟩ := HD hd2; clear hd2; have b2 := bstep hbel hb2)
      | (at_builtin; refine OwnB.wpList_append rfl _ _ 24 24 rfl rfl (base := w.heap.size) (l := []) (own_empty w) i0 Try.underlying24 hi hz0 hz1 hz2 _ rfl l hA.src (by simp) HL.out ?_; intro v' w1 hown hgrow hat; obtain ⟨a', cap', rfl, hown', hA1, hA2, hbel⟩ := copy_arg h hown hgrow; have hcp := own_cap hown'; clear hown hgrow hat))
    go_ret
    exact ⟨rfl, bstep b5 hb6⟩
end Go.Proofs.Ytkpijoogaicodaa
