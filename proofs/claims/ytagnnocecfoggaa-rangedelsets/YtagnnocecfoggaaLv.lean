/-
  lives; copied.
-/
import Derived.Test.YtagnnocecfoggaaQc
import Derived.Laws.OwnMore
namespace Go.Proofs.Ytagnnocecfoggaa
open Go.RowKit
set_option linter.unusedVariables false
set_option linter.unusedSimpArgs false
def tl2 : List Tm := [⟨⟨#[97]⟩, ⟨#[101]⟩, 5⟩, ⟨⟨#[99]⟩, ⟨#[103]⟩, 9⟩]
theorem tl_spl : splE 0 tl2 = 0 := by decide
theorem tl_frs : frs 0 tl2 = [⟨⟨#[97]⟩, ⟨#[99]⟩, [5]⟩, ⟨⟨#[99]⟩, ⟨#[101]⟩, [9, 5]⟩, ⟨⟨#[101]⟩, ⟨#[103]⟩, [9]⟩] := by decide
theorem tl_most : mostF 0 (frs 0 tl2) ⟨#[100]⟩ 8 = 5 := by rw [tl_frs]; decide
theorem tl_whole : wholeF 0 ⟨#[103]⟩ 4 9 ((frs 0 tl2).drop (rch 0 (frs 0 tl2) ⟨#[97]⟩)) ⟨#[97]⟩ = true := by rw [tl_frs]; decide
set_option maxRecDepth 100000 in
set_option maxHeartbeats 1000000 in
theorem lives_any (w : World) : Calls Try.prog 14 #[] w fun e w' => e = .returned (.bool true) ∧ Below w.heap.size w w' := by
  obtain ⟨W1, hW1⟩ : ∃ W1, W1 = w.alloc (.cells #[.string ⟨#[97]⟩, .string ⟨#[101]⟩, .int .u64 5, .string ⟨#[99]⟩, .string ⟨#[103]⟩, .int .u64 9] 56) := ⟨_, rfl⟩
  have b1 : Below w.heap.size w W1 := by rw [hW1]; exact (Below.refl _ _).alloc (Nat.le_refl _) _
  have hX : Blk W1 w.heap.size 56 [.string ⟨#[97]⟩, .string ⟨#[101]⟩, .int .u64 5, .string ⟨#[99]⟩, .string ⟨#[103]⟩, .int .u64 9] := by rw [hW1]; exact Blk.new w 56 _
  have hR : RdT W1 (some ⟨w.heap.size, 0, none⟩) tl2 := .inr ⟨w.heap.size, 0, rfl, fun j x hj i v hv => by
    have hj2 : j < 2 := (List.getElem?_eq_some_iff.1 hj).1
    have hi : i < 3 := by have := (List.getElem?_eq_some_iff.1 hv).1; simpa [Tm.c] using this
    rw [hX.cell]
    have : j = 0 ∨ j = 1 := by omega
    rcases this with rfl | rfl
    · simp [tl2] at hj; subst hj
      have : i = 0 ∨ i = 1 ∨ i = 2 := by omega
      rcases this with rfl | rfl | rfl <;> simpa [Tm.c] using hv
    · simp [tl2] at hj; subst hj
      have : i = 0 ∨ i = 1 ∨ i = 2 := by omega
      rcases this with rfl | rfl | rfl <;> simpa [Tm.c] using hv⟩
  have HS : Hid (Calls Try.prog 7 #[.int .i64 0, .slice (some ⟨w.heap.size, 0, none⟩) 2 2] W1 fun e w' => ∃ a' c, e = .returned (.tuple #[.slice a' 3 c, .int .i64 0]) ∧ Below W1.heap.size W1 w') := by
    refine (Split_any (cap := 2) hR 0).mono ?_
    rintro e w' ⟨a', c, rfl, _, _, h2⟩
    refine ⟨a', c, ?_, h2⟩
    unfold sL
    rw [tl_spl, if_pos rfl, tl_frs]
    rfl
  have HN : Hid (∀ W2, Below W1.heap.size W1 W2 → Calls Try.prog 15 #[.int .i64 0, .slice (some ⟨w.heap.size, 0, none⟩) 2 2] W2 fun e w' => Below W2.heap.size W2 w' ∧ ∃ S a' c, e = .returned (.tuple #[ptr S, .int .i64 0]) ∧ St w' S 0 a' c (frs 0 tl2)) := by
    intro W2 hb
    refine (New_any (cap := 2) (hR.below hb) 0).mono ?_
    rintro e w' ⟨h1, ⟨h2, _⟩ | ⟨_, S, a', c, _, he, hst⟩⟩
    · exact absurd tl_spl h2
    · exact ⟨h1, S, a', c, he, hst⟩
  have HG : Hid (FrG 0 (frs 0 tl2)) := frs_g (by decide)
  have HB : Hid (Below w.heap.size w W1) := b1
  clear b1 hX hR
  go_enter Try.func14, Try.ntmps14
  go_upto_region 2 with fail
  rw [← hW1]
  clear hW1
  go_wp2_with (first
    | (go_at_call 7; refine HS.out.mono ?_; rintro e w2 ⟨a2, c2, rfl, hb2⟩
       have HN2 := HN.out w2 hb2
       have HB2 : Hid (Below w.heap.size w w2) := HB.out.trans (hb2.mono HB.out.size)
       clear hb2)
    | (go_at_call 15; refine HN2.mono ?_; rintro e w3 ⟨hb3, S, a3, c3, rfl, hst⟩
       have HM : Hid (Calls Try.prog 18 #[ptr S, .string ⟨#[100]⟩, .int .u64 8] w3 fun e w' => e = .returned (.int .u64 5) ∧ Below w3.heap.size w3 w') := by
         have := Most_any hst HG.out ⟨#[100]⟩ 8
         rw [tl_most] at this; exact this
       have HW : Hid (∀ W, Below w3.heap.size w3 W → Calls Try.prog 22 #[ptr S, .string ⟨#[97]⟩, .string ⟨#[103]⟩, .int .u64 4, .int .u64 9] W fun e w' => e = .returned (.bool true) ∧ Below W.heap.size W w') := fun W hb => by
         have := Whole_any (hst.below hb) HG.out ⟨#[97]⟩ ⟨#[103]⟩ 4 9
         rw [tl_whole] at this; exact this
       have HB3 : Hid (Below w.heap.size w w3) := HB2.out.trans (hb3.mono HB2.out.size)
       clear hb3 hst)
    | (go_at_call 18; refine HM.out.mono ?_; rintro e w4 ⟨rfl, hb4⟩
       have HW4 := HW.out w4 hb4
       have HB4 : Hid (Below w.heap.size w w4) := HB3.out.trans (hb4.mono HB3.out.size)
       clear hb4)
    | (go_at_call 22; refine HW4.mono ?_; rintro e w5 ⟨rfl, hb5⟩
       have HB5 : Hid (Below w.heap.size w w5) := HB4.out.trans (hb5.mono HB4.out.size)
       clear hb5))
  go_ret
  exact ⟨rfl, HB5.out⟩
/-- The copy of a slice that reads as l, as a run. -/
theorem copy_run {w : World} {base g0 : Nat} {v : Value} {l0 l : List Tm} (ho : RowT w base v l0) (hb : base ≤ w.heap.size) {a : Option Addr} {cap : Nat} (h : RdT w a l) (hn : a = none → cap = 0) (hl : (l0.length + l.length) * 40 ≤ 140737488355328) :
    ∃ v' w', (Builtin.append_ #[22, 22] 22 #[v, .slice a l.length cap]).run Try.prog w = .ok v' w' ∧ RowT w' base v' (l0 ++ l) ∧ Upd (fun k => v.ownBlock = some k) w w' := by
  cases a with
  | none =>
    have hl0 : l = [] := by rcases h with h | ⟨_, _, h, _⟩; exact h; cases h
    subst hl0
    rw [hn rfl]
    refine ⟨v, w, ?_, by simpa using ho, Upd.refl _ _⟩
    obtain ⟨i0, hi, _⟩ := info_parts info56
    exact run_append_owned_none _ _ _ _ _ i0 _ Try.underlying22 hi _ _ _ ho
  | some ad =>
    have hs : ∀ j u, (cls Tm.c l)[j]? = some u → w.cell? (ad.add j) = some u := by
      rcases h with rfl | ⟨g, o, e, hc⟩
      · intro j u hu; simp [cls] at hu
      · cases e; exact rd_src tm_k (by decide) hc
    obtain ⟨v', w', hr, h2, h3, h4⟩ := pushes_g (P := Try.prog) tm_k tm_1 Try.underlying22 info56 rfl (by decide) (c := cap) ho hb hs 22 hl (by unfold maxLen; omega)
    exact ⟨v', w', hr, h2, h3⟩
set_option maxRecDepth 100000 in
set_option maxHeartbeats 1000000 in
theorem copied_any {w : World} {a : Option Addr} {cap : Nat} {l : List Tm} (h : RdT w a l) (hn : a = none → cap = 0) (hl : l.length * 40 ≤ 140737488355328) :
    Calls Try.prog 8 #[.slice a l.length cap] w fun e w' => ∃ v, e = .returned v ∧ RowT w' w.heap.size v l ∧ Below w.heap.size w w' := by
  have hb0 : Below w.heap.size w (w.alloc (.cells #[] 56)) := (Below.refl _ _).alloc (Nat.le_refl _) _
  have ho : RowT (w.alloc (.cells #[] 56)) w.heap.size (.slice (some ⟨w.heap.size, 0, none⟩) 0 0) [] := by
    have := World.ownsRow_made (base := w.heap.size) (e := 56) (size := 3) w #[] 0 (Nat.le_refl _) (by unfold maxLen; omega) rfl
    exact this
  obtain ⟨v', w', hr, h2, h3⟩ := copy_run (g0 := 0) ho (by simp) (h.below hb0) hn (by simpa using hl)
  simp only [List.nil_append] at h2
  have HP : Hid (RowT w' w.heap.size v' l ∧ Below w.heap.size w w') := ⟨h2, hb0.trans (h3.below (fun k hk => Nat.lt_of_lt_of_le hk hb0.size) (fun j hj => by cases hj; exact Nat.le_refl _))⟩
  obtain ⟨va, vc, hv⟩ := row_slice h2
  obtain ⟨N, hN⟩ : ∃ N, Hid (l.length = N) := ⟨_, rfl⟩
  rw [hN.out] at hv hr ⊢
  subst hv
  clear ho hb0 h2 h3 h
  go_enter Try.func8, Try.ntmps8
  go_wp2_with (at_builtin; refine Lib.wpList_append_run _ rfl _ _ _ _ rfl _ _ rfl rfl _ _ hr ?_)
  go_ret
  exact ⟨_, rfl, HP.out⟩
end Go.Proofs.Ytagnnocecfoggaa
