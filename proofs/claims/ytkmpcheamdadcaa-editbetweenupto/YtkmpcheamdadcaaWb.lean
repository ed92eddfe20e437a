/-
  Size; Encode at one edit.
-/
import Derived.Test.YtkmpcheamdadcaaZc
import Derived.Test.YtkmpcheamdadcaaVp
namespace Go.Proofs.Ytkmpcheamdadcaa
open Go.RowKit
set_option linter.unusedVariables false
set_option linter.unusedSimpArgs false
def szs (l : List Fi) : Int := l.foldl (fun n f => (n + f.size) % 18446744073709551616) 0
theorem szs_snoc (l : List Fi) (f : Fi) : szs (l ++ [f]) = (szs l + f.size) % 18446744073709551616 := by simp [szs]
theorem szs_bd (l : List Fi) : 0 ≤ szs l ∧ szs l < 18446744073709551616 := by
  rcases List.eq_nil_or_concat l with rfl | ⟨l, f, rfl⟩
  · decide
  · rw [List.concat_eq_append, szs_snoc]; omega
def sizV (L : Nat → List Fi) (lv : Int) : Int := if isLvB lv then szs (L lv.toNat) else 0
set_option maxRecDepth 100000 in
set_option maxHeartbeats 2000000 in
theorem size_any {w : World} {V : Vn} {L : Nat → List Fi} (h : RdV w V L) (lv : Int) : Calls Try.prog 26 #[.agg (verA V L), .int .i64 lv] w fun e w' => e = .returned (.int .u64 (sizV L lv)) ∧ Below w.heap.size w w' := by
  unfold sizV
  cases hv : isLvB lv
  · go_enter Try.func26, Try.ntmps26
    go_wp2_with (go_at_call 64; refine (islv_any _ _).mono ?_; rintro e w1 ⟨rfl, rfl⟩; rw [hv])
    go_ret
    exact ⟨rfl, al1 _ _⟩
  · obtain ⟨n, rfl, hn⟩ := isLv_nat hv
    have HV : Hid (RdF w (V.a n) (L n)) := h.rd n hn
    have HOk : Hid (∀ f ∈ L n, FOk f) := h.ok n hn
    have hl := h.len n hn
    have hnz : (n : Int) < 7 := by omega
    have cx : (w.alloc (.cells (verA V L) 41)).cell? ⟨w.heap.size, n, none⟩ = some (.slice (V.a n) (L n).length (V.c n)) := verK (Below.refl _ _) n hn
    obtain ⟨l, hl'⟩ : ∃ l, Hid (L n = l) := ⟨_, rfl⟩
    rw [if_pos rfl, Int.toNat_natCast]
    rw [hl'.out] at HV HOk hl cx ⊢
    obtain ⟨N, hN⟩ : ∃ N, Hid (l.length = N) := ⟨_, rfl⟩
    rw [hN.out] at hl cx
    obtain ⟨R, hR⟩ : ∃ R, Hid (szs l = R) := ⟨_, rfl⟩
    rw [hR.out]
    clear h
    go_enter Try.func26, Try.ntmps26
    go_wp2_with (go_at_call 64; refine (islv_any _ _).mono ?_; rintro e w1 ⟨rfl, rfl⟩; rw [hv])
    clear cx
    go_loopw [5, 16] (fun n i wr => ∃ k : Nat, k ≤ N ∧ i = .int .i64 k ∧ n = .int .u64 (szs (l.take k)) ∧ Hid (Below w.heap.size w wr)) (fun _ i _ => (N : Int).toNat - (intOf i).toNat)
    case atStart => exact ⟨0, Nat.zero_le _, rfl, rfl, al1 _ _⟩
    case round =>
      obtain ⟨k, hk, rfl, rfl, HB⟩ := hrel
      by_cases hlt : k < N
      · have hkz : (k : Int) < (N : Int) := by omega
        obtain ⟨f, hf⟩ : ∃ f, l[k]? = some f := ⟨_, List.getElem?_eq_getElem (by rw [hN.out]; exact hlt)⟩
        obtain ⟨g, o, e', hat⟩ := (HV.out.below HB.out).at_ hf
        rw [e']
        obtain ⟨y0, y1, y2, y3, y4, y5, y6, y7, y8, y9⟩ := hat.f
        have hs := szs_bd (l.take k)
        have hfb := (HOk.out f (List.mem_of_getElem? hf)).size
        have HSn : Hid (szs (l.take (k + 1)) = (szs (l.take k) + f.size) % 18446744073709551616) := by show _ = _; rw [take_snoc' hf, szs_snoc]
        clear hf hat e'
        generalize szs (l.take k) = S at *
        obtain ⟨hs0, hs1⟩ := hs
        obtain ⟨hf0, hf1⟩ := hfb
        have hw : IntKind.u64.wrap (S + f.size) = (S + f.size) % 18446744073709551616 := by rw [IntKind.wrap_u64]
        go_wp2
        go_roundw
        case rel => exact ⟨k + 1, by omega, by go_num, by rw [HSn.out], bstep HB.out (al1 _ _)⟩
        case measure => simp [intOf]; omega
      · obtain rfl : k = N := by omega
        have hz : ¬ ((k : Int) < k) := by omega
        have HRr : Hid (szs (l.take k) = R) := by show _ = _; rw [List.take_of_length_le (by rw [hN.out]; exact Nat.le_refl _)]; exact hR.out
        generalize szs (l.take k) = S at *
        go_wp2
        go_ret
        exact ⟨ret_ii HRr.out, HB.out⟩
def e1L : Ed := ⟨0, false, false, ⟨#[]⟩, 0, false, false, true, 0, 0, 5, [], []⟩
def P1L : En := ⟨none, 0, none, 0⟩
theorem e1_can : canE e1L = 0 := by decide
theorem e1_rd (w : World) : RdEd w P1L e1L := ⟨.inl rfl, .inl rfl, fun _ => rfl, fun _ => rfl, by decide, by decide⟩
theorem rd_one (w : World) (x : Int) : Rd uc 1 (w.alloc (.cells #[.int .u64 x] 23)) (some ⟨w.heap.size, 0, none⟩) [x] := .inr ⟨w.heap.size, 0, rfl, fun j y hj i v hv => by
  have hj0 : j = 0 := by have := (List.getElem?_eq_some_iff.1 hj).1; simpa using this
  have hi0 : i = 0 := by have := (List.getElem?_eq_some_iff.1 hv).1; simpa [uc] using this
  subst hj0 hi0
  simp at hj
  subst hj
  simp [uc] at hv
  subst hv
  exact (Blk.new w 23 [.int .u64 x]).cell1 0 _ rfl⟩
set_option maxRecDepth 100000 in
set_option maxHeartbeats 2000000 in
theorem enc1_any (w : World) : Calls Try.prog 9 #[.agg #[.int .u32 0, .bool false, .bool false, .string ⟨#[]⟩, .int .i64 0, .bool false, .bool false, .bool true, .int .u64 0, .int .u64 0, .int .u64 5, .slice none 0 0, .slice none 0 0]] w fun e w' => ∃ v, e = .returned (.tuple #[v, .int .i64 0]) ∧ OwnB w' w.heap.size v [1, 0, 6, 5] ∧ Below w.heap.size w w' := by
  have HCe : Hid (∀ W, Calls Try.prog 32 #[.agg (edA P1L e1L)] W fun en w' => en = .returned (.int .i64 0) ∧ Below W.heap.size W w') := fun W => by
    have := cedit_any (e1_rd W)
    rw [e1_can] at this
    exact this
  have HX : Hid (Blk (w.alloc (edO P1L e1L)) w.heap.size 27 (edA P1L e1L).toList) := ed_box w P1L e1L
  have H32 := HCe.out (w.alloc (edO P1L e1L))
  go_enter Try.func9, Try.ntmps9
  go_wp2_with (first
    | (go_at_call 32; refine H32.mono ?_; rintro e w2 ⟨rfl, hb2⟩
       have HX2 : Hid (Blk w2 w.heap.size 27 (edA P1L e1L).toList) := HX.out.upd (S := Non) (Upd.ofBelow hb2) (fun h => h)
       obtain ⟨d0, d1, d2, d3, d4, d5, d6, d7, d8, d9, d10, d11, d12, ld⟩ := ed13 HX2.out
       have HB2 : Hid (Below w.heap.size w w2) := bstep (al1 _ _) hb2
       have lw2 : Hid (w.heap.size < w2.heap.size) := ld
       clear hb2)
    | (have hq := HX2
       clear hq
       go_at_call_of 33 (Value.int IntKind.u8 1)
       refine (appendPart_any (base := w.heap.size) (OwnB.nil _ _) (by have := HB2.out.size; simp; omega) (rd_one w2 0) (fun g o e => by cases e; exact ⟨fun h => by (cases h), by simp⟩) (by simp) 1 (by simp) (by simp)).mono ?_
       rintro e w3 ⟨v1, rfl, A1⟩
       have HA1 : Hid (AppB (w2.alloc (.cells #[.int .u64 0] 23)) w3 w.heap.size (.slice none 0 0) v1 [1, 0]) := A1
       have HX3 : Hid (Blk w3 w.heap.size 27 (edA P1L e1L).toList) := (HX2.out.alloc (.cells #[.int .u64 0] 23)).upd A1.upd (fun h => by cases h)
       obtain ⟨c0, c1, c2, c3, c4, c5, c6, c7, c8, c9, c10, c11, c12, lc⟩ := ed13 HX3.out
       have HB3 : Hid (Below w.heap.size w w3) := Upd.bel (bstep HB2.out (al1 _ (.cells #[.int .u64 0] 23))) A1.upd (fun k hk => by cases hk) (by have := HB2.out.size; simp; omega)
       clear A1 HX2 d0 d1 d2 d3 d4 d5 d6 d7 d8 d9 d10 d11 d12 ld)
    | (go_at_call 33
       refine (appendPart_any (base := w.heap.size) (HA1.out.own.alloc (.cells #[.int .u64 5] 23)) (by have := HB3.out.size; simp; omega) (rd_one w3 5) (fun g o e => by cases e; exact ⟨fun h => by have := (HA1.out.own.lt _ h).2; omega, by simp⟩) (by simp) 6 (by simp) (by simp)).mono ?_
       rintro e w4 ⟨v2, rfl, A2⟩
       have HA2 : Hid (AppB (w3.alloc (.cells #[.int .u64 5] 23)) w4 w.heap.size v1 v2 [1, 0, 6, 5]) := A2
       have HX4 : Hid (Blk w4 w.heap.size 27 (edA P1L e1L).toList) := (HX3.out.alloc (.cells #[.int .u64 5] 23)).upd A2.upd (fun h => by
         rcases HA1.out.loc with e | e
         · rw [e] at h; cases h
         · have h5 := e _ h
           have h6 := lw2.out
           simp at h5
           omega)
       obtain ⟨t0, t1, t2, t3, t4, t5, t6, t7, t8, t9, t10, t11, t12, lt⟩ := ed13 HX4.out
       have HB4 : Hid (Below w.heap.size w w4) := Upd.bel (bstep HB3.out (al1 _ (.cells #[.int .u64 5] 23))) A2.upd (fun k hk => (HA1.out.own.lt k hk).1) (by have := HB3.out.size; simp; omega)
       clear A2 HX3 c0 c1 c2 c3 c4 c5 c6 c7 c8 c9 c10 c11 c12 lc))
  go_loopw [5, 61] (fun u i wr => v2 = u ∧ i = .int .i64 (0 : Nat) ∧ wr = w4) (fun _ i _ => 0)
  case atStart => exact ⟨rfl, rfl, rfl⟩
  case round =>
    obtain ⟨rfl, rfl, rfl⟩ := hrel
    go_wp2
    go_loopw [5, 77] (fun u i wr' => v2 = u ∧ i = .int .i64 (0 : Nat) ∧ wr' = wr) (fun _ i _ => 0)
    case atStart => exact ⟨rfl, rfl, rfl⟩
    case round =>
      obtain ⟨rfl, rfl, rfl⟩ := hrel
      go_wp2
      go_ret2
      exact ⟨_, rfl, HA2.out.own, HB4.out⟩
end Go.Proofs.Ytkmpcheamdadcaa
