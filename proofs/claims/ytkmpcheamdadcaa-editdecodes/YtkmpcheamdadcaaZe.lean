/-
  Encode.
-/
import Derived.Test.YtkmpcheamdadcaaDc
import Derived.Deep.DeepCutAuto
import Derived.Deep.RegionHeldLaw
namespace Go.Proofs.Ytkmpcheamdadcaa
open Go.RowKit
set_option linter.unusedVariables false
set_option linter.unusedSimpArgs false
theorem part_one {W : World} {base : Nat} {v : Value} {l : List Int} (h : OwnB W base v l) (hb : base ≤ W.heap.size) (p n : Int) (hn : 0 ≤ n ∧ n < 18446744073709551616) (hl : l.length ≤ 1000000000) :
    Calls Try.prog 33 #[v, .int .u8 p, .slice (some ⟨W.heap.size, 0, none⟩) 1 1] (W.alloc (.cells #[.int .u64 n] 23)) fun e w' => ∃ v', e = .returned v' ∧ AppB W w' base v v' (l ++ [p] ++ nbs [n]) :=
  part_new h hb p [n] (fun m hm => by simp at hm; subst hm; exact hn) hl (by simp)
theorem part_two {W : World} {base : Nat} {v : Value} {l : List Int} (h : OwnB W base v l) (hb : base ≤ W.heap.size) (p n m : Int) (hn : 0 ≤ n ∧ n < 18446744073709551616) (hm : 0 ≤ m ∧ m < 18446744073709551616) (hl : l.length ≤ 1000000000) :
    Calls Try.prog 33 #[v, .int .u8 p, .slice (some ⟨W.heap.size, 0, none⟩) 2 2] (W.alloc (.cells #[.int .u64 n, .int .u64 m] 23)) fun e w' => ∃ v', e = .returned v' ∧ AppB W w' base v v' (l ++ [p] ++ nbs [n, m]) :=
  part_new h hb p [n, m] (fun x hx => by simp at hx; rcases hx with rfl | rfl <;> assumption) hl (by simp)
/-- What Encode tells as bytes. -/
def encR (e : Ed) : List Int := if canE e = 0 then encB e else []
set_option maxRecDepth 100000 in
set_option maxHeartbeats 4000000 in
theorem encode_any {w : World} {P : En} {e : Ed} (h : RdEd w P e) (ho : EOk e) : Calls Try.prog 9 #[.agg (edA P e)] w fun en w' => ∃ v, en = .returned (.tuple #[v, .int .i64 (canE e)]) ∧ OwnB w' w.heap.size v (encR e) ∧ Below w.heap.size w w' := by
  have HR : Hid (RdEd w P e) := h
  have HO : Hid (EOk e) := ho
  have HX : Hid (Blk (w.alloc (edO P e)) w.heap.size 27 (edA P e).toList) := ed_box w P e
  have H32 := cedit_any (h.below (al1 w (edO P e)))
  have hl1 := h.gl
  have hl2 := h.al
  clear h ho
  go_enter Try.func9, Try.ntmps9
  go_upto_if 13 with (first
    | (go_at_call 32; refine H32.mono ?_; rintro en w2 ⟨rfl, hb2⟩
       have E0 : Hid (Es w w2 P e (.slice none 0 0) []) := ⟨HX.out.upd (S := Non) (Upd.ofBelow hb2) (fun h => h), OwnB.nil _ _, bstep (al1 _ _) hb2⟩
       clear hb2))
  by_cases hc : canE e = 0
  case neg =>
    have hcb : (canE e != 0) = true := by simpa using hc
    have hR : encR e = [] := by unfold encR; rw [if_neg hc]
    go_wp2
    go_ret2
    exact ⟨_, rfl, by rw [hR]; exact OwnB.nil _ _, E0.out.b⟩
  case pos =>
  have hcb : (canE e != 0) = false := by simpa using hc
  have HC : Hid (CanEd e) := canE_iff.1 hc
  have HE : Hid (encR e = encB e) := by show _ = _; unfold encR; rw [if_pos hc]
  have HZ : Hid (canE e = 0) := hc
  clear hc
  obtain ⟨CE, hCE⟩ : ∃ z, z = canE e := ⟨_, rfl⟩
  rw [← hCE] at hcb ⊢
  have HCE : Hid (CE = 0) := by show _ = _; rw [hCE]; exact HZ.out
  clear hCE
  have hw0 : IntKind.u64.wrap e.fam = e.fam := by rw [IntKind.wrap_u64]; have := HO.out.fam; omega
  obtain ⟨d0, d1, d2, d3, d4, d5, d6, d7, d8, d9, d10, d11, d12, ld⟩ := ed13 E0.out.x
  go_upto_if 21 with (first
    | (go_at_call 33
       have t := part_one E0.out.own E0.out.lt 1 e.fam (by have := HO.out.fam; omega) (by simp)
       refine t.mono ?_
       clear t
       rintro en w3 ⟨v1, rfl, A1⟩
       have E1 : Hid (Es w w3 P e v1 (eB1 e)) := E0.out.app A1
       clear A1 d0 d1 d2 d3 d4 d5 d6 d7 d8 d9 d10 d11 d12 ld
       obtain ⟨d0, d1, d2, d3, d4, d5, d6, d7, d8, d9, d10, d11, d12, ld⟩ := ed13 E1.out.x))
  go_cut [5] (fun v wd => Hid (Es w wd P e v (eB2 e)))
  case first =>
    cases hm : e.ma
    rotate_left
    · have hq : eB2 e = eB1 e ++ ([2] ++ nbs [e.how] ++ txs [e.name]) := by unfold eB2; rw [if_pos hm]
      have hk := HC.out.mak hm
      have hw1 : IntKind.u64.wrap e.how = e.how := by rw [IntKind.wrap_u64]; omega
      go_wp2_with (first
        | (go_at_call 34
           have t := texts_one E9.out.own E9.out.lt e.name (by omega) (by have := eB1_len e; have := one_len e.how; simp only [List.length_append, List.length_cons, List.length_nil] at *; omega)
           refine t.mono ?_
           clear t
           rintro en w8 ⟨v8, rfl, A8⟩
           have E8 : Hid (Es w w8 P e v8 _) := E9.out.app A8
           clear A8 d0 d1 d2 d3 d4 d5 d6 d7 d8 d9 d10 d11 d12 ld
           obtain ⟨d0, d1, d2, d3, d4, d5, d6, d7, d8, d9, d10, d11, d12, ld⟩ := ed13 E8.out.x)
        | (go_at_call 33
           have t := part_one E1.out.own E1.out.lt 2 e.how (by omega) (by have := eB1_len e; omega)
           refine t.mono ?_
           clear t
           rintro en w9 ⟨v9, rfl, A9⟩
           have E9 : Hid (Es w w9 P e v9 _) := E1.out.app A9
           clear A9 d0 d1 d2 d3 d4 d5 d6 d7 d8 d9 d10 d11 d12 ld
           obtain ⟨d0, d1, d2, d3, d4, d5, d6, d7, d8, d9, d10, d11, d12, ld⟩ := ed13 E9.out.x))
      go_meet
      show Es _ _ _ _ _ _
      rw [hq]
      have := E8.out
      simpa using this
    · have hq : eB2 e = eB1 e := by unfold eB2; rw [if_neg (by simp [hm]), List.append_nil]
      go_wp2
      go_meet
      show Es _ _ _ _ _ _
      rw [hq]
      exact E1.out
  case rest =>
  clear d0 d1 d2 d3 d4 d5 d6 d7 d8 d9 d10 d11 d12 ld
  rename_i _
  have E2 := hcut
  clear hcut
  obtain ⟨d0, d1, d2, d3, d4, d5, d6, d7, d8, d9, d10, d11, d12, ld⟩ := ed13 E2.out.x
  go_upto_if 34 with fail
  go_cut [5] (fun v wd => Hid (Es w wd P e v (eB3 e)))
  case first =>
    cases hm : e.dr
    rotate_left
    · have hq : eB3 e = eB2 e ++ ([3]) := by unfold eB3; rw [if_pos hm]
      go_wp2_with (first
        | (go_at_call 33
           have t := part_nil E2.out.own E2.out.lt 3 (by have := eB2_len HC.out; omega)
           refine t.mono ?_
           clear t
           rintro en w9 ⟨v9, rfl, A9⟩
           have E9 : Hid (Es w w9 P e v9 _) := E2.out.app A9
           clear A9 d0 d1 d2 d3 d4 d5 d6 d7 d8 d9 d10 d11 d12 ld
           obtain ⟨d0, d1, d2, d3, d4, d5, d6, d7, d8, d9, d10, d11, d12, ld⟩ := ed13 E9.out.x))
      go_meet
      show Es _ _ _ _ _ _
      rw [hq]
      exact E9.out
    · have hq : eB3 e = eB2 e := by unfold eB3; rw [if_neg (by simp [hm]), List.append_nil]
      go_wp2
      go_meet
      show Es _ _ _ _ _ _
      rw [hq]
      exact E2.out
  case rest =>
  clear d0 d1 d2 d3 d4 d5 d6 d7 d8 d9 d10 d11 d12 ld
  rename_i _
  have E3 := hcut
  clear hcut
  obtain ⟨d0, d1, d2, d3, d4, d5, d6, d7, d8, d9, d10, d11, d12, ld⟩ := ed13 E3.out.x
  go_upto_if 38 with fail
  go_cut [5] (fun v wd => Hid (Es w wd P e v (eB4 e)))
  case first =>
    cases hm : e.hl
    rotate_left
    · have hq : eB4 e = eB3 e ++ ([4] ++ nbs [e.log]) := by unfold eB4; rw [if_pos hm]
      go_wp2_with (first
        | (go_at_call 33
           have t := part_one E3.out.own E3.out.lt 4 e.log (by have := HO.out.log; omega) (by have := eB3_len HC.out; omega)
           refine t.mono ?_
           clear t
           rintro en w9 ⟨v9, rfl, A9⟩
           have E9 : Hid (Es w w9 P e v9 _) := E3.out.app A9
           clear A9 d0 d1 d2 d3 d4 d5 d6 d7 d8 d9 d10 d11 d12 ld
           obtain ⟨d0, d1, d2, d3, d4, d5, d6, d7, d8, d9, d10, d11, d12, ld⟩ := ed13 E9.out.x))
      go_meet
      show Es _ _ _ _ _ _
      rw [hq]
      have := E9.out
      simpa using this
    · have hq : eB4 e = eB3 e := by unfold eB4; rw [if_neg (by simp [hm]), List.append_nil]
      go_wp2
      go_meet
      show Es _ _ _ _ _ _
      rw [hq]
      exact E3.out
  case rest =>
  clear d0 d1 d2 d3 d4 d5 d6 d7 d8 d9 d10 d11 d12 ld
  rename_i _
  have E4 := hcut
  clear hcut
  obtain ⟨d0, d1, d2, d3, d4, d5, d6, d7, d8, d9, d10, d11, d12, ld⟩ := ed13 E4.out.x
  go_upto_if 45 with fail
  go_cut [5] (fun v wd => Hid (Es w wd P e v (eB5 e)))
  case first =>
    cases hm : e.hn
    rotate_left
    · have hq : eB5 e = eB4 e ++ ([5] ++ nbs [e.next]) := by unfold eB5; rw [if_pos hm]
      go_wp2_with (first
        | (go_at_call 33
           have t := part_one E4.out.own E4.out.lt 5 e.next (by have := HO.out.next; omega) (by have := eB4_len HC.out; omega)
           refine t.mono ?_
           clear t
           rintro en w9 ⟨v9, rfl, A9⟩
           have E9 : Hid (Es w w9 P e v9 _) := E4.out.app A9
           clear A9 d0 d1 d2 d3 d4 d5 d6 d7 d8 d9 d10 d11 d12 ld
           obtain ⟨d0, d1, d2, d3, d4, d5, d6, d7, d8, d9, d10, d11, d12, ld⟩ := ed13 E9.out.x))
      go_meet
      show Es _ _ _ _ _ _
      rw [hq]
      have := E9.out
      simpa using this
    · have hq : eB5 e = eB4 e := by unfold eB5; rw [if_neg (by simp [hm]), List.append_nil]
      go_wp2
      go_meet
      show Es _ _ _ _ _ _
      rw [hq]
      exact E4.out
  case rest =>
  clear d0 d1 d2 d3 d4 d5 d6 d7 d8 d9 d10 d11 d12 ld
  rename_i _
  have E5 := hcut
  clear hcut
  obtain ⟨d0, d1, d2, d3, d4, d5, d6, d7, d8, d9, d10, d11, d12, ld⟩ := ed13 E5.out.x
  go_upto_if 52 with fail
  go_cut [5] (fun v wd => Hid (Es w wd P e v (eB6 e)))
  case first =>
    cases hm : e.hs
    rotate_left
    · have hq : eB6 e = eB5 e ++ ([6] ++ nbs [e.seq]) := by unfold eB6; rw [if_pos hm]
      go_wp2_with (first
        | (go_at_call 33
           have t := part_one E5.out.own E5.out.lt 6 e.seq (by have := HO.out.seq; omega) (by have := eB5_len HC.out; omega)
           refine t.mono ?_
           clear t
           rintro en w9 ⟨v9, rfl, A9⟩
           have E9 : Hid (Es w w9 P e v9 _) := E5.out.app A9
           clear A9 d0 d1 d2 d3 d4 d5 d6 d7 d8 d9 d10 d11 d12 ld
           obtain ⟨d0, d1, d2, d3, d4, d5, d6, d7, d8, d9, d10, d11, d12, ld⟩ := ed13 E9.out.x))
      go_meet
      show Es _ _ _ _ _ _
      rw [hq]
      have := E9.out
      simpa using this
    · have hq : eB6 e = eB5 e := by unfold eB6; rw [if_neg (by simp [hm]), List.append_nil]
      go_wp2
      go_meet
      show Es _ _ _ _ _ _
      rw [hq]
      exact E5.out
  case rest =>
  clear d0 d1 d2 d3 d4 d5 d6 d7 d8 d9 d10 d11 d12 ld
  rename_i _
  have E6 := hcut
  clear hcut
  obtain ⟨d0, d1, d2, d3, d4, d5, d6, d7, d8, d9, d10, d11, d12, ld⟩ := ed13 E6.out.x
  obtain ⟨N, hN⟩ : ∃ N, Hid (e.gone.length = N) := ⟨_, rfl⟩
  obtain ⟨N2, hN2⟩ : ∃ N, Hid (e.added.length = N) := ⟨_, rfl⟩
  obtain ⟨pga, hpga⟩ : ∃ z, Hid (P.ga = z) := ⟨_, rfl⟩
  obtain ⟨paa, hpaa⟩ : ∃ z, Hid (P.aa = z) := ⟨_, rfl⟩
  have HD : Hid (∀ {W v l}, Es w W P e v l → W.cell? ⟨w.heap.size, 11, none⟩ = some (.slice pga N P.gc) ∧ W.cell? ⟨w.heap.size, 12, none⟩ = some (.slice paa N2 P.ac) ∧ w.heap.size < W.heap.size) := fun h => by
    rw [← hN.out, ← hN2.out, ← hpga.out, ← hpaa.out]
    exact ⟨h.x.cell1 11 _ rfl, h.x.cell1 12 _ rfl, h.x.lt⟩
  clear d0 d1 d2 d3 d4 d5 d6 d7 d8 d9 d10 d11 d12 ld
  obtain ⟨d11, d12, ld⟩ := HD.out E6.out
  have HC1 : Hid (N ≤ 1024) := by have := HC.out.n; show _ ≤ _; rw [← hN.out]; omega
  rw [hN.out] at hl1
  rw [hN2.out] at hl2
  go_wp2
  go_loopw [5, 61] (fun u i wr => ∃ k : Nat, k ≤ N ∧ i = .int .i64 k ∧ Hid (Es w wr P e u (eB6 e ++ gnBs (e.gone.take k)))) (fun _ i _ => (N : Int).toNat - (intOf i).toNat)
  case atStart => exact ⟨0, Nat.zero_le _, rfl, by show Es _ _ _ _ _ _; simpa [gnBs] using E6.out⟩
  case round =>
    clear d11 d12 ld E6
    obtain ⟨k, hk, rfl, HA⟩ := hrel
    by_cases hlt : k < N
    · have hkz : (k : Int) < (N : Int) := by omega
      obtain ⟨x, hx⟩ : ∃ x, e.gone[k]? = some x := ⟨_, List.getElem?_eq_getElem (by rw [hN.out]; exact hlt)⟩
      obtain ⟨g, o, hg, hat⟩ := (HR.out.below HA.out.b).g.at_ hx
      obtain rfl : pga = some ⟨g, o, none⟩ := hpga.out.symm.trans hg
      obtain ⟨c0, c1⟩ := hat.g
      have hxm := List.mem_of_getElem? hx
      have x0 := HC.out.g x hxm
      have x1 := HO.out.gn x hxm
      have hw2 : IntKind.u64.wrap x.lv = x.lv := by rw [IntKind.wrap_u64]; omega
      have HB : Hid (Es w (wr.alloc x.o) P e u5 (eB6 e ++ gnBs (e.gone.take k))) := HA.out.below (al1 _ _)
      have HL : Hid ((eB6 e ++ gnBs (e.gone.take k)).length ≤ 1000000000) := by
        show _ ≤ _
        have h1 := gnBs_len (e.gone.take k)
        have h2 := eB6_len HC.out
        have h3 : (e.gone.take k).length ≤ N := by rw [← hN.out]; simp; omega
        have := HC1.out
        simp only [List.length_append]
        omega
      have HS : Hid (eB6 e ++ gnBs (e.gone.take k) ++ [7] ++ nbs [x.lv, x.num] = eB6 e ++ gnBs (e.gone.take (k + 1))) := by
        show _ = _
        rw [take_snoc' hx, gnBs_snoc]; simp [gnB]
      clear hx hat hxm hg
      generalize eB6 e ++ gnBs (e.gone.take k) = l1 at *
      go_wp2_with (first
        | (go_at_call 33
           have t := part_two HB.out.own HB.out.lt 7 x.lv x.num (by omega) x1 HL.out
           rw [World.size_alloc] at t
           refine t.mono ?_
           clear t
           rintro en w5 ⟨v5, rfl, A5⟩
           have E5 : Hid (Es w w5 P e v5 _) := HB.out.app A5
           clear A5))
      go_roundw
      case rel => exact ⟨k + 1, by omega, by go_num, by show Es _ _ _ _ _ _; rw [← HS.out]; exact E5.out⟩
      case measure => simp [intOf]; omega
    · obtain rfl : k = N := by omega
      have hz : ¬ ((k : Int) < k) := by omega
      have HA' : Hid (Es w wr P e u5 (eB6 e ++ gnBs e.gone)) := by
        have := HA.out
        rw [List.take_of_length_le (by rw [hN.out]; exact Nat.le_refl _)] at this
        exact this
      clear HA
      obtain ⟨d11, d12, ld⟩ := HD.out HA'.out
      go_wp2
      go_loopw [5, 77] (fun u i wr => ∃ k : Nat, k ≤ N2 ∧ i = .int .i64 k ∧ Hid (Es w wr P e u (eB6 e ++ gnBs e.gone ++ adBs (e.added.take k)))) (fun _ i _ => (N2 : Int).toNat - (intOf i).toNat)
      case atStart => exact ⟨0, Nat.zero_le _, rfl, by show Es _ _ _ _ _ _; simpa [adBs] using HA'.out⟩
      case round =>
        clear d11 d12 ld HA'
        obtain ⟨j, hj, rfl, HA⟩ := hrel
        by_cases hlt : j < N2
        · have hkz : (j : Int) < (N2 : Int) := by omega
          obtain ⟨x, hx⟩ : ∃ x, e.added[j]? = some x := ⟨_, List.getElem?_eq_getElem (by rw [hN2.out]; exact hlt)⟩
          obtain ⟨g, o, hg, hat⟩ := (HR.out.below HA.out.b).a.at_ hx
          obtain rfl : paa = some ⟨g, o, none⟩ := hpaa.out.symm.trans hg
          obtain ⟨c0, c1, c2, c3, c4, c5, c6, c7, c8, c9, c10⟩ := hat.a
          have hxm := List.mem_of_getElem? hx
          have x0 := HC.out.a x hxm
          have x1 := HO.out.ad x hxm
          have HB : Hid (Es w (wr.alloc x.o) P e u5 (eB6 e ++ gnBs e.gone ++ adBs (e.added.take j))) := HA.out.below (al1 _ _)
          have HL : Hid ((eB6 e ++ gnBs e.gone ++ adBs (e.added.take j)).length ≤ 500000000) := by
            show _ ≤ _
            have h1 := adBs_len (e.added.take j) (fun a ha => HC.out.a a (List.mem_of_mem_take ha))
            have h2 := eB6_len HC.out
            have h3 : (e.added.take j).length ≤ N2 := by rw [← hN2.out]; simp; omega
            have h4 := gnBs_len e.gone
            have h5 := HC.out.n
            rw [hN.out, hN2.out] at h5
            rw [hN.out] at h4
            simp only [List.length_append]
            omega
          have HS : Hid (eB6 e ++ gnBs e.gone ++ adBs (e.added.take j) ++ adB x = eB6 e ++ gnBs e.gone ++ adBs (e.added.take (j + 1))) := by
            show _ = _
            rw [take_snoc' hx, adBs_snoc]; simp
          have H35 := appendAdded_any HB.out.own HB.out.lt x x1 x0.sm x0.la x0.lv HL.out
          clear hx hat hxm hg
          generalize eB6 e ++ gnBs e.gone ++ adBs (e.added.take j) = l1 at *
          go_wp2_with (first
            | (go_at_call 35
               refine H35.mono ?_
               rintro en w5 ⟨v5, rfl, A5⟩
               have E5 : Hid (Es w w5 P e v5 _) := HB.out.app A5
               clear A5))
          go_roundw
          case rel => exact ⟨j + 1, by omega, by go_num, by show Es _ _ _ _ _ _; rw [← HS.out]; exact E5.out⟩
          case measure => simp [intOf]; omega
        · obtain rfl : j = N2 := by omega
          have hz : ¬ ((j : Int) < j) := by omega
          have HF : Hid (Es w wr P e u5 (encB e)) := by
            have := HA.out
            rw [List.take_of_length_le (by rw [hN2.out]; exact Nat.le_refl _)] at this
            exact this
          clear HA
          go_wp2
          go_ret2
          exact ⟨u5, by rw [HZ.out]; rfl, by rw [HE.out]; exact HF.out.own.mono (by omega), HF.out.b⟩
end Go.Proofs.Ytkmpcheamdadcaa
