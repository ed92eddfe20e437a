/-
  The reference's Encode.
-/
import Derived.Test.YtkmpcheamdadcaaZh
import Derived.Test.YtkmpcheamdadcaaZe
import Derived.Test.YtkmpcheamdadcaaYa
namespace Go.Proofs.Ytkmpcheamdadcaa
open Go.RowKit
set_option linter.unusedVariables false
set_option linter.unusedSimpArgs false
theorem at_world {ops : Array Oper} {o : Oper} {a : Act} {K : Act → World → Prop} {Q : Exit → Act → World → Prop} {Ex : Prop} (W : World) (h : if Region.wanted o (yielded ops a.tmps) = true then Oper.wp Try.prog o a W K Q else Ex) :
    if Region.wanted o (yielded ops a.tmps) = true then Oper.wp Try.prog o a W K Q else Ex := h
set_option maxRecDepth 100000 in
set_option maxHeartbeats 8000000 in
theorem rencode_any {w : World} {P : En} {e : Ed} (h : RdEd w P e) (ho : EOk e) : Calls Try.prog 11 #[.agg (edA P e)] w fun en w' => ∃ v, en = .returned (.tuple #[v, .int .i64 (canE e)]) ∧ OwnB w' w.heap.size v (encR e) ∧ Below w.heap.size w w' := by
  have HR : Hid (RdEd w P e) := h
  have HO : Hid (EOk e) := ho
  have HX : Hid (Blk (w.alloc (edO P e)) w.heap.size 27 (edA P e).toList) := ed_box w P e
  have H36 := rcan_any (h.below (al1 w (edO P e)))
  have hl1 := h.gl
  have hl2 := h.al
  obtain ⟨i0, hi, hz0, hz1, hz2⟩ := info_parts info5
  clear h ho
  go_enter Try.func11, Try.ntmps11
  go_upto_if 12 with (first
    | (go_at_call 36
       refine H36.mono ?_
       rintro en w2 ⟨rfl, hb2⟩
       have E0 : Hid (Es w w2 P e (.slice none 0 0) []) := ⟨HX.out.upd (S := Non) (Upd.ofBelow hb2) (fun h => h), OwnB.nil _ _, bstep (al1 _ _) hb2⟩
       clear hb2))
  by_cases hc : canE e = 0
  case neg =>
    have hcb : (canE e != 0) = true := by simpa using hc
    have hR : encR e = [] := by unfold encR; rw [if_neg hc]
    go_wp2
    go_ret2
    exact ⟨_, rfl, by rw [hR]; exact OwnB.nil _ _, E0.out.b⟩
  case pos =>
  have hcb : (canE e != 0) = false := by simpa using hc
  have HC : Hid (CanEd e) := canE_iff.1 hc
  have HE : Hid (encR e = encB e) := by show _ = _; unfold encR; rw [if_pos hc]
  have HZ : Hid (canE e = 0) := hc
  clear hc
  obtain ⟨CE, hCE⟩ : ∃ z, z = canE e := ⟨_, rfl⟩
  rw [← hCE] at hcb ⊢
  clear hCE
  have hw0 : IntKind.u64.wrap e.fam = e.fam := by rw [IntKind.wrap_u64]; have := HO.out.fam; omega
  obtain ⟨d0, d1, d2, d3, d4, d5, d6, d7, d8, d9, d10, d11, d12, ld⟩ := ed13 E0.out.x
  have HV1 : Hid (Es w (w2.alloc (.cells #[.int .u8 1] 5)) P e (.slice (some ⟨w2.heap.size, 0, none⟩) 1 1) [1]) :=
    ⟨E0.out.x.alloc _, OwnB.ofBlock w2 (w.heap.size + 1) [1] [] #[.int .u8 1] (0, 0) rfl E0.out.lt (.inl rfl) (by simp [maxLen]) 1 rfl, bal0 E0.out.b⟩
  go_upto_if 21 with (first
    | (go_at_call 37
       have t := nums2_1 HV1.out.ef e.fam (by have := HO.out.fam; omega) (by simp)
       rw [World.size_alloc] at t
       refine t.mono ?_
       clear t
       rintro en w3 ⟨v1, rfl, A1⟩
       have E1 : Hid (Es w w3 P e v1 (eB1 e)) := A1.es
       clear A1 d0 d1 d2 d3 d4 d5 d6 d7 d8 d9 d10 d11 d12 ld
       obtain ⟨d0, d1, d2, d3, d4, d5, d6, d7, d8, d9, d10, d11, d12, ld⟩ := ed13 E1.out.x))
  go_cut [5] (fun v wd => Hid (Es w wd P e v (eB2 e)))
  case first =>
    cases hm : e.ma
    rotate_left
    · have hq : eB2 e = eB1 e ++ ([2] ++ nbs [e.how] ++ txs [e.name]) := by unfold eB2; rw [if_pos hm]
      have hk := HC.out.mak hm
      have hw1 : IntKind.u64.wrap e.how = e.how := by rw [IntKind.wrap_u64]; omega
      have hw2 : IntKind.u64.wrap (e.name.size : Int) = e.name.size := by rw [IntKind.wrap_u64]; omega
      have HSe : Hid (∀ {W v l}, Ef w.heap.size 27 (edA P e).toList w W P e v l → W.cell? ⟨w.heap.size, 4, none⟩ = some (.int .i64 e.how) ∧ W.cell? ⟨w.heap.size, 3, none⟩ = some (.string e.name)) := fun h => ⟨h.es.x.cell1 4 _ rfl, h.es.x.cell1 3 _ rfl⟩
      have HEf : Hid (Ef w.heap.size 27 (edA P e).toList w w3 P e v1 (eB1 e)) := E1.out.ef
      have HLn : Hid ((eB1 e).length ≤ 400000000) := by have := eB1_len e; show _ ≤ _; omega
      have HLm : Hid ((eB1 e ++ [2] ++ nbs [e.how, (e.name.size : Int)]).length + (sb e.name).length ≤ 140737488355328) := by
        show _ ≤ _
        have h1 := eB1_len e
        have h2 := nbs_len [e.how, (e.name.size : Int)]
        have h3 := sb_len e.name
        simp only [List.length_append, List.length_cons, List.length_nil] at *
        omega
      go_wp2
      have HRA : Hid (∀ ty, _) := fun ty => regA HEf.out 2 (Nat.le_trans HLn.out (by omega)) ty
      have HRB : Hid (∀ ty, _) := fun ty => regB HEf.out 2 [.int .u64 (e.how), .int .u64 ((e.name.size : Int))] (Nat.le_trans HLn.out (by omega)) ty
      have HRC : Hid (∀ ty, _) := fun ty => regC HEf.out 2 [.int .u64 (e.how), .int .u64 ((e.name.size : Int))] (Nat.le_trans HLn.out (by omega)) ty
      have HbA : Hid (Ef w.heap.size 27 (edA P e).toList w (w3.alloc (.cells #[.int .u8 2] 5)).drew P e _ _) := HEf.out.below (al1 _ _).drew
      have HbD : Hid (Ef w.heap.size 27 (edA P e).toList w (w3.alloc (.cells #[.int .u64 (e.how), .int .u64 ((e.name.size : Int))] 23)).drew P e _ _) := HEf.out.below (al1 _ _).drew
      have HbB : Hid (Ef w.heap.size 27 (edA P e).toList w ((w3.alloc (.cells #[.int .u8 2] 5)).alloc (.cells #[.int .u64 (e.how), .int .u64 ((e.name.size : Int))] 23)).drew P e _ _) := HEf.out.below (bal0 (al1 _ _)).drew
      have HbC : Hid (Ef w.heap.size 27 (edA P e).toList w ((w3.alloc (.cells #[.int .u64 (e.how), .int .u64 ((e.name.size : Int))] 23)).alloc (.cells #[.int .u8 2] 5)).drew P e _ _) := HEf.out.below (bal0 (al1 _ _)).drew
      have Hb0 : Hid (Ef w.heap.size 27 (edA P e).toList w w3.drew P e _ _) := HEf.out.below (Below.refl _ _).drew
      go_region_held_law (fun W => W.cell? ⟨w.heap.size, 4, none⟩ = some (.int .i64 e.how) ∧ W.cell? ⟨w.heap.size, 3, none⟩ = some (.string e.name))
        (first
          | with_reducible exact HSe.out HE8.out
          | with_reducible exact HSe.out HE7.out
          | with_reducible exact HSe.out (esal HE7.out)
          | with_reducible exact HSe.out Hb0.out
          | with_reducible exact HSe.out HbA.out
          | with_reducible exact HSe.out HbB.out
          | with_reducible exact HSe.out HbC.out
          | with_reducible exact HSe.out HbD.out)
        (first
          | (have q := HxB
             clear q
             go_at_call 37
             have t := nums1_2 HE7.out (e.how) ((e.name.size : Int)) HxB.out.1 HxB.out.2 (by omega) (by omega) (by have := HLn.out; simp only [List.length_append, List.length_cons, List.length_nil]; omega)
             refine t.mono ?_
             clear t
             rintro en w8 ⟨v8, rfl, h8⟩
             have HE8 : Hid (Ef w.heap.size 27 (edA P e).toList w w8 P e v8 _) := h8
             clear h8)
          | (have q := HE7
             clear q
             go_at_call 37
             have t := nums2_2 HE7.out (e.how) ((e.name.size : Int)) (by omega) (by omega) (by have := HLn.out; simp only [List.length_append, List.length_cons, List.length_nil]; omega)
             refine t.mono ?_
             clear t
             rintro en w8 ⟨v8, rfl, h8⟩
             have HE8 : Hid (Ef w.heap.size 27 (edA P e).toList w w8 P e v8 _) := h8
             clear h8)
          | (with_reducible refine at_world ((w3.alloc (.cells #[.int .u8 2] 5)).drew) ?_
             refine step_appb (by rfl) (by rfl) _ _ (by rfl) (by rfl) (by rfl) (HRA.out _) ?_
             rintro v7 w7 h7
             have HE7 : Hid (Ef w.heap.size 27 (edA P e).toList w w7 P e v7 _) := h7
             clear h7)
          | (with_reducible refine at_world (((w3.alloc (.cells #[.int .u8 2] 5)).alloc (.cells #[.int .u64 (e.how), .int .u64 ((e.name.size : Int))] 23)).drew) ?_
             refine step_appb (by rfl) (by rfl) _ _ (by rfl) (by rfl) (by rfl) (HRB.out _) ?_
             rintro v7 w7 ⟨h7, hx7⟩
             have HE7 : Hid (Ef w.heap.size 27 (edA P e).toList w w7 P e v7 _) := h7
             have HxB : Hid _ := hx7
             clear h7 hx7)
          | (with_reducible refine at_world (((w3.alloc (.cells #[.int .u64 (e.how), .int .u64 ((e.name.size : Int))] 23)).alloc (.cells #[.int .u8 2] 5)).drew) ?_
             refine step_appb (by rfl) (by rfl) _ _ (by rfl) (by rfl) (by rfl) (HRC.out _) ?_
             rintro v7 w7 ⟨h7, hx7⟩
             have HE7 : Hid (Ef w.heap.size 27 (edA P e).toList w w7 P e v7 _) := h7
             have HxB : Hid _ := hx7
             clear h7 hx7))
      all_goals
        have hn8 := HE8.out.es.x.cell1 3 _ rfl
        have ln8 := HE8.out.es.x.lt
        go_wp2_with (first
          | (at_builtin
             refine OwnB.wpList_append rfl _ _ 28 9 rfl rfl (base := w.heap.size + 1) (l := eB1 e ++ [2] ++ nbs [e.how, (e.name.size : Int)]) HE8.out.own i0 Try.underlying28 hi hz0 hz1 hz2 (.string e.name) rfl (sb e.name) (src_str _ e.name) HE8.out.lt HLm.out ?_
             intro v9 w9 ho9 hg9 hl9
             have HE9 : Hid (Ef w.heap.size 27 (edA P e).toList w w9 P e v9 _) := HE8.out.app (AppB.grow ho9 hg9 hl9)
             clear ho9 hg9 hl9))
        go_meet
        show Es _ _ _ _ _ _
        rw [hq]
        have := HE9.out.es
        simpa [txs, nbs] using this
    · have hq : eB2 e = eB1 e := by unfold eB2; rw [if_neg (by simp [hm]), List.append_nil]
      go_wp2
      go_meet
      show Es _ _ _ _ _ _
      rw [hq]
      exact E1.out
  case rest =>
  clear d0 d1 d2 d3 d4 d5 d6 d7 d8 d9 d10 d11 d12 ld
  have E2 := hcut
  clear hcut
  obtain ⟨d0, d1, d2, d3, d4, d5, d6, d7, d8, d9, d10, d11, d12, ld⟩ := ed13 E2.out.x
  go_upto_if 39 with fail
  go_cut [5] (fun v wd => Hid (Es w wd P e v (eB3 e)))
  case first =>
    cases hm : e.dr
    rotate_left
    · have hq : eB3 e = eB2 e ++ ([3]) := by unfold eB3; rw [if_pos hm]
      go_wp2_with (first
        | (at_builtin
           refine OwnB.wpList_append rfl _ _ 28 28 rfl rfl (base := w.heap.size + 1) (l := eB2 e) (E2.out.own.alloc _) i0 Try.underlying28 hi hz0 hz1 hz2 (.slice (some ⟨wc.heap.size, 0, none⟩) 1 1) rfl [3] (blkb_src (Blk.new wc 5 [.int .u8 3])) (by have := E2.out.lt; simp; omega) (by have := eB2_len HC.out; simp; omega) ?_
           intro v9 w9 ho9 hg9 hl9
           have HE9 : Hid (Es w w9 P e v9 _) := (E2.out.below (al1 _ _)).app (AppB.grow ho9 hg9 hl9)
           clear ho9 hg9 hl9))
      go_meet
      show Es _ _ _ _ _ _
      rw [hq]
      exact HE9.out
    · have hq : eB3 e = eB2 e := by unfold eB3; rw [if_neg (by simp [hm]), List.append_nil]
      go_wp2
      go_meet
      show Es _ _ _ _ _ _
      rw [hq]
      exact E2.out
  case rest =>
  clear d0 d1 d2 d3 d4 d5 d6 d7 d8 d9 d10 d11 d12 ld
  have E3 := hcut
  clear hcut
  obtain ⟨d0, d1, d2, d3, d4, d5, d6, d7, d8, d9, d10, d11, d12, ld⟩ := ed13 E3.out.x
  go_upto_if 44 with fail
  go_cut [5] (fun v wd => Hid (Es w wd P e v (eB4 e)))
  case first =>
    cases hm : e.hl
    rotate_left
    · have hq : eB4 e = eB3 e ++ ([4] ++ nbs [e.log]) := by unfold eB4; rw [if_pos hm]
      have HSe : Hid (∀ {W v l}, Ef w.heap.size 27 (edA P e).toList w W P e v l → W.cell? ⟨w.heap.size, 8, none⟩ = some (.int .u64 e.log)) := fun h => h.es.x.cell1 8 _ rfl
      have HEf : Hid (Ef w.heap.size 27 (edA P e).toList w wc P e u5 (eB3 e)) := E3.out.ef
      have HLn : Hid ((eB3 e).length ≤ 400000000) := by have := eB3_len HC.out; show _ ≤ _; omega
      go_wp2
      have HRA : Hid (∀ ty, _) := fun ty => regA HEf.out 4 (Nat.le_trans HLn.out (by omega)) ty
      have HRB : Hid (∀ ty, _) := fun ty => regB HEf.out 4 [.int .u64 (e.log)] (Nat.le_trans HLn.out (by omega)) ty
      have HRC : Hid (∀ ty, _) := fun ty => regC HEf.out 4 [.int .u64 (e.log)] (Nat.le_trans HLn.out (by omega)) ty
      have HbA : Hid (Ef w.heap.size 27 (edA P e).toList w (wc.alloc (.cells #[.int .u8 4] 5)).drew P e _ _) := HEf.out.below (al1 _ _).drew
      have HbD : Hid (Ef w.heap.size 27 (edA P e).toList w (wc.alloc (.cells #[.int .u64 (e.log)] 23)).drew P e _ _) := HEf.out.below (al1 _ _).drew
      have HbB : Hid (Ef w.heap.size 27 (edA P e).toList w ((wc.alloc (.cells #[.int .u8 4] 5)).alloc (.cells #[.int .u64 (e.log)] 23)).drew P e _ _) := HEf.out.below (bal0 (al1 _ _)).drew
      have HbC : Hid (Ef w.heap.size 27 (edA P e).toList w ((wc.alloc (.cells #[.int .u64 (e.log)] 23)).alloc (.cells #[.int .u8 4] 5)).drew P e _ _) := HEf.out.below (bal0 (al1 _ _)).drew
      have Hb0 : Hid (Ef w.heap.size 27 (edA P e).toList w wc.drew P e _ _) := HEf.out.below (Below.refl _ _).drew
      go_region_held_law (fun W => W.cell? ⟨w.heap.size, 8, none⟩ = some (.int .u64 e.log))
        (first
          | with_reducible exact HSe.out HE8.out
          | with_reducible exact HSe.out HE7.out
          | with_reducible exact HSe.out (esal HE7.out)
          | with_reducible exact HSe.out Hb0.out
          | with_reducible exact HSe.out HbA.out
          | with_reducible exact HSe.out HbB.out
          | with_reducible exact HSe.out HbC.out
          | with_reducible exact HSe.out HbD.out)
        (first
          | (have q := HxB
             clear q
             go_at_call 37
             have t := nums1_1 HE7.out (e.log) HxB.out.1 HxB.out.2 (by have := HO.out.log; omega) (by have := HLn.out; simp only [List.length_append, List.length_cons, List.length_nil]; omega)
             refine t.mono ?_
             clear t
             rintro en w8 ⟨v8, rfl, h8⟩
             have HE8 : Hid (Ef w.heap.size 27 (edA P e).toList w w8 P e v8 _) := h8
             clear h8)
          | (have q := HE7
             clear q
             go_at_call 37
             have t := nums2_1 HE7.out (e.log) (by have := HO.out.log; omega) (by have := HLn.out; simp only [List.length_append, List.length_cons, List.length_nil]; omega)
             refine t.mono ?_
             clear t
             rintro en w8 ⟨v8, rfl, h8⟩
             have HE8 : Hid (Ef w.heap.size 27 (edA P e).toList w w8 P e v8 _) := h8
             clear h8)
          | (with_reducible refine at_world ((wc.alloc (.cells #[.int .u8 4] 5)).drew) ?_
             refine step_appb (by rfl) (by rfl) _ _ (by rfl) (by rfl) (by rfl) (HRA.out _) ?_
             rintro v7 w7 h7
             have HE7 : Hid (Ef w.heap.size 27 (edA P e).toList w w7 P e v7 _) := h7
             clear h7)
          | (with_reducible refine at_world (((wc.alloc (.cells #[.int .u8 4] 5)).alloc (.cells #[.int .u64 (e.log)] 23)).drew) ?_
             refine step_appb (by rfl) (by rfl) _ _ (by rfl) (by rfl) (by rfl) (HRB.out _) ?_
             rintro v7 w7 ⟨h7, hx7⟩
             have HE7 : Hid (Ef w.heap.size 27 (edA P e).toList w w7 P e v7 _) := h7
             have HxB : Hid _ := hx7
             clear h7 hx7)
          | (with_reducible refine at_world (((wc.alloc (.cells #[.int .u64 (e.log)] 23)).alloc (.cells #[.int .u8 4] 5)).drew) ?_
             refine step_appb (by rfl) (by rfl) _ _ (by rfl) (by rfl) (by rfl) (HRC.out _) ?_
             rintro v7 w7 ⟨h7, hx7⟩
             have HE7 : Hid (Ef w.heap.size 27 (edA P e).toList w w7 P e v7 _) := h7
             have HxB : Hid _ := hx7
             clear h7 hx7))
      all_goals
        go_wp2
        go_meet
        show Es _ _ _ _ _ _
        rw [hq]
        have := HE8.out.es
        simpa using this
    · have hq : eB4 e = eB3 e := by unfold eB4; rw [if_neg (by simp [hm]), List.append_nil]
      go_wp2
      go_meet
      show Es _ _ _ _ _ _
      rw [hq]
      exact E3.out
  case rest =>
  clear d0 d1 d2 d3 d4 d5 d6 d7 d8 d9 d10 d11 d12 ld
  have E4 := hcut
  clear hcut
  obtain ⟨d0, d1, d2, d3, d4, d5, d6, d7, d8, d9, d10, d11, d12, ld⟩ := ed13 E4.out.x
  go_upto_if 53 with fail
  go_cut [5] (fun v wd => Hid (Es w wd P e v (eB5 e)))
  case first =>
    cases hm : e.hn
    rotate_left
    · have hq : eB5 e = eB4 e ++ ([5] ++ nbs [e.next]) := by unfold eB5; rw [if_pos hm]
      have HSe : Hid (∀ {W v l}, Ef w.heap.size 27 (edA P e).toList w W P e v l → W.cell? ⟨w.heap.size, 9, none⟩ = some (.int .u64 e.next)) := fun h => h.es.x.cell1 9 _ rfl
      have HEf : Hid (Ef w.heap.size 27 (edA P e).toList w wc P e u5 (eB4 e)) := E4.out.ef
      have HLn : Hid ((eB4 e).length ≤ 400000000) := by have := eB4_len HC.out; show _ ≤ _; omega
      go_wp2
      have HRA : Hid (∀ ty, _) := fun ty => regA HEf.out 5 (Nat.le_trans HLn.out (by omega)) ty
      have HRB : Hid (∀ ty, _) := fun ty => regB HEf.out 5 [.int .u64 (e.next)] (Nat.le_trans HLn.out (by omega)) ty
      have HRC : Hid (∀ ty, _) := fun ty => regC HEf.out 5 [.int .u64 (e.next)] (Nat.le_trans HLn.out (by omega)) ty
      have HbA : Hid (Ef w.heap.size 27 (edA P e).toList w (wc.alloc (.cells #[.int .u8 5] 5)).drew P e _ _) := HEf.out.below (al1 _ _).drew
      have HbD : Hid (Ef w.heap.size 27 (edA P e).toList w (wc.alloc (.cells #[.int .u64 (e.next)] 23)).drew P e _ _) := HEf.out.below (al1 _ _).drew
      have HbB : Hid (Ef w.heap.size 27 (edA P e).toList w ((wc.alloc (.cells #[.int .u8 5] 5)).alloc (.cells #[.int .u64 (e.next)] 23)).drew P e _ _) := HEf.out.below (bal0 (al1 _ _)).drew
      have HbC : Hid (Ef w.heap.size 27 (edA P e).toList w ((wc.alloc (.cells #[.int .u64 (e.next)] 23)).alloc (.cells #[.int .u8 5] 5)).drew P e _ _) := HEf.out.below (bal0 (al1 _ _)).drew
      have Hb0 : Hid (Ef w.heap.size 27 (edA P e).toList w wc.drew P e _ _) := HEf.out.below (Below.refl _ _).drew
      go_region_held_law (fun W => W.cell? ⟨w.heap.size, 9, none⟩ = some (.int .u64 e.next))
        (first
          | with_reducible exact HSe.out HE8.out
          | with_reducible exact HSe.out HE7.out
          | with_reducible exact HSe.out (esal HE7.out)
          | with_reducible exact HSe.out Hb0.out
          | with_reducible exact HSe.out HbA.out
          | with_reducible exact HSe.out HbB.out
          | with_reducible exact HSe.out HbC.out
          | with_reducible exact HSe.out HbD.out)
        (first
          | (have q := HxB
             clear q
             go_at_call 37
             have t := nums1_1 HE7.out (e.next) HxB.out.1 HxB.out.2 (by have := HO.out.next; omega) (by have := HLn.out; simp only [List.length_append, List.length_cons, List.length_nil]; omega)
             refine t.mono ?_
             clear t
             rintro en w8 ⟨v8, rfl, h8⟩
             have HE8 : Hid (Ef w.heap.size 27 (edA P e).toList w w8 P e v8 _) := h8
             clear h8)
          | (have q := HE7
             clear q
             go_at_call 37
             have t := nums2_1 HE7.out (e.next) (by have := HO.out.next; omega) (by have := HLn.out; simp only [List.length_append, List.length_cons, List.length_nil]; omega)
             refine t.mono ?_
             clear t
             rintro en w8 ⟨v8, rfl, h8⟩
             have HE8 : Hid (Ef w.heap.size 27 (edA P e).toList w w8 P e v8 _) := h8
             clear h8)
          | (with_reducible refine at_world ((wc.alloc (.cells #[.int .u8 5] 5)).drew) ?_
             refine step_appb (by rfl) (by rfl) _ _ (by rfl) (by rfl) (by rfl) (HRA.out _) ?_
             rintro v7 w7 h7
             have HE7 : Hid (Ef w.heap.size 27 (edA P e).toList w w7 P e v7 _) := h7
             clear h7)
          | (with_reducible refine at_world (((wc.alloc (.cells #[.int .u8 5] 5)).alloc (.cells #[.int .u64 (e.next)] 23)).drew) ?_
             refine step_appb (by rfl) (by rfl) _ _ (by rfl) (by rfl) (by rfl) (HRB.out _) ?_
             rintro v7 w7 ⟨h7, hx7⟩
             have HE7 : Hid (Ef w.heap.size 27 (edA P e).toList w w7 P e v7 _) := h7
             have HxB : Hid _ := hx7
             clear h7 hx7)
          | (with_reducible refine at_world (((wc.alloc (.cells #[.int .u64 (e.next)] 23)).alloc (.cells #[.int .u8 5] 5)).drew) ?_
             refine step_appb (by rfl) (by rfl) _ _ (by rfl) (by rfl) (by rfl) (HRC.out _) ?_
             rintro v7 w7 ⟨h7, hx7⟩
             have HE7 : Hid (Ef w.heap.size 27 (edA P e).toList w w7 P e v7 _) := h7
             have HxB : Hid _ := hx7
             clear h7 hx7))
      all_goals
        go_wp2
        go_meet
        show Es _ _ _ _ _ _
        rw [hq]
        have := HE8.out.es
        simpa using this
    · have hq : eB5 e = eB4 e := by unfold eB5; rw [if_neg (by simp [hm]), List.append_nil]
      go_wp2
      go_meet
      show Es _ _ _ _ _ _
      rw [hq]
      exact E4.out
  case rest =>
  clear d0 d1 d2 d3 d4 d5 d6 d7 d8 d9 d10 d11 d12 ld
  have E5 := hcut
  clear hcut
  obtain ⟨d0, d1, d2, d3, d4, d5, d6, d7, d8, d9, d10, d11, d12, ld⟩ := ed13 E5.out.x
  go_upto_if 62 with fail
  go_cut [5] (fun v wd => Hid (Es w wd P e v (eB6 e)))
  case first =>
    cases hm : e.hs
    rotate_left
    · have hq : eB6 e = eB5 e ++ ([6] ++ nbs [e.seq]) := by unfold eB6; rw [if_pos hm]
      have HSe : Hid (∀ {W v l}, Ef w.heap.size 27 (edA P e).toList w W P e v l → W.cell? ⟨w.heap.size, 10, none⟩ = some (.int .u64 e.seq)) := fun h => h.es.x.cell1 10 _ rfl
      have HEf : Hid (Ef w.heap.size 27 (edA P e).toList w wc P e u5 (eB5 e)) := E5.out.ef
      have HLn : Hid ((eB5 e).length ≤ 400000000) := by have := eB5_len HC.out; show _ ≤ _; omega
      go_wp2
      have HRA : Hid (∀ ty, _) := fun ty => regA HEf.out 6 (Nat.le_trans HLn.out (by omega)) ty
      have HRB : Hid (∀ ty, _) := fun ty => regB HEf.out 6 [.int .u64 (e.seq)] (Nat.le_trans HLn.out (by omega)) ty
      have HRC : Hid (∀ ty, _) := fun ty => regC HEf.out 6 [.int .u64 (e.seq)] (Nat.le_trans HLn.out (by omega)) ty
      have HbA : Hid (Ef w.heap.size 27 (edA P e).toList w (wc.alloc (.cells #[.int .u8 6] 5)).drew P e _ _) := HEf.out.below (al1 _ _).drew
      have HbD : Hid (Ef w.heap.size 27 (edA P e).toList w (wc.alloc (.cells #[.int .u64 (e.seq)] 23)).drew P e _ _) := HEf.out.below (al1 _ _).drew
      have HbB : Hid (Ef w.heap.size 27 (edA P e).toList w ((wc.alloc (.cells #[.int .u8 6] 5)).alloc (.cells #[.int .u64 (e.seq)] 23)).drew P e _ _) := HEf.out.below (bal0 (al1 _ _)).drew
      have HbC : Hid (Ef w.heap.size 27 (edA P e).toList w ((wc.alloc (.cells #[.int .u64 (e.seq)] 23)).alloc (.cells #[.int .u8 6] 5)).drew P e _ _) := HEf.out.below (bal0 (al1 _ _)).drew
      have Hb0 : Hid (Ef w.heap.size 27 (edA P e).toList w wc.drew P e _ _) := HEf.out.below (Below.refl _ _).drew
      go_region_held_law (fun W => W.cell? ⟨w.heap.size, 10, none⟩ = some (.int .u64 e.seq))
        (first
          | with_reducible exact HSe.out HE8.out
          | with_reducible exact HSe.out HE7.out
          | with_reducible exact HSe.out (esal HE7.out)
          | with_reducible exact HSe.out Hb0.out
          | with_reducible exact HSe.out HbA.out
          | with_reducible exact HSe.out HbB.out
          | with_reducible exact HSe.out HbC.out
          | with_reducible exact HSe.out HbD.out)
        (first
          | (have q := HxB
             clear q
             go_at_call 37
             have t := nums1_1 HE7.out (e.seq) HxB.out.1 HxB.out.2 (by have := HO.out.seq; omega) (by have := HLn.out; simp only [List.length_append, List.length_cons, List.length_nil]; omega)
             refine t.mono ?_
             clear t
             rintro en w8 ⟨v8, rfl, h8⟩
             have HE8 : Hid (Ef w.heap.size 27 (edA P e).toList w w8 P e v8 _) := h8
             clear h8)
          | (have q := HE7
             clear q
             go_at_call 37
             have t := nums2_1 HE7.out (e.seq) (by have := HO.out.seq; omega) (by have := HLn.out; simp only [List.length_append, List.length_cons, List.length_nil]; omega)
             refine t.mono ?_
             clear t
             rintro en w8 ⟨v8, rfl, h8⟩
             have HE8 : Hid (Ef w.heap.size 27 (edA P e).toList w w8 P e v8 _) := h8
             clear h8)
          | (with_reducible refine at_world ((wc.alloc (.cells #[.int .u8 6] 5)).drew) ?_
             refine step_appb (by rfl) (by rfl) _ _ (by rfl) (by rfl) (by rfl) (HRA.out _) ?_
             rintro v7 w7 h7
             have HE7 : Hid (Ef w.heap.size 27 (edA P e).toList w w7 P e v7 _) := h7
             clear h7)
          | (with_reducible refine at_world (((wc.alloc (.cells #[.int .u8 6] 5)).alloc (.cells #[.int .u64 (e.seq)] 23)).drew) ?_
             refine step_appb (by rfl) (by rfl) _ _ (by rfl) (by rfl) (by rfl) (HRB.out _) ?_
             rintro v7 w7 ⟨h7, hx7⟩
             have HE7 : Hid (Ef w.heap.size 27 (edA P e).toList w w7 P e v7 _) := h7
             have HxB : Hid _ := hx7
             clear h7 hx7)
          | (with_reducible refine at_world (((wc.alloc (.cells #[.int .u64 (e.seq)] 23)).alloc (.cells #[.int .u8 6] 5)).drew) ?_
             refine step_appb (by rfl) (by rfl) _ _ (by rfl) (by rfl) (by rfl) (HRC.out _) ?_
             rintro v7 w7 ⟨h7, hx7⟩
             have HE7 : Hid (Ef w.heap.size 27 (edA P e).toList w w7 P e v7 _) := h7
             have HxB : Hid _ := hx7
             clear h7 hx7))
      all_goals
        go_wp2
        go_meet
        show Es _ _ _ _ _ _
        rw [hq]
        have := HE8.out.es
        simpa using this
    · have hq : eB6 e = eB5 e := by unfold eB6; rw [if_neg (by simp [hm]), List.append_nil]
      go_wp2
      go_meet
      show Es _ _ _ _ _ _
      rw [hq]
      exact E5.out
  case rest =>
  clear d0 d1 d2 d3 d4 d5 d6 d7 d8 d9 d10 d11 d12 ld
  have E6 := hcut
  clear hcut
  obtain ⟨d0, d1, d2, d3, d4, d5, d6, d7, d8, d9, d10, d11, d12, ld⟩ := ed13 E6.out.x
  obtain ⟨N, hN⟩ : ∃ N, Hid (e.gone.length = N) := ⟨_, rfl⟩
  obtain ⟨N2, hN2⟩ : ∃ N, Hid (e.added.length = N) := ⟨_, rfl⟩
  obtain ⟨pga, hpga⟩ : ∃ z, Hid (P.ga = z) := ⟨_, rfl⟩
  obtain ⟨paa, hpaa⟩ : ∃ z, Hid (P.aa = z) := ⟨_, rfl⟩
  have HD : Hid (∀ {W v l}, Es w W P e v l → W.cell? ⟨w.heap.size, 11, none⟩ = some (.slice pga N P.gc) ∧ W.cell? ⟨w.heap.size, 12, none⟩ = some (.slice paa N2 P.ac) ∧ w.heap.size < W.heap.size) := fun h => by
    rw [← hN.out, ← hN2.out, ← hpga.out, ← hpaa.out]
    exact ⟨h.x.cell1 11 _ rfl, h.x.cell1 12 _ rfl, h.x.lt⟩
  clear d0 d1 d2 d3 d4 d5 d6 d7 d8 d9 d10 d11 d12 ld
  have HC1 : Hid (N ≤ 1024) := by have := HC.out.n; show _ ≤ _; rw [← hN.out]; omega
  rw [hN.out] at hl1
  rw [hN2.out] at hl2
  go_wp2
  go_loopw [5, 6] (fun u i wr => ∃ k : Nat, k ≤ N ∧ i = .int .i64 k ∧ Hid (Es w wr P e u (eB6 e ++ gnBs (e.gone.take k)))) (fun _ i _ => (N : Int).toNat - (intOf i).toNat)
  case atStart => exact ⟨0, Nat.zero_le _, rfl, by show Es _ _ _ _ _ _; simpa [gnBs] using E6.out⟩
  case round =>
    clear E6
    obtain ⟨k, hk, rfl, HA⟩ := hrel
    obtain ⟨d11, d12, ld⟩ := HD.out HA.out
    by_cases hlt : k < N
    · have hkz : (k : Int) < (N : Int) := by omega
      obtain ⟨x, hx⟩ : ∃ x, e.gone[k]? = some x := ⟨_, List.getElem?_eq_getElem (by rw [hN.out]; exact hlt)⟩
      obtain ⟨g, o, hg, hat⟩ := HR.out.g.at_ hx
      obtain rfl : pga = some ⟨g, o, none⟩ := hpga.out.symm.trans hg
      obtain ⟨b0, b1⟩ := hat.g
      have hxm := List.mem_of_getElem? hx
      have x0 := HC.out.g x hxm
      have x1 := HO.out.gn x hxm
      have hw2 : IntKind.u64.wrap x.lv = x.lv := by rw [IntKind.wrap_u64]; omega
      have HEf : Hid (Ef w.heap.size 27 (edA P e).toList w wr P e u5 (eB6 e ++ gnBs (e.gone.take k))) := HA.out.ef
      have HSe : Hid (∀ {W v l}, Ef w.heap.size 27 (edA P e).toList w W P e v l → W.cell? ⟨w.heap.size, 11, none⟩ = some (.slice (some ⟨g, o, none⟩) N P.gc) ∧ W.cell? ⟨g, o + k * 2, none⟩ = some (.int .i64 x.lv) ∧ W.cell? ⟨g, o + k * 2 + 1, none⟩ = some (.int .u64 x.num)) := fun h => ⟨(HD.out h.es).1, cell_below h.es.b b0, cell_below h.es.b b1⟩
      obtain ⟨c11, c0, c1⟩ := HSe.out HEf.out
      have HLn : Hid ((eB6 e ++ gnBs (e.gone.take k)).length ≤ 400000000) := by
        show _ ≤ _
        have h1 := gnBs_len (e.gone.take k)
        have h2 := eB6_len HC.out
        have h3 : (e.gone.take k).length ≤ N := by rw [← hN.out]; simp; omega
        have := HC1.out
        simp only [List.length_append]
        omega
      have HS : Hid (eB6 e ++ gnBs (e.gone.take k) ++ [7] ++ nbs [x.lv, x.num] = eB6 e ++ gnBs (e.gone.take (k + 1))) := by
        show _ = _
        rw [take_snoc' hx, gnBs_snoc]; simp [gnB]
      clear hx hat hxm hg b0 b1
      generalize eB6 e ++ gnBs (e.gone.take k) = l1 at *
      go_wp2
      have HRA : Hid (∀ ty, _) := fun ty => regA HEf.out 7 (Nat.le_trans HLn.out (by omega)) ty
      have HRB : Hid (∀ ty, _) := fun ty => regB HEf.out 7 [.int .u64 (x.lv), .int .u64 (x.num)] (Nat.le_trans HLn.out (by omega)) ty
      have HRC : Hid (∀ ty, _) := fun ty => regC HEf.out 7 [.int .u64 (x.lv), .int .u64 (x.num)] (Nat.le_trans HLn.out (by omega)) ty
      have HbA : Hid (Ef w.heap.size 27 (edA P e).toList w (wr.alloc (.cells #[.int .u8 7] 5)).drew P e _ _) := HEf.out.below (al1 _ _).drew
      have HbD : Hid (Ef w.heap.size 27 (edA P e).toList w (wr.alloc (.cells #[.int .u64 (x.lv), .int .u64 (x.num)] 23)).drew P e _ _) := HEf.out.below (al1 _ _).drew
      have HbB : Hid (Ef w.heap.size 27 (edA P e).toList w ((wr.alloc (.cells #[.int .u8 7] 5)).alloc (.cells #[.int .u64 (x.lv), .int .u64 (x.num)] 23)).drew P e _ _) := HEf.out.below (bal0 (al1 _ _)).drew
      have HbC : Hid (Ef w.heap.size 27 (edA P e).toList w ((wr.alloc (.cells #[.int .u64 (x.lv), .int .u64 (x.num)] 23)).alloc (.cells #[.int .u8 7] 5)).drew P e _ _) := HEf.out.below (bal0 (al1 _ _)).drew
      have Hb0 : Hid (Ef w.heap.size 27 (edA P e).toList w wr.drew P e _ _) := HEf.out.below (Below.refl _ _).drew
      go_region_held_law (fun W => W.cell? ⟨w.heap.size, 11, none⟩ = some (.slice (some ⟨g, o, none⟩) N P.gc) ∧ W.cell? ⟨g, o + k * 2, none⟩ = some (.int .i64 x.lv) ∧ W.cell? ⟨g, o + k * 2 + 1, none⟩ = some (.int .u64 x.num))
        (first
          | with_reducible exact HSe.out HE8.out
          | with_reducible exact HSe.out HE7.out
          | with_reducible exact HSe.out (esal HE7.out)
          | with_reducible exact HSe.out Hb0.out
          | with_reducible exact HSe.out HbA.out
          | with_reducible exact HSe.out HbB.out
          | with_reducible exact HSe.out HbC.out
          | with_reducible exact HSe.out HbD.out)
        (first
          | (have q := HxB
             clear q
             go_at_call 37
             have t := nums1_2 HE7.out (x.lv) (x.num) HxB.out.1 HxB.out.2 (by omega) x1 (by have := HLn.out; simp only [List.length_append, List.length_cons, List.length_nil]; omega)
             refine t.mono ?_
             clear t
             rintro en w8 ⟨v8, rfl, h8⟩
             have HE8 : Hid (Ef w.heap.size 27 (edA P e).toList w w8 P e v8 _) := h8
             clear h8)
          | (have q := HE7
             clear q
             go_at_call 37
             have t := nums2_2 HE7.out (x.lv) (x.num) (by omega) x1 (by have := HLn.out; simp only [List.length_append, List.length_cons, List.length_nil]; omega)
             refine t.mono ?_
             clear t
             rintro en w8 ⟨v8, rfl, h8⟩
             have HE8 : Hid (Ef w.heap.size 27 (edA P e).toList w w8 P e v8 _) := h8
             clear h8)
          | (with_reducible refine at_world ((wr.alloc (.cells #[.int .u8 7] 5)).drew) ?_
             refine step_appb (by rfl) (by rfl) _ _ (by rfl) (by rfl) (by rfl) (HRA.out _) ?_
             rintro v7 w7 h7
             have HE7 : Hid (Ef w.heap.size 27 (edA P e).toList w w7 P e v7 _) := h7
             clear h7)
          | (with_reducible refine at_world (((wr.alloc (.cells #[.int .u8 7] 5)).alloc (.cells #[.int .u64 (x.lv), .int .u64 (x.num)] 23)).drew) ?_
             refine step_appb (by rfl) (by rfl) _ _ (by rfl) (by rfl) (by rfl) (HRB.out _) ?_
             rintro v7 w7 ⟨h7, hx7⟩
             have HE7 : Hid (Ef w.heap.size 27 (edA P e).toList w w7 P e v7 _) := h7
             have HxB : Hid _ := hx7
             clear h7 hx7)
          | (with_reducible refine at_world (((wr.alloc (.cells #[.int .u64 (x.lv), .int .u64 (x.num)] 23)).alloc (.cells #[.int .u8 7] 5)).drew) ?_
             refine step_appb (by rfl) (by rfl) _ _ (by rfl) (by rfl) (by rfl) (HRC.out _) ?_
             rintro v7 w7 ⟨h7, hx7⟩
             have HE7 : Hid (Ef w.heap.size 27 (edA P e).toList w w7 P e v7 _) := h7
             have HxB : Hid _ := hx7
             clear h7 hx7))
      all_goals
        go_wp2
        go_roundw
        case rel => exact ⟨k + 1, by omega, by go_num, by show Es _ _ _ _ _ _; rw [← HS.out]; exact HE8.out.es⟩
        case measure => simp [intOf]; omega
    · obtain rfl : k = N := by omega
      have hz : ¬ ((k : Int) < k) := by omega
      have HA' : Hid (Es w wr P e u5 (eB6 e ++ gnBs e.gone)) := by
        have := HA.out
        rw [List.take_of_length_le (by rw [hN.out]; exact Nat.le_refl _)] at this
        exact this
      clear HA
      go_wp2
      clear d11 d12 ld
      go_loopw [5, 7] (fun u i wr => ∃ k : Nat, k ≤ N2 ∧ i = .int .i64 k ∧ Hid (Es w wr P e u (eB6 e ++ gnBs e.gone ++ adBs (e.added.take k)))) (fun _ i _ => (N2 : Int).toNat - (intOf i).toNat)
      case atStart => exact ⟨0, Nat.zero_le _, rfl, by show Es _ _ _ _ _ _; simpa [adBs] using HA'.out⟩
      case round =>
        clear HA'
        obtain ⟨j, hj, rfl, HA⟩ := hrel
        obtain ⟨d11, d12, ld⟩ := HD.out HA.out
        by_cases hlt : j < N2
        · have hkz : (j : Int) < (N2 : Int) := by omega
          obtain ⟨x, hx⟩ : ∃ x, e.added[j]? = some x := ⟨_, List.getElem?_eq_getElem (by rw [hN2.out]; exact hlt)⟩
          obtain ⟨g, o, hg, hat⟩ := HR.out.a.at_ hx
          obtain rfl : paa = some ⟨g, o, none⟩ := hpaa.out.symm.trans hg
          obtain ⟨b0, b1, b2, b3, b4, b5, b6, b7, b8, b9, b10⟩ := hat.a
          have hB := HA.out.b
          have c0 := cell_below hB b0
          have c1 := cell_below hB b1
          have c2 := cell_below hB b2
          have c3 := cell_below hB b3
          have c4 := cell_below hB b4
          have c5 := cell_below hB b5
          have c6 := cell_below hB b6
          have c7 := cell_below hB b7
          have c8 := cell_below hB b8
          have c9 := cell_below hB b9
          have c10 := cell_below hB b10
          have HB0 : Hid (w.cell? ⟨g, o + j * 11, none⟩ = some (.int .i64 x.lv)) := b0
          have hxm := List.mem_of_getElem? hx
          have x0 := HC.out.a x hxm
          have x1 := HO.out.ad x hxm
          have x2 := x0.lv
          have hw2 : IntKind.u64.wrap x.lv = x.lv := by rw [IntKind.wrap_u64]; omega
          have HLn : Hid ((eB6 e ++ gnBs e.gone ++ adBs (e.added.take j)).length ≤ 400000000) := by
            show _ ≤ _
            have h1 := adBs_len (e.added.take j) (fun a ha => HC.out.a a (List.mem_of_mem_take ha))
            have h2 := eB6_len HC.out
            have h3 : (e.added.take j).length ≤ N2 := by rw [← hN2.out]; simp; omega
            have h4 := gnBs_len e.gone
            have h5 := HC.out.n
            rw [hN.out, hN2.out] at h5
            rw [hN.out] at h4
            simp only [List.length_append]
            omega
          have HS : Hid (eB6 e ++ gnBs e.gone ++ adBs (e.added.take j) ++ [8] ++ nbs [x.lv, x.f.num, x.f.size, x.f.ents, x.f.rngs] ++ kt x.f.sm ++ kt x.f.la = eB6 e ++ gnBs e.gone ++ adBs (e.added.take (j + 1))) := by
            show _ = _
            rw [take_snoc' hx, adBs_snoc]; simp [adB]
          have HLm : Hid ((eB6 e ++ gnBs e.gone ++ adBs (e.added.take j) ++ [8] ++ nbs [x.lv, x.f.num, x.f.size, x.f.ents, x.f.rngs]).length ≤ 450000000 ∧ (eB6 e ++ gnBs e.gone ++ adBs (e.added.take j) ++ [8] ++ nbs [x.lv, x.f.num, x.f.size, x.f.ents, x.f.rngs] ++ kt x.f.sm).length ≤ 500000000) := by
            have h1 := HLn.out
            have h2 := nbs_len [x.lv, x.f.num, x.f.size, x.f.ents, x.f.rngs]
            have h3 := kt_len x0.sm.size
            show _ ∧ _
            simp only [List.length_append, List.length_cons, List.length_nil] at *
            omega
          have HEf : Hid (Ef wr.heap.size 50 x.f.c w (wr.alloc x.f.o) P e u5 (eB6 e ++ gnBs e.gone ++ adBs (e.added.take j))) := ⟨HA.out.below (al1 _ _), Blk.new wr 50 x.f.c, fun h => by have := (HA.out.own.lt _ h).2; omega⟩
          clear hx hat hxm hg b0 b1 b2 b3 b4 b5 b6 b7 b8 b9 b10 hB
          generalize eB6 e ++ gnBs e.gone ++ adBs (e.added.take j) = l1 at *
          go_wp2
          generalize hW2 : wr.alloc (.cells _ 50) = W2 at *
          clear hW2
          have HSe : Hid (∀ {W v l}, Ef wr.heap.size 50 x.f.c w W P e v l → W.cell? ⟨w.heap.size, 12, none⟩ = some (.slice (some ⟨g, o, none⟩) N2 P.ac) ∧ W.cell? ⟨g, o + j * 11, none⟩ = some (.int .i64 x.lv) ∧ W.cell? ⟨wr.heap.size, 0, none⟩ = some (.int .u64 x.f.num) ∧ W.cell? ⟨wr.heap.size, 1, none⟩ = some (.int .u64 x.f.size) ∧ W.cell? ⟨wr.heap.size, 8, none⟩ = some (.int .u64 x.f.ents) ∧ W.cell? ⟨wr.heap.size, 9, none⟩ = some (.int .u64 x.f.rngs)) := fun h => ⟨(HD.out h.es).2.1, cell_below h.es.b HB0.out, h.f.cell1 0 _ rfl, h.f.cell1 1 _ rfl, h.f.cell1 8 _ rfl, h.f.cell1 9 _ rfl⟩
          have HSf : Hid (∀ {W v l}, Ef wr.heap.size 50 x.f.c w W P e v l → W.cell? ⟨wr.heap.size, 2, none⟩ = some (.string x.f.sm.u) ∧ W.cell? ⟨wr.heap.size, 3, none⟩ = some (.int .u64 x.f.sm.s) ∧ W.cell? ⟨wr.heap.size, 4, none⟩ = some (.int .i64 x.f.sm.k) ∧ W.cell? ⟨wr.heap.size, 5, none⟩ = some (.string x.f.la.u) ∧ W.cell? ⟨wr.heap.size, 6, none⟩ = some (.int .u64 x.f.la.s) ∧ W.cell? ⟨wr.heap.size, 7, none⟩ = some (.int .i64 x.f.la.k)) := fun h => ⟨h.f.cell1 2 _ rfl, h.f.cell1 3 _ rfl, h.f.cell1 4 _ rfl, h.f.cell1 5 _ rfl, h.f.cell1 6 _ rfl, h.f.cell1 7 _ rfl⟩
          clear d11 d12 ld c0 c1 c2 c3 c4 c5 c6 c7 c8 c9 c10
          go_cut [5] from 95 to 134 (fun v wd => Hid (Ef wr.heap.size 50 x.f.c w wd P e v (l1 ++ [8] ++ nbs [x.lv, x.f.num, x.f.size, x.f.ents, x.f.rngs])))
          case first =>
            obtain ⟨c12, c0, e0, e1, e8, e9⟩ := HSe.out HEf.out
            have ld := cell_lt c12
            have le := cell_lt e0
            have HRA : Hid (∀ ty, _) := fun ty => regA HEf.out 8 (Nat.le_trans HLn.out (by omega)) ty
            have HRB : Hid (∀ ty, _) := fun ty => regB HEf.out 8 [.int .u64 (x.lv), .int .u64 (x.f.num), .int .u64 (x.f.size), .int .u64 (x.f.ents), .int .u64 (x.f.rngs)] (Nat.le_trans HLn.out (by omega)) ty
            have HRC : Hid (∀ ty, _) := fun ty => regC HEf.out 8 [.int .u64 (x.lv), .int .u64 (x.f.num), .int .u64 (x.f.size), .int .u64 (x.f.ents), .int .u64 (x.f.rngs)] (Nat.le_trans HLn.out (by omega)) ty
            have HbA : Hid (Ef wr.heap.size 50 x.f.c w (W2.alloc (.cells #[.int .u8 8] 5)).drew P e _ _) := HEf.out.below (al1 _ _).drew
            have HbD : Hid (Ef wr.heap.size 50 x.f.c w (W2.alloc (.cells #[.int .u64 (x.lv), .int .u64 (x.f.num), .int .u64 (x.f.size), .int .u64 (x.f.ents), .int .u64 (x.f.rngs)] 23)).drew P e _ _) := HEf.out.below (al1 _ _).drew
            have HbB : Hid (Ef wr.heap.size 50 x.f.c w ((W2.alloc (.cells #[.int .u8 8] 5)).alloc (.cells #[.int .u64 (x.lv), .int .u64 (x.f.num), .int .u64 (x.f.size), .int .u64 (x.f.ents), .int .u64 (x.f.rngs)] 23)).drew P e _ _) := HEf.out.below (bal0 (al1 _ _)).drew
            have HbC : Hid (Ef wr.heap.size 50 x.f.c w ((W2.alloc (.cells #[.int .u64 (x.lv), .int .u64 (x.f.num), .int .u64 (x.f.size), .int .u64 (x.f.ents), .int .u64 (x.f.rngs)] 23)).alloc (.cells #[.int .u8 8] 5)).drew P e _ _) := HEf.out.below (bal0 (al1 _ _)).drew
            have Hb0 : Hid (Ef wr.heap.size 50 x.f.c w W2.drew P e _ _) := HEf.out.below (Below.refl _ _).drew
            go_region_held_law (fun W => W.cell? ⟨w.heap.size, 12, none⟩ = some (.slice (some ⟨g, o, none⟩) N2 P.ac) ∧ W.cell? ⟨g, o + j * 11, none⟩ = some (.int .i64 x.lv) ∧ W.cell? ⟨wr.heap.size, 0, none⟩ = some (.int .u64 x.f.num) ∧ W.cell? ⟨wr.heap.size, 1, none⟩ = some (.int .u64 x.f.size) ∧ W.cell? ⟨wr.heap.size, 8, none⟩ = some (.int .u64 x.f.ents) ∧ W.cell? ⟨wr.heap.size, 9, none⟩ = some (.int .u64 x.f.rngs))
              (first
                | with_reducible exact HSe.out HE8.out
                | with_reducible exact HSe.out HE7.out
                | with_reducible exact HSe.out (esal HE7.out)
                | with_reducible exact HSe.out Hb0.out
                | with_reducible exact HSe.out HbA.out
                | with_reducible exact HSe.out HbB.out
                | with_reducible exact HSe.out HbC.out
                | with_reducible exact HSe.out HbD.out)
              (first
                | (have q := HxB
                   clear q
                   go_at_call 37
                   have t := nums1_5 HE7.out (x.lv) (x.f.num) (x.f.size) (x.f.ents) (x.f.rngs) HxB.out.1 HxB.out.2 (by omega) x1.num x1.size x1.ents x1.rngs (by have := HLn.out; simp only [List.length_append, List.length_cons, List.length_nil]; omega)
                   refine t.mono ?_
                   clear t
                   rintro en w8 ⟨v8, rfl, h8⟩
                   have HE8 : Hid (Ef wr.heap.size 50 x.f.c w w8 P e v8 _) := h8
                   clear h8)
                | (have q := HE7
                   clear q
                   go_at_call 37
                   have t := nums2_5 HE7.out (x.lv) (x.f.num) (x.f.size) (x.f.ents) (x.f.rngs) (by omega) x1.num x1.size x1.ents x1.rngs (by have := HLn.out; simp only [List.length_append, List.length_cons, List.length_nil]; omega)
                   refine t.mono ?_
                   clear t
                   rintro en w8 ⟨v8, rfl, h8⟩
                   have HE8 : Hid (Ef wr.heap.size 50 x.f.c w w8 P e v8 _) := h8
                   clear h8)
                | (with_reducible refine at_world ((W2.alloc (.cells #[.int .u8 8] 5)).drew) ?_
                   refine step_appb (by rfl) (by rfl) _ _ (by rfl) (by rfl) (by rfl) (HRA.out _) ?_
                   rintro v7 w7 h7
                   have HE7 : Hid (Ef wr.heap.size 50 x.f.c w w7 P e v7 _) := h7
                   clear h7)
                | (with_reducible refine at_world (((W2.alloc (.cells #[.int .u8 8] 5)).alloc (.cells #[.int .u64 (x.lv), .int .u64 (x.f.num), .int .u64 (x.f.size), .int .u64 (x.f.ents), .int .u64 (x.f.rngs)] 23)).drew) ?_
                   refine step_appb (by rfl) (by rfl) _ _ (by rfl) (by rfl) (by rfl) (HRB.out _) ?_
                   rintro v7 w7 ⟨h7, hx7⟩
                   have HE7 : Hid (Ef wr.heap.size 50 x.f.c w w7 P e v7 _) := h7
                   have HxB : Hid _ := hx7
                   clear h7 hx7)
                | (with_reducible refine at_world (((W2.alloc (.cells #[.int .u64 (x.lv), .int .u64 (x.f.num), .int .u64 (x.f.size), .int .u64 (x.f.ents), .int .u64 (x.f.rngs)] 23)).alloc (.cells #[.int .u8 8] 5)).drew) ?_
                   refine step_appb (by rfl) (by rfl) _ _ (by rfl) (by rfl) (by rfl) (HRC.out _) ?_
                   rintro v7 w7 ⟨h7, hx7⟩
                   have HE7 : Hid (Ef wr.heap.size 50 x.f.c w w7 P e v7 _) := h7
                   have HxB : Hid _ := hx7
                   clear h7 hx7))
            all_goals
              go_wp2
              go_meet
              exact HE8
          case rest =>
            have HK := hcut
            clear hcut
            obtain ⟨e2, e3, e4, e5, e6, e7⟩ := HSf.out HK.out
            have le := cell_lt e2
            have Hb0 : Hid (Ef wr.heap.size 50 x.f.c w wc.drew P e u5 _) := HK.out.below (Below.refl _ _).drew
            go_wp2
            go_region_held_law (fun W => W.cell? ⟨wr.heap.size, 2, none⟩ = some (.string x.f.sm.u) ∧ W.cell? ⟨wr.heap.size, 3, none⟩ = some (.int .u64 x.f.sm.s) ∧ W.cell? ⟨wr.heap.size, 4, none⟩ = some (.int .i64 x.f.sm.k) ∧ W.cell? ⟨wr.heap.size, 5, none⟩ = some (.string x.f.la.u) ∧ W.cell? ⟨wr.heap.size, 6, none⟩ = some (.int .u64 x.f.la.s) ∧ W.cell? ⟨wr.heap.size, 7, none⟩ = some (.int .i64 x.f.la.k))
              (first
                | with_reducible exact HSf.out HK10.out
                | with_reducible exact HSf.out HK9.out
                | with_reducible exact HSf.out Hb0.out)
              (first
                | (have q := HK9
                   clear q
                   go_at_call 38
                   have t := rkey_any (k := x.f.la) HK9.out.own HK9.out.lt x0.la x1.ls.1 HLm.out.2
                   refine t.mono ?_
                   clear t
                   rintro en w10 ⟨v10, rfl, A10⟩
                   have HK10 : Hid (Ef wr.heap.size 50 x.f.c w w10 P e v10 _) := HK9.out.app A10
                   clear A10)
                | (go_at_call 38
                   have t := rkey_any (k := x.f.sm) Hb0.out.own Hb0.out.lt x0.sm x1.ss.1 (Nat.le_trans HLm.out.1 (by omega))
                   refine t.mono ?_
                   clear t
                   rintro en w9 ⟨v9, rfl, A9⟩
                   have HK9 : Hid (Ef wr.heap.size 50 x.f.c w w9 P e v9 _) := Hb0.out.app A9
                   clear A9))
            go_wp2
            go_roundw
            case rel => exact ⟨j + 1, by omega, by go_num, by show Es _ _ _ _ _ _; rw [← HS.out]; exact HK10.out.es⟩
            case measure => simp [intOf]; omega
        · obtain rfl : j = N2 := by omega
          have hz : ¬ ((j : Int) < j) := by omega
          have HF : Hid (Es w wr P e u5 (encB e)) := by
            have := HA.out
            rw [List.take_of_length_le (by rw [hN2.out]; exact Nat.le_refl _)] at this
            exact this
          clear HA
          go_wp2
          go_ret2
          exact ⟨u5, by rw [HZ.out]; rfl, by rw [HE.out]; exact HF.out.own.mono (by omega), HF.out.b⟩
end Go.Proofs.Ytkmpcheamdadcaa
