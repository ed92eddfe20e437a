/-
  Overlaps: a level's tables over a range.
-/
import Derived.Test.YtkmpcheamdadcaaXd
namespace Go.Proofs.Ytkmpcheamdadcaa
open Go.RowKit
set_option linter.unusedVariables false
set_option linter.unusedSimpArgs false
theorem own_all {w : World} {base g n : Nat} {xs : List Value} (h : w.ownsRow base 4 1 (.slice (some ⟨g, 0, none⟩) n n) n xs) : Blk w g 4 xs := by
  rcases h.2 with ⟨e, _⟩ | ⟨g', cap, cur, e, _, hg, _, _, hs, ht⟩
  · cases e
  · cases e
    have : cur.toList = xs := by rw [← ht, List.take_of_length_le (by simp [hs])]
    subst this
    unfold Blk
    simpa using hg
set_option maxRecDepth 100000 in
set_option maxHeartbeats 1000000 in
theorem overlaps_no {w : World} {V : Vn} {L : Nat → List Fi} (how lv : Int) (b en : ByteArray) (h : (isLvB lv && isHowB how) = false) : Calls Try.prog 30 #[.int .i64 how, .agg (verA V L), .int .i64 lv, .string b, .string en] w fun e w' => e = .returned (.tuple #[.slice none 0 0, .int .i64 1]) ∧ Below w.heap.size w w' := by
  have HL := fun w => islv_any lv w
  have HH := fun w => ishow_any how w
  cases h1 : isLvB lv
  · rw [h1] at HL
    clear h h1
    go_enter Try.func30, Try.ntmps30
    go_wp2_with (go_at_call 64; refine (HL _).mono ?_; rintro e w' ⟨rfl, rfl⟩)
    go_ret2
    exact ⟨rfl, al1 _ _⟩
  · rw [h1, Bool.true_and] at h
    rw [h1] at HL
    rw [h] at HH
    clear h h1
    go_enter Try.func30, Try.ntmps30
    go_wp2_with (first
      | (go_at_call 64; refine (HL _).mono ?_; rintro e w' ⟨rfl, rfl⟩)
      | (go_at_call 53; refine (HH _).mono ?_; rintro e w' ⟨rfl, rfl⟩))
    go_ret2
    exact ⟨rfl, al1 _ _⟩
set_option maxRecDepth 100000 in
set_option maxHeartbeats 2000000 in
theorem overlaps_yes {w : World} {V : Vn} {L : Nat → List Fi} (h : RdV w V L) (lv : Nat) (hlv : lv < 7) (how : Int) (b en : ByteArray) (hh : isHowB how = true) : Calls Try.prog 30 #[.int .i64 how, .agg (verA V L), .int .i64 lv, .string b, .string en] w (OvPost w how lv (L lv) b en) := by
  have HL := fun w => islv_any (lv : Int) w
  have HW := fun w => ishow_any how w
  rw [show isLvB (lv : Int) = true by simp [isLvB]; omega] at HL
  rw [hh] at HW
  have hbx := ver_box (heap_alloc_new w (.cells (verA V L) 41)) lv hlv
  have hl := h.len lv hlv
  have HR : Hid (RdF w (V.a lv) (L lv)) := h.rd lv hlv
  have HV : Hid (RdV w V L) := h
  have hlz : (lv : Int) < 7 := by omega
  unfold vsl at hbx
  generalize V.a lv = a at *
  generalize V.c lv = cap at *
  generalize L lv = l at *
  obtain ⟨N, hN⟩ : ∃ N, Hid (l.length = N) := ⟨_, rfl⟩
  obtain ⟨S, hS⟩ : ∃ S, Hid (seeds how l b en = S) := ⟨_, rfl⟩
  have HSl : Hid (S.length = N) := by show _ = _; rw [← hS.out, ← hN.out]; simp [seeds]
  rw [hN.out] at hl hbx
  obtain ⟨T, hT⟩ : ∃ T, Hid (ovT how lv l b en = T) := ⟨_, rfl⟩
  have HTl : Hid (T.length = N) := by
    show _ = _
    rw [← hT.out]; unfold ovT
    split
    · have := (sprT_least how l (seeds how l b en) (by simp [seeds])).len
      unfold sprT
      rw [this, ← hN.out]; simp [seeds]
    · rw [hS.out, HSl.out]
  obtain ⟨i4, hi4, hz40, hz41, hz42⟩ := info_parts info4
  have hb42 : i4.bytes * N ≤ 281474976710656 := by rw [hz42]; omega
  have hmN : N ≤ maxLen := by unfold maxLen; omega
  have h0s : 0 ≤ w.heap.size := Nat.zero_le _
  clear h hh
  go_enter Try.func30, Try.ntmps30
  go_wp2_with (first
    | (go_at_call 64; refine (HL _).mono ?_; rintro e w' ⟨rfl, rfl⟩)
    | (go_at_call 53; refine (HW _).mono ?_; rintro e w' ⟨rfl, rfl⟩)
    | (at_make; refine wpList_make_full _ rfl _ _ 107 rfl w.heap.size 4 i4 (.bool false) 1 Try.underlying107 hi4 hz40 hz41 _ _ _ _ N rfl rfl rfl rfl hb42 hmN (by simp) ?_; intro w1 hown1 hgrow1))
  have HM0 : Hid (Mk w (w.heap.size + 1) S 0 w1) := by
    refine ⟨?_, (((Upd.refl Non w).alloc _).grown hgrow1 (fun k e => by cases e)).below (n := w.heap.size) (fun k h => h) (fun k h => h.elim)⟩
    have := own_all hown1
    rw [World.size_alloc, made_bls N S HSl.out] at this
    exact this
  clear hown1 hgrow1 hbx HL HW
  obtain ⟨TB, hTB⟩ : ∃ TB, Hid (w.heap.size + 1 = TB) := ⟨_, rfl⟩
  have HTB : Hid (w.heap.size ≤ TB) := by show _ ≤ _; rw [← hTB.out]; omega
  have HM1 : Hid (Mk w TB S 0 w1) := by rw [← hTB.out]; exact HM0.out
  clear HM0
  go_loopw [36] (fun i wr => ∃ k : Nat, k ≤ N ∧ i = .int .i64 k ∧ Hid (Mk w TB S k wr)) (fun i _ => ((N : Int) - intOf i).toNat)
  case atStart => exact ⟨0, Nat.zero_le _, rfl, HM1⟩
  case round =>
    clear HM1
    obtain ⟨k, hk, rfl, HM⟩ := hrel
    rcases Nat.lt_or_ge k N with hkN | hkN
    · have hkz : (k : Int) < (N : Int) := by omega
      obtain ⟨f, hf⟩ : ∃ f, l[k]? = some f := ⟨_, List.getElem?_eq_getElem (by rw [hN.out]; exact hkN)⟩
      obtain ⟨ga, oa, e', hat⟩ := (HR.out.below HM.out.bel).at_ hf
      subst e'
      obtain ⟨t0, t1, t2, t3, t4, t5, t6, t7, t8, t9⟩ := hat.f
      have HB : Hid (S[k]? = some (rchB how f b en)) := by
        show _ = _
        rw [← hS.out]; unfold seeds; rw [List.getElem?_map, hf]; rfl
      have HRe := fun w => reaches_any how f b en w
      have HM' : Hid (Mk w TB S (k + 1) (((wr.alloc f.o).alloc f.o).setCell ⟨TB, k, none⟩ (.bool (rchB how f b en)))) := ((HM.out.alloc f.o).alloc f.o).set HTB.out HB.out
      obtain ⟨b0, hb0⟩ : ∃ b0, (fst S k)[k]? = some b0 := ⟨_, List.getElem?_eq_getElem (by rw [fst_len, HSl.out]; exact hkN)⟩
      have B2 := (HM.out.told.alloc f.o).alloc f.o
      have ct := B2.cell1 k _ (bls_get hb0)
      have ctf := B2.frozen k
      have ctl := HM.out.told.lt
      rw [← hTB.out] at ct ctf ctl HM'
      clear HM HB hf hat hb0 B2
      generalize rchB how f b en = bb at *
      go_wp2_with (go_at_call 67; refine (HRe _).mono ?_; rintro e w2 ⟨rfl, rfl⟩)
      go_roundw
      case rel => exact ⟨k + 1, by omega, by go_num, by rw [← hTB.out]; exact HM'.out⟩
      case measure => simp [intOf]; omega
    · obtain rfl : N = k := by omega
      have hz : ¬ ((N : Int) < N) := by omega
      have HM2 : Hid (Mk w TB S N wr) := HM
      clear HM
      have hTd : Blk wr TB 4 (bls S) := by
        have := HM2.out.told
        rwa [show N = S.length from HSl.out.symm, fst_all] at this
      have hNe : l = [] ∨ ∀ g o, a = some ⟨g, o, none⟩ → g ≠ TB := by
        rcases HR.out with e | ⟨g, o, e, hc⟩
        · exact .inl e
        · by_cases hl0 : l = []
          · exact .inl hl0
          · right
            intro g' o' e'
            rw [e] at e'
            cases e'
            have hx : l[0]? = some (l[0]'(List.length_pos_iff.2 hl0)) := List.getElem?_eq_getElem _
            have := cell_lt (hc 0 _ hx 0 _ rfl)
            have := HTB.out
            simp only at *
            omega
      by_cases h0 : lv = 0
      · subst h0
        have hSp := spread_any (cap := cap) (HR.out.below HM2.out.bel) (by rw [hN.out]; exact hl) hTd (by rw [HSl.out, hN.out]) hNe how
        rw [hN.out, ← hTB.out] at hSp
        have hTT : Hid (T = sprT how l S) := by
          show _ = _
          rw [← hT.out, ← hS.out]; unfold ovT; rw [if_pos rfl]
        have HPf : Hid (∀ W, Blk W TB 4 (bls (sprT how l S)) → Upd (fun b => b = TB) wr W → Pk w TB l T 0 W (.slice none 0 0)) := fun W h1 h2 => by
          rw [← hTT.out] at h1
          exact ⟨h1, Upd.bel HM2.out.bel h2 (fun x hx => by subst hx; exact HTB.out) HM2.out.bel.size, World.ownsRow_nil W _ _ _⟩
        clear HM2 hTd hNe
        go_wp2_with (go_at_call 68; refine hSp.mono ?_; rintro e w2 ⟨rfl, hb2, hu2⟩; rw [hTB.out] at hb2 hu2; have HP0 : Hid (Pk w TB l T 0 w2 (.slice none 0 0)) := HPf.out w2 hb2 hu2; clear hb2 hu2 HPf hSp)
        go_wp2_with fail
        go_loopw [16, 58] (fun v i wr => ∃ k : Nat, k ≤ N ∧ i = .int .i64 k ∧ Hid (Pk w TB l T k wr v)) (fun _ i _ => ((N : Int) - intOf i).toNat)
        case atStart => exact ⟨0, Nat.zero_le _, rfl, HP0⟩
        case round =>
          clear HP0
          obtain ⟨k, hk, rfl, HP⟩ := hrel
          rcases Nat.lt_or_ge k N with hkN | hkN
          · have hkz : (k : Int) < (N : Int) := by omega
            obtain ⟨f, hf⟩ : ∃ f, l[k]? = some f := ⟨_, List.getElem?_eq_getElem (by rw [hN.out]; exact hkN)⟩
            obtain ⟨bb, hbb⟩ : ∃ bb, T[k]? = some bb := ⟨_, List.getElem?_eq_getElem (by rw [HTl.out]; exact hkN)⟩
            have hD : Hid (T.getD k false = bb) := by show _ = bb; rw [List.getD_eq_getElem?_getD, hbb]; rfl
            have ct := (HP.out.told.alloc f.o).cell1 k _ (bls_get hbb)
            have ctl := HP.out.told.lt
            rw [← hTB.out] at ct ctl
            obtain ⟨ga, oa, e', hat⟩ := (HR.out.below HP.out.bel).at_ hf
            subst e'
            obtain ⟨t0, t1, t2, t3, t4, t5, t6, t7, t8, t9⟩ := hat.f
            have HF : Hid (l[k]? = some f) := hf
            clear hf hbb hat
            cases bb
            · have HP' : Hid (Pk w TB l T (k + 1) (wr.alloc f.o) u16) := (HP.out.alloc f.o).skip hD.out
              clear HP hD
              go_wp2_with fail
              go_roundw
              case rel => exact ⟨k + 1, by omega, by go_num, HP'⟩
              case measure => simp [intOf]; omega
            · have HPa := (HP.out.alloc f.o).alloc (.cells f.c.toArray 50)
              have hpl := pick_len l T k
              have hbk := Blk.new (wr.alloc f.o) 50 f.c
              rw [World.size_alloc] at hbk
              have hbw := HPa.bel.size
              obtain ⟨v', w', hr', hq', hu', ho', hn'⟩ := push_g (P := Try.prog) fi_k fi_1 Try.underlying38 info50 rfl (by decide) HPa.row hbw hbk 38 (by omega) (by unfold maxLen; omega)
              have HP' : Hid (Pk w TB l T (k + 1) w' v') := HPa.push hD.out HF.out hq' hu'
              clear HP hD HPa hpl hbk hbw hq' hu' ho' hn'
              go_wp2_with (at_builtin; refine Lib.wpList_append_run _ rfl _ _ _ _ rfl _ _ rfl rfl _ _ hr' ?_)
              go_roundw
              case rel => exact ⟨k + 1, by omega, by go_num, HP'⟩
              case measure => simp [intOf]; omega
          · obtain rfl : k = N := by omega
            have hz : ¬ ((k : Int) < k) := by omega
            go_wp2_with fail
            go_ret2
            refine ⟨_, rfl, HP.out.bel, ?_⟩
            have := HP.out.row
            rw [hT.out, hN.out]
            exact this
      · have hz0 : ((lv : Int) == 0) = false := by simp [h0]
        have hz00 : ¬ ((lv : Int) = 0) := by omega
        have hTT : Hid (T = S) := by
          show _ = _
          rw [← hT.out, ← hS.out]; unfold ovT; rw [if_neg h0]
        have HP0 : Hid (Pk w TB l T 0 wr (.slice none 0 0)) := ⟨by rw [hTT.out]; exact hTd, HM2.out.bel, World.ownsRow_nil wr _ _ _⟩
        clear HM2 hTd hNe h0
        go_wp2_with fail
        go_loopw [16, 58] (fun v i wr => ∃ k : Nat, k ≤ N ∧ i = .int .i64 k ∧ Hid (Pk w TB l T k wr v)) (fun _ i _ => ((N : Int) - intOf i).toNat)
        case atStart => exact ⟨0, Nat.zero_le _, rfl, HP0⟩
        case round =>
          clear HP0
          obtain ⟨k, hk, rfl, HP⟩ := hrel
          rcases Nat.lt_or_ge k N with hkN | hkN
          · have hkz : (k : Int) < (N : Int) := by omega
            obtain ⟨f, hf⟩ : ∃ f, l[k]? = some f := ⟨_, List.getElem?_eq_getElem (by rw [hN.out]; exact hkN)⟩
            obtain ⟨bb, hbb⟩ : ∃ bb, T[k]? = some bb := ⟨_, List.getElem?_eq_getElem (by rw [HTl.out]; exact hkN)⟩
            have hD : Hid (T.getD k false = bb) := by show _ = bb; rw [List.getD_eq_getElem?_getD, hbb]; rfl
            have ct := (HP.out.told.alloc f.o).cell1 k _ (bls_get hbb)
            have ctl := HP.out.told.lt
            rw [← hTB.out] at ct ctl
            obtain ⟨ga, oa, e', hat⟩ := (HR.out.below HP.out.bel).at_ hf
            subst e'
            obtain ⟨t0, t1, t2, t3, t4, t5, t6, t7, t8, t9⟩ := hat.f
            have HF : Hid (l[k]? = some f) := hf
            clear hf hbb hat
            cases bb
            · have HP' : Hid (Pk w TB l T (k + 1) (wr.alloc f.o) u16) := (HP.out.alloc f.o).skip hD.out
              clear HP hD
              go_wp2_with fail
              go_roundw
              case rel => exact ⟨k + 1, by omega, by go_num, HP'⟩
              case measure => simp [intOf]; omega
            · have HPa := (HP.out.alloc f.o).alloc (.cells f.c.toArray 50)
              have hpl := pick_len l T k
              have hbk := Blk.new (wr.alloc f.o) 50 f.c
              rw [World.size_alloc] at hbk
              have hbw := HPa.bel.size
              obtain ⟨v', w', hr', hq', hu', ho', hn'⟩ := push_g (P := Try.prog) fi_k fi_1 Try.underlying38 info50 rfl (by decide) HPa.row hbw hbk 38 (by omega) (by unfold maxLen; omega)
              have HP' : Hid (Pk w TB l T (k + 1) w' v') := HPa.push hD.out HF.out hq' hu'
              clear HP hD HPa hpl hbk hbw hq' hu' ho' hn'
              go_wp2_with (at_builtin; refine Lib.wpList_append_run _ rfl _ _ _ _ rfl _ _ rfl rfl _ _ hr' ?_)
              go_roundw
              case rel => exact ⟨k + 1, by omega, by go_num, HP'⟩
              case measure => simp [intOf]; omega
          · obtain rfl : k = N := by omega
            have hz : ¬ ((k : Int) < k) := by omega
            go_wp2_with fail
            go_ret2
            refine ⟨_, rfl, HP.out.bel, ?_⟩
            have := HP.out.row
            rw [hT.out, hN.out]
            exact this
end Go.Proofs.Ytkmpcheamdadcaa
