/-
  Build: the walk.
-/
import Derived.Test.YtbmljdeenbokmaaDm
namespace Go.Proofs.Ytbmljdeenbokmaa
open Go.RowKit Go.Shelf
set_option linter.unusedVariables false
set_option linter.unusedSimpArgs false
attribute [local go_sem] Oper.semAt_some

set_option maxRecDepth 100000 in
set_option maxHeartbeats 2000000 in
theorem build_yes (a : Option Addr) (cap : Nat) (ks : List ByteArray) (bt : Int) (w : World) (hS : Strs w a ks)
    (hl : ks.length ≤ 1048576) (hb1 : 1 ≤ bt) (hb2 : bt ≤ 64) (N : Nat) (hN : fsz (bt.toNat * ks.length) = N) :
    CallsIn Fence.wide 7 Try.prog 7 #[.slice a ks.length cap, .int .i64 bt] w fun e w' => e = .returned (.tuple #[.slice (some ⟨w.heap.size, 0, none⟩) (N + 1) (N + 1), .int .i64 0]) ∧ Row w' w.heap.size (bldF (ini N (npr bt)) N (npr bt).toNat ks) ∧ Below w.heap.size w w' := by
  have h9 : Fence.wide.fn 9 := trivial
  have HS : Hid (Strs w a ks) := hS
  clear hS
  have h22 : Fence.wide.fn 22 := trivial
  have h23 : Fence.wide.fn 23 := trivial
  have hnb : bt.toNat * ks.length ≤ 64 * 1048576 := Nat.mul_le_mul (by omega) hl
  have hNb := fsz_bd _ hnb
  rw [hN] at hNb
  obtain ⟨hN8, hN9⟩ := hNb
  have HNE : Hid (fsz (bt.toNat * ks.length) = N) := hN
  have HNB : Hid (bt.toNat * ks.length ≤ 64 * 1048576) := hnb
  have hmul : bt * (ks.length : Int) = ((bt.toNat * ks.length : Nat) : Int) := by
    rw [Int.natCast_mul, Int.toNat_of_nonneg (by omega)]
  have HMU : Hid (bt * (ks.length : Int) = ((bt.toNat * ks.length : Nat) : Int)) := hmul
  have hm1 : 0 ≤ bt * (ks.length : Int) := by rw [hmul]; omega
  have hm2 : bt * (ks.length : Int) ≤ 67108864 := by rw [hmul]; omega
  have HCB : Hid (∀ W, Calls Try.prog 22 #[.int .i64 (bt * (ks.length : Int))] W fun e w' => e = .returned (.int .i64 N) ∧ w' = W) := fun W => by
    rw [hmul, ← hN]; exact bytesFor_any _ W hnb
  have hmk := run_mkB N (by omega)
  have hnp := npr_bd bt
  obtain ⟨x, hx⟩ : ∃ x, npr bt = x := ⟨_, rfl⟩
  rw [hx] at hnp ⊢
  obtain ⟨hx0, hx1⟩ := hnp
  have HCP : Hid (∀ W, Calls Try.prog 9 #[.int .i64 bt] W fun e w' => e = .returned (.tuple #[.int .i64 x, .int .i64 0]) ∧ w' = W) := fun W => by rw [← hx]; exact probes_yes bt W hb1 hb2
  have hzg := zer_get (N + 1) N (by omega)
  clear hnb hmul hN hx
  refine callsIn_of_wp_marks Try.func7 rfl trivial ?_ rfl
  simp only [Try.ntmps7, List.size_toArray, List.length_cons, List.length_nil, Nat.reduceAdd, Nat.reduceSub, Array.replicate_succ, Array.replicate_zero, List.push_toArray, List.append_toArray, List.nil_append, List.cons_append]
  gi_wp2_with (first
    | (gi_at_call 9; refine (callsIn_wide.2 (HCP.out _)).mono ?_; rintro e w' ⟨rfl, hw⟩; have hw1 := hw.symm; subst hw1; clear hw)
    | (gi_at_call 22; refine (callsIn_wide.2 (HCB.out _)).mono ?_; rintro e w' ⟨rfl, hw⟩; have hw1 := hw.symm; subst hw1; clear hw))
  have hs0 : St w N (bldF (ini N x) N x.toNat (ks.take 0)) [] ((w.alloc (Obj.cells ((zer (N + 1)).setIfInBounds N (Value.int IntKind.u8 x)) 5)).alloc (Obj.cells #[Value.slice (some ⟨w.heap.size, 0, none⟩) (N + 1) (N + 1)] 23)) := by
    refine ⟨?_, ?_, ((Below.refl _ w).alloc (Nat.le_refl _) _).alloc (by simp) _, by simp, by simp⟩
    · show _ = _
      rw [Below.heap_alloc _ _ _ (by simp), zer_ini]; simpa [bldF] using heap_alloc_new w _
    · have := heap_alloc_new (w.alloc (Obj.cells ((zer (N + 1)).setIfInBounds N (Value.int IntKind.u8 x)) 5)) (Obj.cells #[Value.slice (some ⟨w.heap.size, 0, none⟩) (N + 1) (N + 1)] 23)
      rwa [World.size_alloc] at this
  clear hmk hzg
  refine wpIn_loop (fun a' W => ∃ (k : Nat) (Ds : List Nat) (u10 u39 u40 u41 u42 u43 u44 u45 u56 : Value), (k ≤ ks.length ∧ Ds.Nodup ∧ St w N (bldF (ini N x) N x.toNat (ks.take k)) Ds W ∧ u39 = .int .i64 k) ∧ a' = Act.mk
      #[Value.slice a ks.length cap, Value.int IntKind.i64 bt, undef, undef,
        Value.slice none 0 0, Value.int IntKind.i64 0, Value.int IntKind.i64 x, Value.int IntKind.i64 0,
        Value.pointer (some { block := w.heap.size + 1, off := 0 }), undef, u10, undef,
        Value.tuple #[Value.int IntKind.i64 x, Value.int IntKind.i64 0], Value.int IntKind.i64 bt,
        Value.tuple #[Value.int IntKind.i64 x, Value.int IntKind.i64 0], Value.int IntKind.i64 x,
        Value.int IntKind.i64 0, Value.int IntKind.i64 0, Value.bool false, undef,
        Value.slice a ks.length cap, Value.int IntKind.i64 ks.length,
        Value.bool (decide (1048576 < (ks.length : Int))), Value.int IntKind.i64 bt,
        Value.slice a ks.length cap, Value.int IntKind.i64 ks.length,
        Value.int IntKind.i64 (bt * ks.length), Value.int IntKind.i64 N, Value.int IntKind.i64 (N + 1),
        Value.slice (some { block := w.heap.size, off := 0 }) (N + 1) (N + 1),
        Value.slice (some { block := w.heap.size, off := 0 }) (N + 1) (N + 1),
        Value.slice (some { block := w.heap.size, off := 0 }) (N + 1) (N + 1), Value.int IntKind.i64 (N + 1),
        Value.int IntKind.i64 N, Value.int IntKind.i64 x, Value.int IntKind.u8 x,
        Value.pointer (some { block := w.heap.size, off := N }),
        Value.slice a ks.length cap, Value.int IntKind.i64 ks.length,
        u39, u40, u41, u42, u43, u44, u45, undef, undef, undef, undef, undef, undef, undef, undef, undef, undef, u56, undef] (Ds.map mrk))
    (fun a' _ => (ks.length - intOf (a'.tmps.getD 39 undef)).toNat) ?_ ?_
  · exact ⟨0, [], _, _, _, _, _, _, _, _, _, ⟨Nat.zero_le _, List.nodup_nil, hs0, rfl⟩, rfl⟩
  · rintro _ W ⟨k, Ds, u10, u39, u40, u41, u42, u43, u44, u45, u56, ⟨hk1, hnd, hst, rfl⟩, rfl⟩
    clear hs0
    by_cases hlk : k < ks.length
    · obtain ⟨hk, hS⟩ := HS.out
      obtain ⟨b, off, rfl, hlt, hc⟩ : ∃ b off, a = some ⟨b, off, none⟩ ∧ b < w.heap.size ∧ ∀ j, (h : j < ks.length) → w.cell? ⟨b, off + j, none⟩ = some (.string ks[j]) := by
        rcases hS with rfl | hS
        · simp at hlk
        · exact hS
      clear hS
      have hck : W.cell? ⟨b, off + k, none⟩ = some (.string ks[k]) := (hst.below.cell (p := ⟨b, off + k, none⟩) hlt).trans (hc k hlk)
      have hbx := hst.boxCell
      have hks := hk ks[k] (List.getElem_mem hlk)
      gi_wp2_with (gi_at_call 23; refine (probes_in Fence.wide 6 trivial trivial rfl _ N _ ks[k] _ hks (by omega) (fun w' => callsIn_wide.2 (hash_any ks[k] w' hks)) (by omega)).mono ?_; rintro e w' ⟨rfl, rfl⟩)
      show Code.wpIn _ _ _ _ _ _ (pbox W (some ⟨w.heap.size, 0, none⟩) N (N + 1) ks[k])
      have hpc := pbox_cells W (some ⟨w.heap.size, 0, none⟩) N (N + 1) ks[k]
      have hpb := pbox_below W (some ⟨w.heap.size, 0, none⟩) N (N + 1) ks[k]
      have hpz := pbox_size W (some ⟨w.heap.size, 0, none⟩) N (N + 1) ks[k]
      have hst0 : St w N (bldF (ini N x) N x.toNat (ks.take k)) Ds (pbox W (some ⟨w.heap.size, 0, none⟩) N (N + 1) ks[k]) := (((hst.alloc _).alloc _).alloc _).alloc _
      obtain ⟨W0, hW0⟩ : ∃ W0, pbox W (some ⟨w.heap.size, 0, none⟩) N (N + 1) ks[k] = W0 := ⟨_, rfl⟩
      rw [hW0] at hpc hpb hpz hst0 ⊢
      clear hW0
      obtain ⟨f, hf⟩ : ∃ f, bldF (ini N x) N x.toNat (ks.take k) = f := ⟨_, rfl⟩
      have HF : Hid (bldF (ini N x) N x.toNat (ks.take k) = f) := hf
      rw [hf] at hst hst0
      have hfl : f.length = N + 1 := by rw [← hf, bldF_length, ini_length]
      have hfx : f.getD N 0 = x := by rw [← hf]; exact bldF_last N x _ _ (by omega)
      have HFL : Hid (f.length = N + 1) := hfl
      have hfb : Byt f := by rw [← hf]; exact bldF_byt (ini_byt N (by omega) (by omega)) _ _ _
      clear hf
      have hcx : W0.cell? ⟨w.heap.size, 0 + N, none⟩ = some (.int .u8 x) := by
        rw [Nat.zero_add, hst0.row.cell N (by omega), hfx]
      have hsb := hsh_bd ks[k]
      have hwW := hst.below.size
      have hwW0 := hst0.row.lt
      have hwW2 := (Array.getElem?_eq_some_iff.1 hst.box).1
      clear hfl hfx
      refine wpIn_rangeFunc_ownG rfl (by omega) (gf := 27) (lb := #[.pointer (some ⟨W.heap.size + 3, 0, none⟩), .pointer (some ⟨W.heap.size, 0, none⟩), .pointer (some ⟨W.heap.size + 1, 0, none⟩), .pointer (some ⟨W.heap.size + 2, 0, none⟩)]) rfl trivial (enters_of Try.func27 (by kernel_rfl) rfl)
        (probes_stops Fence.wide 6 trivial rfl (by omega) W0 (W.heap.size + 3) W.heap.size (W.heap.size + 1) (W.heap.size + 2) w.heap.size 0 N (N + 1) (hsh ks[k]) x (by omega) hN8 hsb.1 hsb.2 (by omega) hx1 (by omega) (by omega) (by omega) (by omega) (by omega) hpc.2.2.2 hpc.1 hpc.2.1 hpc.2.2.1 hcx)
        Kb.trans (kb_put (by omega)) (Below.refl _ _) (fun _ => rfl)
        (fun (pre : List (Pb ((N : Int) * 8))) W' => St w N (sets f (vals pre)) Ds W')
        (fun _ _ _ => False)
        (fun pre A B row hs hg hr => hs.grown hg (fun r e => by
          obtain ⟨hr1, o, ho, hoc⟩ := hr r e
          refine ⟨by omega, by omega, by omega, fun hD => ?_⟩
          have := (Array.getElem?_eq_some_iff.1 (hst0.marks r hD)).1
          omega))
        (fun _ _ _ _ _ hs _ _ => hs)
        (show St w N (sets f []) Ds W0 from hst0)
        (fun p => Act.mk #[Value.slice (some ⟨b, off, none⟩) ks.length cap, Value.int IntKind.i64 bt, undef, undef,
        Value.slice none 0 0, Value.int IntKind.i64 0, Value.int IntKind.i64 x, Value.int IntKind.i64 0,
        Value.pointer (some ⟨w.heap.size + 1, 0, none⟩), undef, Value.string ks[k], Value.int .u32 p.1,
        Value.tuple #[Value.int IntKind.i64 x, Value.int IntKind.i64 0], Value.int IntKind.i64 bt,
        Value.tuple #[Value.int IntKind.i64 x, Value.int IntKind.i64 0], Value.int IntKind.i64 x,
        Value.int IntKind.i64 0, Value.int IntKind.i64 0, Value.bool false, undef,
        Value.slice (some ⟨b, off, none⟩) ks.length cap, Value.int IntKind.i64 ks.length,
        Value.bool (decide (1048576 < (ks.length : Int))), Value.int IntKind.i64 bt,
        Value.slice (some ⟨b, off, none⟩) ks.length cap, Value.int IntKind.i64 ks.length,
        Value.int IntKind.i64 (bt * ks.length), Value.int IntKind.i64 N, Value.int IntKind.i64 (N + 1),
        Value.slice (some ⟨w.heap.size, 0, none⟩) (N + 1) (N + 1),
        Value.slice (some ⟨w.heap.size, 0, none⟩) (N + 1) (N + 1),
        Value.slice (some ⟨w.heap.size, 0, none⟩) (N + 1) (N + 1), Value.int IntKind.i64 (N + 1),
        Value.int IntKind.i64 N, Value.int IntKind.i64 x, Value.int IntKind.u8 x,
        Value.pointer (some ⟨w.heap.size, N, none⟩),
        Value.slice (some ⟨b, off, none⟩) ks.length cap, Value.int IntKind.i64 ks.length,
        Value.int IntKind.i64 k, Value.bool true, Value.pointer (some ⟨b, off + k, none⟩), Value.string ks[k], Value.slice (some ⟨w.heap.size, 0, none⟩) (N + 1) (N + 1), Value.string ks[k], Value.func (Fn.func 27) #[] #[Value.pointer (some ⟨W.heap.size + 3, 0, none⟩), Value.pointer (some ⟨W.heap.size, 0, none⟩), Value.pointer (some ⟨W.heap.size + 1, 0, none⟩), Value.pointer (some ⟨W.heap.size + 2, 0, none⟩)], Value.int .u32 p.1, undef, undef, undef, undef, undef, undef, undef, undef, undef, u56, undef] []) ?assign ?body ?done ?stop
      case assign =>
        intro l p W' K hK
        gi_wp2
        exact hK
      case body =>
        rintro lp pre ⟨p, hp0, hp1⟩ W' hs' _
        dsimp only
        obtain ⟨g, hg⟩ : ∃ g, sets f (vals pre) = g := ⟨_, rfl⟩
        rw [hg] at hs'
        have hgl : g.length = N + 1 := by rw [← hg, sets_length]; exact HFL.out
        have hgb : Byt g := by rw [← hg]; exact sets_byt hfb _
        obtain ⟨q, hq⟩ : ∃ q : Nat, p / 8 = q := ⟨(p / 8).toNat, by omega⟩
        have hqN : q < N := by omega
        have hq8 : (p / 8).toNat = q := by omega
        have hwq : IntKind.u32.wrap (p.tdiv 8) = (q : Int) := by
          rw [Int.tdiv_eq_ediv_of_nonneg hp0, IntKind.wrap_u32', hq]; omega
        have hqi : ((q : Int) < (N : Int) + 1) = True := eq_true (by omega)
        obtain ⟨y, hy⟩ : ∃ y, g.getD q 0 = y := ⟨_, rfl⟩
        have hyb := byt_get hgb q
        have hcq0 := hs'.row.cell q (by omega)
        rw [hy] at hcq0 hyb
        obtain ⟨hy0, hy1⟩ := hyb
        have hcq : W'.drew.cell? ⟨w.heap.size, q, none⟩ = some (.int .u8 y) := hcq0
        have hfq : W'.drew.frozen? ⟨w.heap.size, q, none⟩ = false := hs'.row.frozen q
        have hbx' : W'.drew.cell? ⟨w.heap.size + 1, 0, none⟩ = some (.slice (some ⟨w.heap.size, 0, none⟩) (N + 1) (N + 1)) := hs'.boxCell
        have HG : Hid (sets f (vals (pre ++ [⟨p, hp0, hp1⟩])) = g.set q (bits .or .u8 y (mk p))) := by
          show _ = _
          rw [vals_snoc, sets_snoc, hg]
          unfold setb; rw [hq8, hy]
        have HM : Hid (∀ W, CallsIn Fence.wide 4 Try.prog 24 #[.int .u32 p] W fun e w' => e = .returned (.int .u8 (mk p)) ∧ w' = W) := fun W => callsIn_wide.2 (mark_any p W hp0 (by omega))
        have h24 : Fence.wide.fn 24 := trivial
        have HEND : Hid (KeepsFrom W0.heap.size W' (W'.setCell ⟨w.heap.size, q, none⟩ (.int .u8 (bits .or .u8 y (mk p)))).drew ∧ Kb (W.heap.size + 2) W' (W'.setCell ⟨w.heap.size, q, none⟩ (.int .u8 (bits .or .u8 y (mk p)))).drew ∧ St w N (sets f (vals (pre ++ [⟨p, hp0, hp1⟩]))) Ds (W'.setCell ⟨w.heap.size, q, none⟩ (.int .u8 (bits .or .u8 y (mk p)))).drew) := by
          refine ⟨?_, ?_, ?_⟩
          · have := (KeepsOthers.setCell W' ⟨w.heap.size, q, none⟩ (.int .u8 (bits .or .u8 y (mk p)))).from W0.heap.size
            exact ⟨this.size, this.same⟩
          · show World.cell? _ _ = _
            exact World.cell?_setCell_other W' ⟨w.heap.size, q, none⟩ ⟨W.heap.size + 2, 0, none⟩ _ (by simp <;> omega)
          · rw [HG.out]; exact (hs'.set q _).heap rfl rfl rfl rfl
        clear hg hgl hgb hq8 hy
        gi_wp2
        refine wpIn_region_any_round rfl (by kernel_rfl) (by kernel_rfl) ?_
        refine wpAnyIn_take (i := 1) (v := ?_) rfl rfl (by kernel_rfl) (by kernel_rfl) (by kernel_rfl) (fun _ _ _ h => h) ⟨Or.inl ⟨by rfl, ?_⟩, fun _ => rfl⟩ ?_
        rotate_left
        · intro w; go_simp; (try with_reducible rfl)
        (try simp only [Act.put, List.setIfInBounds_toArray, List.set_cons_zero, List.set_cons_succ])
        refine wpAnyIn_take (i := 2) (v := ?_) rfl rfl (by kernel_rfl) (by kernel_rfl) (by kernel_rfl) (fun _ _ _ h => h) ⟨Or.inl ⟨by rfl, ?_⟩, fun _ => rfl⟩ ?_
        rotate_left
        · intro w; go_simp; (try with_reducible rfl)
        (try simp only [Act.put, List.setIfInBounds_toArray, List.set_cons_zero, List.set_cons_succ])
        refine wpAnyIn_take (i := 5) (v := ?_) rfl rfl (by kernel_rfl) (by kernel_rfl) (by kernel_rfl) (fun _ _ _ h => h) ⟨Or.inl ⟨by rfl, ?_⟩, fun _ => rfl⟩ ?_
        rotate_left
        · intro w; go_simp; (try with_reducible rfl)
        (try simp only [Act.put, List.setIfInBounds_toArray, List.set_cons_zero, List.set_cons_succ])
        refine wpAnyIn_ready (rs := [0, 6]) (by kernel_rfl) (by simp) ?_
        refine AllReadyIn.cons rfl (fun K hK => ?_) ?_
        · go_simp; refine hK _ _ ?_; clear hK K
          refine wpAnyIn_take (i := 3) (v := ?_) rfl rfl (by kernel_rfl) (by kernel_rfl) (by kernel_rfl) (fun _ _ _ h => h) ⟨Or.inl ⟨by rfl, ?_⟩, fun _ => rfl⟩ ?_
          rotate_left
          · intro w; go_simp; (try with_reducible rfl)
          (try simp only [Act.put, List.setIfInBounds_toArray, List.set_cons_zero, List.set_cons_succ])
          refine wpAnyIn_ready (rs := [4, 6]) (by kernel_rfl) (by simp) ?_
          refine AllReadyIn.cons rfl (fun K hK => ?_) ?_
          · go_simp; refine hK _ _ ?_; clear hK K
            refine wpAnyIn_ready (rs := [6]) (by kernel_rfl) (by simp) ?_
            refine AllReadyIn.cons rfl (fun K hK => ?_) ?_
            · go_simp; gi_wp2_with (gi_at_call 24; refine (HM.out _).mono ?_; rintro e w1 ⟨rfl, hw⟩; have hw1 := hw.symm; subst hw1; clear hw)
              refine wpAnyIn_take (i := 7) (v := ?_) rfl rfl (by kernel_rfl) (by kernel_rfl) (by kernel_rfl) (fun _ _ _ h => h) ⟨Or.inl ⟨by rfl, ?_⟩, fun _ => rfl⟩ ?_
              rotate_left
              · intro w; go_simp; (try with_reducible rfl)
              (try simp only [Act.put, List.setIfInBounds_toArray, List.set_cons_zero, List.set_cons_succ])
              refine wpAnyIn_take (i := 8) (v := ?_) rfl rfl (by kernel_rfl) (by kernel_rfl) (by kernel_rfl) (fun _ _ _ h => h) ⟨Or.inl ⟨by rfl, ?_⟩, fun _ => rfl⟩ ?_
              rotate_left
              · intro w; go_simp; (try with_reducible rfl)
              (try simp only [Act.put, List.setIfInBounds_toArray, List.set_cons_zero, List.set_cons_succ])
              refine wpAnyIn_ready (rs := [9]) (by kernel_rfl) (by simp) ?_
              refine AllReadyIn.cons rfl (fun K hK => ?_) ?_
              · go_simp; refine hK _ _ ?_; clear hK K
                refine wpAnyIn_done (by kernel_rfl) ?_ _
                exact HEND.out
              exact AllReadyIn.nil
            exact AllReadyIn.nil
          refine AllReadyIn.cons rfl (fun K hK => ?_) ?_
          · go_simp; gi_wp2_with (gi_at_call 24; refine (HM.out _).mono ?_; rintro e w1 ⟨rfl, hw⟩; have hw1 := hw.symm; subst hw1; clear hw)
            refine wpAnyIn_ready (rs := [4]) (by kernel_rfl) (by simp) ?_
            refine AllReadyIn.cons rfl (fun K hK => ?_) ?_
            · go_simp; refine hK _ _ ?_; clear hK K
              refine wpAnyIn_take (i := 7) (v := ?_) rfl rfl (by kernel_rfl) (by kernel_rfl) (by kernel_rfl) (fun _ _ _ h => h) ⟨Or.inl ⟨by rfl, ?_⟩, fun _ => rfl⟩ ?_
              rotate_left
              · intro w; go_simp; (try with_reducible rfl)
              (try simp only [Act.put, List.setIfInBounds_toArray, List.set_cons_zero, List.set_cons_succ])
              refine wpAnyIn_take (i := 8) (v := ?_) rfl rfl (by kernel_rfl) (by kernel_rfl) (by kernel_rfl) (fun _ _ _ h => h) ⟨Or.inl ⟨by rfl, ?_⟩, fun _ => rfl⟩ ?_
              rotate_left
              · intro w; go_simp; (try with_reducible rfl)
              (try simp only [Act.put, List.setIfInBounds_toArray, List.set_cons_zero, List.set_cons_succ])
              refine wpAnyIn_ready (rs := [9]) (by kernel_rfl) (by simp) ?_
              refine AllReadyIn.cons rfl (fun K hK => ?_) ?_
              · go_simp; refine hK _ _ ?_; clear hK K
                refine wpAnyIn_done (by kernel_rfl) ?_ _
                exact HEND.out
              exact AllReadyIn.nil
            exact AllReadyIn.nil
          exact AllReadyIn.nil
        refine AllReadyIn.cons rfl (fun K hK => ?_) ?_
        · go_simp; gi_wp2_with (gi_at_call 24; refine (HM.out _).mono ?_; rintro e w1 ⟨rfl, hw⟩; have hw1 := hw.symm; subst hw1; clear hw)
          refine wpAnyIn_ready (rs := [0]) (by kernel_rfl) (by simp) ?_
          refine AllReadyIn.cons rfl (fun K hK => ?_) ?_
          · go_simp; refine hK _ _ ?_; clear hK K
            refine wpAnyIn_take (i := 3) (v := ?_) rfl rfl (by kernel_rfl) (by kernel_rfl) (by kernel_rfl) (fun _ _ _ h => h) ⟨Or.inl ⟨by rfl, ?_⟩, fun _ => rfl⟩ ?_
            rotate_left
            · intro w; go_simp; (try with_reducible rfl)
            (try simp only [Act.put, List.setIfInBounds_toArray, List.set_cons_zero, List.set_cons_succ])
            refine wpAnyIn_ready (rs := [4]) (by kernel_rfl) (by simp) ?_
            refine AllReadyIn.cons rfl (fun K hK => ?_) ?_
            · go_simp; refine hK _ _ ?_; clear hK K
              refine wpAnyIn_take (i := 7) (v := ?_) rfl rfl (by kernel_rfl) (by kernel_rfl) (by kernel_rfl) (fun _ _ _ h => h) ⟨Or.inl ⟨by rfl, ?_⟩, fun _ => rfl⟩ ?_
              rotate_left
              · intro w; go_simp; (try with_reducible rfl)
              (try simp only [Act.put, List.setIfInBounds_toArray, List.set_cons_zero, List.set_cons_succ])
              refine wpAnyIn_take (i := 8) (v := ?_) rfl rfl (by kernel_rfl) (by kernel_rfl) (by kernel_rfl) (fun _ _ _ h => h) ⟨Or.inl ⟨by rfl, ?_⟩, fun _ => rfl⟩ ?_
              rotate_left
              · intro w; go_simp; (try with_reducible rfl)
              (try simp only [Act.put, List.setIfInBounds_toArray, List.set_cons_zero, List.set_cons_succ])
              refine wpAnyIn_ready (rs := [9]) (by kernel_rfl) (by simp) ?_
              refine AllReadyIn.cons rfl (fun K hK => ?_) ?_
              · go_simp; refine hK _ _ ?_; clear hK K
                refine wpAnyIn_done (by kernel_rfl) ?_ _
                exact HEND.out
              exact AllReadyIn.nil
            exact AllReadyIn.nil
          exact AllReadyIn.nil
        exact AllReadyIn.nil
      case done =>
        rintro D ys W' hD rfl hs' hK
        rw [vals_prbs] at hs'
        have hnD : D ∉ Ds := fun hh => by
          have := (Array.getElem?_eq_some_iff.1 (hst0.marks D hh)).1
          omega
        have hs2 := hs'.mark hK (by omega)
        have HT : Hid (bldF (ini N x) N x.toNat (ks.take (k + 1)) = sets f (prbs (hsh ks[k]) ((N : Int) * 8) x.toNat)) := by
          show _ = _
          rw [List.take_succ_eq_append_getElem hlk, bldF_snoc, HF.out]
        gi_wp2
        refine ⟨⟨k + 1, D :: Ds, _, _, _, _, _, _, _, _, _, ⟨by omega, List.nodup_cons.2 ⟨hnD, hnd⟩, by rw [HT.out]; exact hs2, ?_⟩, rfl⟩, ?_⟩
        · go_num
        · simp [intOf]; omega
      case stop =>
        rintro D c pre W' _ _ h _
        exact h.elim
    · have HKL : Hid (ks.take k = ks) := List.take_of_length_le (by omega)
      have hbx := hst.boxCell
      gi_wp2
      refine leaves_marks Ds W hnd hst.marks (fun W' h1 h2 h3 h4 h5 => ?_)
      have hr : St w N (bldF (ini N x) N x.toNat ks) [] W' := by
        have := hst.left h1 h2 h3 h4 h5
        rw [HKL.out] at this; exact this
      exact ⟨_, by simp [results, Try.f7, go_sem], rfl, hr.row, hr.below⟩

/-- A filter of keys, whole. -/
def bld (ks : List ByteArray) (bt : Int) : List Int := bldF (ini (fsz (bt.toNat * ks.length)) (npr bt)) (fsz (bt.toNat * ks.length)) (npr bt).toNat ks
theorem bld_length (ks : List ByteArray) (bt : Int) : (bld ks bt).length = fsz (bt.toNat * ks.length) + 1 := by unfold bld; rw [bldF_length, ini_length]
/-- Build, where a filter comes of it. -/
theorem build_ok (a : Option Addr) (cap : Nat) (ks : List ByteArray) (bt : Int) (w : World) (hS : Strs w a ks) (hl : ks.length ≤ 1048576) (hb1 : 1 ≤ bt) (hb2 : bt ≤ 64) :
    Calls Try.prog 7 #[.slice a ks.length cap, .int .i64 bt] w fun e w' => e = .returned (.tuple #[.slice (some ⟨w.heap.size, 0, none⟩) (bld ks bt).length (bld ks bt).length, .int .i64 0]) ∧ Row w' w.heap.size (bld ks bt) ∧ Below w.heap.size w w' := by
  refine (callsIn_wide (n := 7)).1 ?_
  rw [bld_length]
  exact build_yes a cap ks bt w hS hl hb1 hb2 _ rfl
set_option maxRecDepth 100000 in
set_option maxHeartbeats 1000000 in
/-- Too many keys. -/
theorem build_long (a : Option Addr) (len cap : Nat) (bt : Int) (w : World) (hl : 1048576 < len) (hl2 : len ≤ 140737488351232) (hb1 : 1 ≤ bt) (hb2 : bt ≤ 64) :
    Calls Try.prog 7 #[.slice a len cap, .int .i64 bt] w fun e w' => e = .returned (.tuple #[.slice none 0 0, .int .i64 2]) ∧ w' = w := by
  refine (callsIn_wide (n := 7)).1 ?_
  have h9 : Fence.wide.fn 9 := trivial
  obtain ⟨x, hx⟩ : ∃ x, npr bt = x := ⟨_, rfl⟩
  have HCP : Hid (∀ W, Calls Try.prog 9 #[.int .i64 bt] W fun e w' => e = .returned (.tuple #[.int .i64 x, .int .i64 0]) ∧ w' = W) := fun W => by rw [← hx]; exact probes_yes bt W hb1 hb2
  clear hx
  refine callsIn_of_wp_marks Try.func7 rfl trivial ?_ rfl
  simp only [Try.ntmps7, List.size_toArray, List.length_cons, List.length_nil, Nat.reduceAdd, Nat.reduceSub, Array.replicate_succ, Array.replicate_zero, List.push_toArray, List.append_toArray, List.nil_append, List.cons_append]
  gi_wp2_with (gi_at_call 9; refine (callsIn_wide.2 (HCP.out _)).mono ?_; rintro e w' ⟨rfl, hw⟩; have hw1 := hw.symm; subst hw1; clear hw)
  exact ⟨_, by simp [results, Try.f7, go_sem], rfl, rfl⟩
set_option maxRecDepth 100000 in
set_option maxHeartbeats 1000000 in
/-- No such number of bits. -/
theorem build_arg (a : Option Addr) (len cap : Nat) (bt : Int) (w : World) (hb : bt < 1 ∨ 64 < bt) :
    Calls Try.prog 7 #[.slice a len cap, .int .i64 bt] w fun e w' => e = .returned (.tuple #[.slice none 0 0, .int .i64 1]) ∧ w' = w := by
  refine (callsIn_wide (n := 7)).1 ?_
  have h9 : Fence.wide.fn 9 := trivial
  have HCP : Hid (∀ W, Calls Try.prog 9 #[.int .i64 bt] W fun e w' => e = .returned (.tuple #[.int .i64 0, .int .i64 1]) ∧ w' = W) := fun W => probes_no bt W hb
  clear hb
  refine callsIn_of_wp_marks Try.func7 rfl trivial ?_ rfl
  simp only [Try.ntmps7, List.size_toArray, List.length_cons, List.length_nil, Nat.reduceAdd, Nat.reduceSub, Array.replicate_succ, Array.replicate_zero, List.push_toArray, List.append_toArray, List.nil_append, List.cons_append]
  gi_wp2_with (gi_at_call 9; refine (callsIn_wide.2 (HCP.out _)).mono ?_; rintro e w' ⟨rfl, hw⟩; have hw1 := hw.symm; subst hw1; clear hw)
  exact ⟨_, by simp [results, Try.f7, go_sem], rfl, rfl⟩
end Go.Proofs.Ytbmljdeenbokmaa
