/-
  The reference's Files f29, walked: the same numbers.
-/
import Derived.Test.YtkmpcheamdadcaaJw
namespace Go.Proofs.Ytkmpcheamdadcaa.Srt
open Go.RowKit Go.Sort Go.Lib
set_option linter.unusedVariables false
set_option linter.unusedSimpArgs false
theorem famI_snoc (l : List Int) (x : Int) : famI (l ++ [x]) = insU (famI l) x := by unfold famI; rw [List.foldl_append]; rfl
set_option maxRecDepth 100000 in
set_option maxHeartbeats 8000000 in
theorem rfiles_any {w : World} {V : Vn} {L : Nat → List Fi} (h : RdV w V L) (hL : ∀ i, i < 7 → (L i).length ≤ 1048576) :
    Calls Try.prog 29 #[.agg (verA V L)] w fun e w' => ∃ fv, e = .returned fv ∧ w'.ownsRow w.heap.size 23 1 fv (famI (nmL L 7)).length (uc (famI (nmL L 7))) ∧ Go.RowKit.Below w.heap.size w w' := by
  have HV : Hid (RdV w V L) := h
  have HL : Hid (∀ i, i < 7 → (L i).length ≤ 1048576) := hL
  obtain ⟨W1, hW1⟩ : ∃ W1, W1 = (w.alloc (.cells (verA V L) 41)).alloc (.cells #[] 23) := ⟨_, rfl⟩
  have HBx : Hid (∀ W, Go.RowKit.Below W1.heap.size W1 W → ∀ k, k < 7 → W.cell? ⟨w.heap.size, k, none⟩ = some (vsl V L k)) := fun W hb k hk => by
    rw [hW1] at hb
    exact verK (bstep (al1 _ _) hb) k hk
  have HB1 : Hid (Go.RowKit.Below w.heap.size w W1) := by show Go.RowKit.Below _ _ _; rw [hW1]; exact bstep (al1 _ _) (al1 _ _)
  have HR0 : Hid (W1.ownsRow w.heap.size 23 1 (.slice (some ⟨w.heap.size + 1, 0, none⟩) 0 0) 0 (uc [])) := by show World.ownsRow _ _ _ _ _ _ _; rw [hW1]; exact lit2 w _
  clear h hL
  go_enter Try.func29, Try.ntmps29
  go_wp2
  generalize HW : World.alloc (World.alloc w _) (.cells _ 23) = W2
  have HW' : W2 = W1 := by rw [← HW, hW1]
  subst HW'
  clear HW hW1
  go_loopw [3, 4] (fun o i wr => ∃ k : Nat, k ≤ 7 ∧ i = .int .i64 k ∧ Hid (wr.ownsRow w.heap.size 23 1 o (famI (nmL L k)).length (uc (famI (nmL L k))) ∧ (∃ g n c, o = .slice (some ⟨g, 0, none⟩) n c) ∧ Go.RowKit.Below W2.heap.size W2 wr)) (fun _ i _ => (7 - intOf i).toNat)
  case atStart => exact ⟨0, by decide, rfl, HR0.out, ⟨_, _, _, rfl⟩, Go.RowKit.Below.refl _ _⟩
  case round =>
    clear HR0
    obtain ⟨k, hk, rfl, HR⟩ := hrel
    rcases Nat.lt_or_ge k 7 with hk7 | hk7
    · have hkz : (k : Int) < 7 := by omega
      have hk0 : (0 : Int) ≤ (k : Int) := by omega
      obtain ⟨N, hN⟩ : ∃ N, Hid ((L k).length = N) := ⟨_, rfl⟩
      have HRk : Hid (RdF w (V.a k) (L k)) := HV.out.rd k hk7
      have HNl : Hid (N ≤ 1048576 ∧ (nmL L k).length ≤ 6 * 1048576) := ⟨by rw [← hN.out]; exact HL.out k hk7, Nat.le_trans (nmL_len HL.out k (by omega)) (by omega)⟩
      have hNz : (N : Int) ≤ 1048576 := by have := HNl.out.1; omega
      have HS : Hid (nmL L (k + 1) = nmL L k ++ (L k).map (·.num)) := rfl
      have HCx : Hid (∀ W, Go.RowKit.Below W2.heap.size W2 W → W.cell? ⟨w.heap.size, k, none⟩ = some (.slice (V.a k) N (V.c k))) := fun W hb => by rw [← hN.out]; exact HBx.out W hb k hk7
      have HR1 := HR.out
      rw [show nmL L k = nmL L k ++ ((L k).take 0).map (·.num) by simp] at HR1
      have HR' : Hid _ := HR1
      clear HR1 HR
      obtain ⟨l, hl⟩ : ∃ l, Hid (L k = l) := ⟨_, rfl⟩
      rw [hl.out] at HRk HS HR' hN
      obtain ⟨T, hT⟩ : ∃ T, Hid (nmL L k = T) := ⟨_, rfl⟩
      rw [hT.out] at HS HR' HNl
      go_wp2
      go_loopw [3, 5] (fun o i wr => ∃ j : Nat, j ≤ N ∧ i = .int .i64 j ∧ Hid (wr.ownsRow w.heap.size 23 1 o (famI (T ++ (l.take j).map (·.num))).length (uc (famI (T ++ (l.take j).map (·.num)))) ∧ (∃ g n c, o = .slice (some ⟨g, 0, none⟩) n c) ∧ Go.RowKit.Below W2.heap.size W2 wr)) (fun _ i _ => ((N : Int) - intOf i).toNat)
      case atStart => exact ⟨0, Nat.zero_le _, rfl, HR'.out⟩
      case round =>
        clear HR'
        obtain ⟨j, hj, rfl, HR⟩ := hrel
        have cx := HCx.out wr HR.out.2.2
        have lx := cell_lt cx
        rcases Nat.lt_or_ge j N with hjN | hjN
        · have hjz : (j : Int) < (N : Int) := by omega
          have hj0 : (0 : Int) ≤ (j : Int) := by omega
          obtain ⟨f, hg⟩ : ∃ f, l[j]? = some f := ⟨_, List.getElem?_eq_getElem (by rw [hN.out]; exact hjN)⟩
          obtain ⟨ga, oa, e1, hat1⟩ := (HRk.out.below (bstep HB1.out HR.out.2.2)).at_ hg
          obtain ⟨y0, y1, y2, y3, y4, y5, y6, y7, y8, y9⟩ := hat1.f
          rw [e1] at cx
          have hnx' : Hid (famI (T ++ (l.take (j + 1)).map (·.num)) = insU (famI (T ++ (l.take j).map (·.num))) f.num) := by
            show _ = _
            rw [take_snoc' hg, List.map_append, ← List.append_assoc]
            exact famI_snoc _ _
          have hol : Hid ((famI (T ++ (l.take j).map (·.num))).length ≤ 8 * 1048576) := by
            have := HNl.out
            have h2 := famI_len (T ++ (l.take j).map (·.num))
            show _ ≤ _
            simp only [List.length_append, List.length_map, List.length_take] at h2; omega
          generalize famI (T ++ (l.take j).map (·.num)) = o at *
          obtain ⟨hrow, hsome, hB⟩ := HR.out
          obtain ⟨oa', oc, rfl, hoc⟩ := urow_form hrow
          obtain ⟨g, n0, c0, e0⟩ := hsome
          injection e0 with e1' e2 e3
          subst e1'
          clear e2 e3 HR e1 hat1 hg y1 y2 y3 y4 y5 y6 y7 y8 y9
          obtain ⟨W, rfl⟩ : ∃ W, W = wr := ⟨_, rfl⟩
          have hB' : Hid (Go.RowKit.Below W2.heap.size W2 W) := hB
          have hrow' : Hid (W.ownsRow w.heap.size 23 1 (.slice (some ⟨g, 0, none⟩) o.length oc) o.length (uc o)) := hrow
          clear hB hrow
          have holz : (o.length : Int) ≤ 8388608 := by have := hol.out; omega
          go_wp2
          clear cx lx y0
          obtain ⟨x, hx⟩ : ∃ x, Hid (f.num = x) := ⟨_, rfl⟩
          rw [hx.out] at hnx' ⊢
          go_loopw [7] (fun i wr2 => ∃ jn : Nat, jn ≤ o.length ∧ i = .int .i64 (jn : Nat) ∧ Hid ((o.take jn).all (fun y => decide (y < x)) = true ∧ wr2 = W)) (fun i _ => o.length - (intOf i).toNat)
          case atStart => exact ⟨0, Nat.zero_le _, rfl, by simp, rfl⟩
          case round =>
            obtain ⟨jn, hjn, rfl, HA⟩ := hrel
            have hwr := HA.out.2
            subst hwr
            have hall' : Hid ((o.take jn).all (fun y => decide (y < x)) = true) := HA.out.1
            clear HA
            obtain ⟨V8, rfl⟩ : ∃ V8, V8 = wr := ⟨_, rfl⟩
            have hrow8 := hrow'.out
            have hBW8 := hB'.out
            have hjn0 : (0 : Int) ≤ (jn : Int) := by omega
            by_cases hjl : jn < o.length
            · have hjl' : (jn : Int) < (o.length : Int) := by omega
              obtain ⟨g', cap', e, hcj, hgl⟩ := urow_at hrow8 hjl
              cases e
              obtain ⟨y, hy⟩ : ∃ y, y = o[jn] := ⟨_, rfl⟩
              rw [← hy] at hcj
              have hy' : Hid _ := hy
              clear hy
              by_cases hyx : y < x
              · have hyx' : decide (y < x) = true := decide_eq_true hyx
                clear hrow8 hBW8
                go_wp2
                go_roundw
                case rel => exact ⟨jn + 1, by omega, by go_num, plc_go hall'.out hjl (by rw [← hy'.out]; exact hyx), trivial⟩
                case measure => simp [intOf]; omega
              · have hyx' : decide (y < x) = false := decide_eq_false hyx
                have hp : plc o x = jn := plc_end hall'.out (by omega) (fun h' => by rw [← hy'.out]; exact hyx)
                by_cases hxe : y = x
                · have hins : insU o x = o := by unfold insU; rw [hp, if_pos (by rw [List.getElem?_eq_getElem hjl, ← hy'.out, hxe])]
                  have hins' : Hid _ := hins
                  have hxe' : (y == x) = true := by simp [hxe]
                  clear hp hins hxe hrow8 hBW8
                  go_wp2
                  go_roundw
                  case rel => exact ⟨j + 1, by omega, by go_num, by rw [hnx'.out, hins'.out]; exact ⟨hrow'.out, ⟨_, _, _, rfl⟩, hB'.out⟩⟩
                  case measure => simp [intOf]; omega
                · have hxe' : (y == x) = false := by simpa using hxe
                  have hins : insU o x = o.take jn ++ [x] ++ o.drop jn := by unfold insU; rw [hp, if_neg (by rw [List.getElem?_eq_getElem hjl, ← hy'.out]; simpa using hxe)]
                  have hins' : Hid _ := hins
                  have hxe2 : Hid _ := hxe
                  clear hp hins hxe
                  have hfl2 : o.length ≤ 8 * 1048576 := hol.out
                  obtain ⟨ta, hta⟩ : ∃ ta, ta = o.take jn := ⟨_, rfl⟩
                  obtain ⟨da, hda⟩ : ∃ da, da = o.drop jn := ⟨_, rfl⟩
                  have htl : jn = ta.length := by rw [hta, List.length_take]; omega
                  have hdl : o.length - jn = da.length := by rw [hda, List.length_drop]
                  have CH : ∀ W, (Instr.sliceAt 54 (.slice (some ⟨g, 0, none⟩) o.length oc) none (some (.int .i64 (jn : Nat))) none).run Try.prog W = .ok (.slice (some ⟨g, 0, none⟩) ta.length oc) W := fun W => by rw [← htl]; exact fcut_hi _ _ _ _ (by omega) W
                  have kt : ∀ W', Go.RowKit.Below V8.heap.size V8 W' → ∀ (j : Nat) (z : Int), ta[j]? = some z → W'.cell? ((⟨g, 0, none⟩ : Addr).add j) = some (.int .u64 z) := by
                    intro W' hW j z hz
                    rw [hta, List.getElem?_take] at hz
                    split at hz
                    · rw [add_at, Nat.zero_add]
                      have hj : j < o.length := by omega
                      obtain ⟨g9, c9, e9, h9, h8⟩ := urow_at hrow8 hj
                      cases e9
                      rw [List.getElem?_eq_getElem hj] at hz
                      cases hz
                      exact (hW.cell (p := ⟨g, j, none⟩) h8).trans h9
                    · cases hz
                  obtain ⟨pd, CL, kd⟩ : ∃ pd : Addr, (∀ W, (Instr.sliceAt 54 (.slice (some ⟨g, 0, none⟩) o.length oc) (some (.int .i64 (jn : Nat))) none none).run Try.prog W = .ok (.slice (some pd) da.length (oc - jn)) W) ∧ (∀ W', Go.RowKit.Below V8.heap.size V8 W' → ∀ (j : Nat) (z : Int), da[j]? = some z → W'.cell? (pd.add j) = some (.int .u64 z)) := by
                    refine ⟨if oc = jn then ⟨g, 0, none⟩ else ⟨g, jn, none⟩, fun W => ?_, ?_⟩
                    · have := fcut_lo (some ⟨g, 0, none⟩) o.length oc jn (by omega) W
                      rw [this, hdl]
                      unfold cutU
                      split <;> simp [add_at]
                    · intro W' hW j z hz
                      rw [hda, List.getElem?_drop] at hz
                      have hj : jn + j < o.length := (List.getElem?_eq_some_iff.1 hz).1
                      rw [if_neg (by omega)]
                      rw [add_at]
                      obtain ⟨g9, c9, e9, h9, h8⟩ := urow_at hrow8 hj
                      cases e9
                      rw [List.getElem?_eq_getElem hj] at hz
                      cases hz
                      exact (hW.cell (p := ⟨g, jn + j, none⟩) h8).trans h9
                  have hins2 : Hid (insU o x = ta ++ [x] ++ da) := by show _ = _; rw [hins'.out, hta, hda]
                  have htl' : Hid _ := htl
                  have hdl' : Hid _ := hdl
                  have hlt2 : ta.length ≤ 8 * 1048576 := by omega
                  have hlt3 : da.length ≤ 8 * 1048576 := by omega
                  clear hta hda htl hdl
                  have L0 : (V8.alloc (.cells #[] 23)).ownsRow V8.heap.size 23 1 (.slice (some ⟨V8.heap.size, 0, none⟩) 0 0) ([] : List Int).length (uc []) := World.ownsRow_lit V8 #[] 0 (Nat.le_refl _) (by unfold maxLen; omega) rfl
                  have BL0 : Go.RowKit.Below V8.heap.size V8 (V8.alloc (.cells #[] 23)) := al1 _ _
                  go_wp2_with (first
                    | (at_builtin
                       refine wpList_umany (T := ta ++ [x]) (v := .slice av2 (ta.length + 1) cv2) rfl rfl _ _ rfl rfl (by simpa using ho2) (p := pd) (cap := oc - jn) (ys := da) rfl (kd _ b2.out) (by simp; omega) b2.out.size ?_
                       intro av3 cv3 w3 ho3 hg3)
                    | (at_builtin
                       refine wpList_umany (T := ta) (v := .slice av1 ta.length cv1) rfl rfl _ _ rfl rfl (by simpa using (ho1.alloc (.cells #[.int .u64 x] 23))) (ys := [x]) (cap := 1) (p := ⟨w1.heap.size, 0, none⟩) rfl (one_new w1 x) (by simp; omega) (by have := b1.out.size; simp; omega) ?_
                       intro av2 cv2 w2 ho2 hg2
                       have b2 : Hid (Go.RowKit.Below V8.heap.size V8 w2) := (b1.out.alloc b1.out.size _).grown hg2 (b1.out.alloc b1.out.size _).size (fun k hk => (ho1.lt k (by simpa using hk)).1))
                    | (at_builtin
                       refine wpList_umany (T := []) rfl rfl _ _ rfl rfl L0 (ys := ta) (cap := oc) (p := ⟨g, 0, none⟩) rfl (kt _ BL0) (by simp; omega) (by simp) ?_
                       intro av1 cv1 w1 ho1 hg1
                       have b1 : Hid (Go.RowKit.Below V8.heap.size V8 w1) := BL0.grown hg1 BL0.size (fun k hk => by cases hk; exact Nat.le_refl _)))
                  go_roundw
                  case rel =>
                    have b3 := b2.out.grown hg3 b2.out.size (fun k hk => (ho2.lt k (by simpa using hk)).1)
                    refine ⟨j + 1, by omega, by go_num, ⟨?_, ?_, ?_⟩⟩
                    · rw [hnx'.out, hins2.out]
                      have := urow_base ho3 (b' := w.heap.size) (by have := hBW8.size; have := HB1.out.size; omega)
                      have e : ta.length + 1 + da.length = ta.length + (da.length + 1) := by omega
                      simp at this ⊢
                      rw [← e]; simpa [Nat.add_assoc] using this
                    · have ho4 := ho3
                      simp at ho4
                      exact urow_some ho4 (by omega)
                    · exact bstep hBW8 b3
                  case measure => simp [intOf]; omega
            · have hje : jn = o.length := by omega
              have hp : plc o x = jn := plc_end hall'.out (by omega) (fun h' => absurd h' hjl)
              have hins : insU o x = o.take jn ++ [x] ++ o.drop jn := by unfold insU; rw [hp, if_neg (by rw [List.getElem?_eq_none (by omega)]; simp)]
              have hins' : Hid _ := hins
              have hjl' : decide ((jn : Int) < (o.length : Int)) = false := decide_eq_false (by omega)
              have hje' : Hid _ := hje
              clear hp hins hje
              have hfl2 : o.length ≤ 8 * 1048576 := hol.out
              obtain ⟨ta, hta⟩ : ∃ ta, ta = o.take jn := ⟨_, rfl⟩
              obtain ⟨da, hda⟩ : ∃ da, da = o.drop jn := ⟨_, rfl⟩
              have htl : jn = ta.length := by rw [hta, List.length_take]; omega
              have hdl : o.length - jn = da.length := by rw [hda, List.length_drop]
              have CH : ∀ W, (Instr.sliceAt 54 (.slice (some ⟨g, 0, none⟩) o.length oc) none (some (.int .i64 (jn : Nat))) none).run Try.prog W = .ok (.slice (some ⟨g, 0, none⟩) ta.length oc) W := fun W => by rw [← htl]; exact fcut_hi _ _ _ _ (by omega) W
              have kt : ∀ W', Go.RowKit.Below V8.heap.size V8 W' → ∀ (j : Nat) (z : Int), ta[j]? = some z → W'.cell? ((⟨g, 0, none⟩ : Addr).add j) = some (.int .u64 z) := by
                intro W' hW j z hz
                rw [hta, List.getElem?_take] at hz
                split at hz
                · rw [add_at, Nat.zero_add]
                  have hj : j < o.length := by omega
                  obtain ⟨g9, c9, e9, h9, h8⟩ := urow_at hrow8 hj
                  cases e9
                  rw [List.getElem?_eq_getElem hj] at hz
                  cases hz
                  exact (hW.cell (p := ⟨g, j, none⟩) h8).trans h9
                · cases hz
              obtain ⟨pd, CL, kd⟩ : ∃ pd : Addr, (∀ W, (Instr.sliceAt 54 (.slice (some ⟨g, 0, none⟩) o.length oc) (some (.int .i64 (jn : Nat))) none none).run Try.prog W = .ok (.slice (some pd) da.length (oc - jn)) W) ∧ (∀ W', Go.RowKit.Below V8.heap.size V8 W' → ∀ (j : Nat) (z : Int), da[j]? = some z → W'.cell? (pd.add j) = some (.int .u64 z)) := by
                refine ⟨if oc = jn then ⟨g, 0, none⟩ else ⟨g, jn, none⟩, fun W => ?_, ?_⟩
                · have := fcut_lo (some ⟨g, 0, none⟩) o.length oc jn (by omega) W
                  rw [this, hdl]
                  unfold cutU
                  split <;> simp [add_at]
                · intro W' hW j z hz
                  rw [hda, List.getElem?_drop] at hz
                  have hj : jn + j < o.length := (List.getElem?_eq_some_iff.1 hz).1
                  rw [if_neg (by omega)]
                  rw [add_at]
                  obtain ⟨g9, c9, e9, h9, h8⟩ := urow_at hrow8 hj
                  cases e9
                  rw [List.getElem?_eq_getElem hj] at hz
                  cases hz
                  exact (hW.cell (p := ⟨g, jn + j, none⟩) h8).trans h9
              have hins2 : Hid (insU o x = ta ++ [x] ++ da) := by show _ = _; rw [hins'.out, hta, hda]
              have htl' : Hid _ := htl
              have hdl' : Hid _ := hdl
              have hlt2 : ta.length ≤ 8 * 1048576 := by omega
              have hlt3 : da.length ≤ 8 * 1048576 := by omega
              clear hta hda htl hdl
              have L0 : (V8.alloc (.cells #[] 23)).ownsRow V8.heap.size 23 1 (.slice (some ⟨V8.heap.size, 0, none⟩) 0 0) ([] : List Int).length (uc []) := World.ownsRow_lit V8 #[] 0 (Nat.le_refl _) (by unfold maxLen; omega) rfl
              have BL0 : Go.RowKit.Below V8.heap.size V8 (V8.alloc (.cells #[] 23)) := al1 _ _
              go_wp2_with (first
                | (at_builtin
                   refine wpList_umany (T := ta ++ [x]) (v := .slice av2 (ta.length + 1) cv2) rfl rfl _ _ rfl rfl (by simpa using ho2) (p := pd) (cap := oc - jn) (ys := da) rfl (kd _ b2.out) (by simp; omega) b2.out.size ?_
                   intro av3 cv3 w3 ho3 hg3)
                | (at_builtin
                   refine wpList_umany (T := ta) (v := .slice av1 ta.length cv1) rfl rfl _ _ rfl rfl (by simpa using (ho1.alloc (.cells #[.int .u64 x] 23))) (ys := [x]) (cap := 1) (p := ⟨w1.heap.size, 0, none⟩) rfl (one_new w1 x) (by simp; omega) (by have := b1.out.size; simp; omega) ?_
                   intro av2 cv2 w2 ho2 hg2
                   have b2 : Hid (Go.RowKit.Below V8.heap.size V8 w2) := (b1.out.alloc b1.out.size _).grown hg2 (b1.out.alloc b1.out.size _).size (fun k hk => (ho1.lt k (by simpa using hk)).1))
                | (at_builtin
                   refine wpList_umany (T := []) rfl rfl _ _ rfl rfl L0 (ys := ta) (cap := oc) (p := ⟨g, 0, none⟩) rfl (kt _ BL0) (by simp; omega) (by simp) ?_
                   intro av1 cv1 w1 ho1 hg1
                   have b1 : Hid (Go.RowKit.Below V8.heap.size V8 w1) := BL0.grown hg1 BL0.size (fun k hk => by cases hk; exact Nat.le_refl _)))
              go_roundw
              case rel =>
                have b3 := b2.out.grown hg3 b2.out.size (fun k hk => (ho2.lt k (by simpa using hk)).1)
                refine ⟨j + 1, by omega, by go_num, ⟨?_, ?_, ?_⟩⟩
                · rw [hnx'.out, hins2.out]
                  have := urow_base ho3 (b' := w.heap.size) (by have := hBW8.size; have := HB1.out.size; omega)
                  have e : ta.length + 1 + da.length = ta.length + (da.length + 1) := by omega
                  simp at this ⊢
                  rw [← e]; simpa [Nat.add_assoc] using this
                · have ho4 := ho3
                  simp at ho4
                  exact urow_some ho4 (by omega)
                · exact bstep hBW8 b3
              case measure => simp [intOf]; omega
        · obtain rfl : j = N := by omega
          have HR1 := HR.out
          rw [List.take_of_length_le (by rw [hN.out]; exact Nat.le_refl _), ← HS.out] at HR1
          have HR3 : Hid _ := HR1
          clear HR1 HR
          go_wp2
          go_roundw
          case rel => exact ⟨k + 1, by omega, by go_num, HR3.out⟩
          case measure => simp [intOf]; omega
    · obtain rfl : k = 7 := by omega
      go_wp2
      go_ret
      exact ⟨_, rfl, HR.out.1, bstep HB1.out HR.out.2.2⟩
end Go.Proofs.Ytkmpcheamdadcaa.Srt
