import Derived.Test.YtkpijoogaicodaaHb
import Derived.Deep.DeepCutAuto
namespace Go.Proofs.Ytkpijoogaicodaa
open Go.RowKit
set_option linter.unusedVariables false
set_option linter.unusedSimpArgs false
theorem elem77 : Try.prog.elem 77 = 29 := by kernel_rfl
theorem slc77 : Try.prog.underlying 77 = some (.slice (Try.prog.elem 77)) := by rw [elem77]; exact Try.underlying77
def cutU (a : Option Addr) (cap m : Nat) : Option Addr := if cap = m then a else a.map (·.add m)
theorem fcut_lo (a : Option Addr) (n cap m : Nat) (h : m ≤ n) (W : World) : (Instr.sliceAt 77 (.slice a n cap) (some (.int .i64 m)) none none).run Try.prog W = .ok (.slice (cutU a cap m) (n - m) (cap - m)) W := by
  have hs : (sizeOf 29).run Try.prog W = .ok 1 W := by kernel_rfl
  have hr := run_slice_l (P := Try.prog) W 77 a n cap slc77 .i64 (m : Int) (by omega) (by omega)
  rw [elem77, hs] at hr
  simp only [Result.andThen, sliced, Int.toNat_natCast] at hr
  rw [run_sliceAt_slice _ _ _ _ _ _ slc77, hr]
  unfold cutU
  cases a <;> split <;> simp
theorem fcut_hi (a : Option Addr) (n cap m : Nat) (h : m ≤ cap) (W : World) : (Instr.sliceAt 77 (.slice a n cap) none (some (.int .i64 m)) none).run Try.prog W = .ok (.slice a m cap) W := by
  have hs : (sizeOf 29).run Try.prog W = .ok 1 W := by kernel_rfl
  have hr := run_slice_h (P := Try.prog) W 77 a n cap slc77 .i64 (m : Int) (by omega) (by omega)
  rw [elem77, hs] at hr
  simp only [Result.andThen, sliced, Int.toNat_natCast] at hr
  rw [run_sliceAt_slice _ _ _ _ _ _ slc77, hr]
  cases a <;> simp [Addr.add]
/-- A cell of a row of families. -/
theorem urow_at {w : World} {base : Nat} {v : Value} {l : List Int} (h : w.ownsRow base 29 1 v l.length (uc l)) {k : Nat} (hk : k < l.length) : ∃ g cap, v = .slice (some ⟨g, 0, none⟩) l.length cap ∧ w.cell? ⟨g, k, none⟩ = some (.int .u32 l[k]) ∧ g < w.heap.size := by
  rcases h.2 with ⟨_, h0⟩ | ⟨g, cap, cur, e, _, hgg, _⟩
  · omega
  · refine ⟨g, cap, e, ?_, (Array.getElem?_eq_some_iff.1 hgg).1⟩
    have := h.cells (g := g) (by rw [e]; rfl) k (.int .u32 l[k]) (by simp [uc, hk])
    rw [add_at] at this
    simpa using this
theorem urow_base {w : World} {b b' : Nat} {e : TypeId} {z : Nat} {v : Value} {n : Nat} {xs : List Value} (h : w.ownsRow b e z v n xs) (hb : b' ≤ b) : w.ownsRow b' e z v n xs := by
  refine ⟨h.1, ?_⟩
  rcases h.2 with h1 | ⟨g, cap, cur, e, h2, h3⟩
  · exact .inl h1
  · exact .inr ⟨g, cap, cur, e, Nat.le_trans hb h2, h3⟩
theorem urow_some {w : World} {b : Nat} {e : TypeId} {z : Nat} {v : Value} {n : Nat} {xs : List Value} (h : w.ownsRow b e z v n xs) (hn : 0 < n) : ∃ g m c, v = .slice (some ⟨g, 0, none⟩) m c := by
  rcases h.2 with ⟨_, h1⟩ | ⟨g, cap, cur, e, _⟩
  · omega
  · exact ⟨g, n, cap, e⟩
/-- append of families, in a plain region. -/
theorem wpList_umany {ops : Array Oper} {rest : List Oper} {o : Oper} {a : Act} {w : World} {Q : Exit → Act → World → Prop} (hgd : o.guard = none) {d : Nat} (hd : o.dst = some d) (s x : Operand)
    (ho : o.op = .call { callee := .builtin .append, args := #[s, x], argTypes := #[77, 77] }) {N : Nat} {v : Value} {T : List Int} (hs : a.eval s = v) (hown : w.ownsRow N 29 1 v T.length (uc T)) {p : Addr} {cap : Nat} {ys : List Int} (hx : a.eval x = .slice (some p) ys.length cap) (hc : ∀ (j : Nat) (y : Int), ys[j]? = some y → w.cell? (p.add j) = some (.int .u32 y)) (hl : T.length + ys.length ≤ 1000000000000) (hN : N ≤ w.heap.size)
    (h : ∀ av cv w', w'.ownsRow N 29 1 (.slice av (T.length + ys.length) cv) (T.length + ys.length) (uc (T ++ ys)) → w.grownBy w' v.ownBlock → wpList Try.prog ops Q rest (a.put (some d) (.slice av (T.length + ys.length) cv)) w') : wpList Try.prog ops Q (o :: rest) a w := by
  refine wpList_plain hgd fun K hK => ?_
  obtain ⟨av, cv, w', hr, h2, h3, h5⟩ := umany_run o.type hown hc hl hN (cap := cap)
  unfold Oper.wp execOp
  simp only [ho, resolve, invoke, builtin, Sem.run_bind, Sem.run_pure, Result.andThen_ok, List.map_toArray, List.map_cons, List.map_nil, hs, hx, hr]
  show K (a.put o.dst _) w'
  rw [hd]
  exact hK _ _ (h av cv w' h2 h3)
theorem one_new (W : World) (x : Int) : ∀ (j : Nat) (z : Int), [x][j]? = some z → (W.alloc (.cells #[.int .u32 x] 29)).cell? ((⟨W.heap.size, 0, none⟩ : Addr).add j) = some (.int .u32 z) := by
  intro j z hz
  have hj : j = 0 := by have := (List.getElem?_eq_some_iff.1 hz).1; simp at this; omega
  subst hj
  simp at hz
  subst hz
  rw [add_at]
  exact World.cell?_alloc_new W #[.int .u32 x] 29 0
theorem one_old {W W' : World} {x : Int} {row : Option Nat} (o : Obj) (hn : row ≠ some W.heap.size) (hg : (((W.alloc (.cells #[.int .u32 x] 29)).alloc o).drew).grownBy W' row) (h : True) : ∀ (j : Nat) (z : Int), [x][j]? = some z → W'.cell? ((⟨W.heap.size, 0, none⟩ : Addr).add j) = some (.int .u32 z) := by
  intro j z hz
  have h1 := one_new W x j z hz
  have hj : j = 0 := by have := (List.getElem?_eq_some_iff.1 hz).1; simp at this; omega
  subst hj
  rw [add_at] at h1 ⊢
  have e1 : W'.heap[W.heap.size]? = (((W.alloc (.cells #[.int .u32 x] 29)).alloc o).drew).heap[W.heap.size]? := hg.block _ (by simp; omega) (Ne.symm hn)
  have e2 : (((W.alloc (.cells #[.int .u32 x] 29)).alloc o).drew).heap[W.heap.size]? = (W.alloc (.cells #[.int .u32 x] 29)).heap[W.heap.size]? := Below.heap_alloc _ o _ (by simp)
  exact (World.cell?_of_block (a := ⟨W.heap.size, 0 + 0, none⟩) (e1.trans e2)).trans h1
theorem one_old2 {V W' : World} {x : Int} {row : Option Nat} (o : Obj) (hn : row ≠ some (V.heap.size + 1)) (hg : (((V.alloc o).alloc (.cells #[.int .u32 x] 29)).drew).grownBy W' row) (h : True) : ∀ (j : Nat) (z : Int), [x][j]? = some z → W'.cell? ((⟨V.heap.size + 1, 0, none⟩ : Addr).add j) = some (.int .u32 z) := by
  intro j z hz
  have h1 := one_new (V.alloc o) x j z hz
  rw [World.size_alloc] at h1
  have hj : j = 0 := by have := (List.getElem?_eq_some_iff.1 hz).1; simp at this; omega
  subst hj
  rw [add_at] at h1 ⊢
  have e1 : W'.heap[V.heap.size + 1]? = (((V.alloc o).alloc (.cells #[.int .u32 x] 29)).drew).heap[V.heap.size + 1]? := hg.block _ (by simp) (Ne.symm hn)
  exact (World.cell?_of_block (a := ⟨V.heap.size + 1, 0 + 0, none⟩) e1).trans h1
theorem lit2 (V : World) (o : Obj) : ((V.alloc o).alloc (.cells #[] 29)).ownsRow V.heap.size 29 1 (.slice (some ⟨V.heap.size + 1, 0, none⟩) 0 0) 0 (uc []) := by
  have := World.ownsRow_lit (V.alloc o) #[] 0 (base := V.heap.size) (e := 29) (size := 1) (by simp) (by unfold maxLen; omega) rfl
  rw [World.size_alloc] at this
  exact this
set_option maxRecDepth 100000 in
set_option maxHeartbeats 4000000 in
theorem rfam_any {w : World} {v : Value} {l : List Rec} (h : RdR w v l) (hln : l.length ≤ 1000000) :
    Calls Try.prog 51 #[v] w fun e w' => ∃ fv, e = .returned fv ∧ w'.ownsRow w.heap.size 29 1 fv (famI l).length (uc (famI l)) ∧ Below w.heap.size w w' := by
  obtain ⟨a, c, rfl⟩ := h.len
  have R0 : (w.alloc (.cells #[] 29)).ownsRow w.heap.size 29 1 (.slice (some ⟨w.heap.size, 0, none⟩) 0 0) 0 (uc []) := World.ownsRow_lit w #[] 0 (Nat.le_refl _) (by unfold maxLen; omega) rfl
  have B0 : Below w.heap.size w (w.alloc (.cells #[] 29)) := (Below.refl _ w).alloc (Nat.le_refl _) _
  go_enter Try.func51, Try.ntmps51
  go_wp2
  go_loopw [3, 4] (fun o i wr => ∃ k : Nat, k ≤ l.length ∧ i = .int .i64 (k : Nat) ∧ wr.ownsRow w.heap.size 29 1 o (famI (l.take k)).length (uc (famI (l.take k))) ∧ (∃ g n c, o = .slice (some ⟨g, 0, none⟩) n c) ∧ Below w.heap.size w wr) (fun _ i _ => l.length - (intOf i).toNat)
  case atStart => exact ⟨0, Nat.zero_le _, rfl, R0, ⟨_, _, _, rfl⟩, B0⟩
  case round =>
    clear R0 B0
    obtain ⟨k, hk, rfl, hrow, hsome, hB⟩ := hrel
    obtain ⟨W, rfl⟩ : ∃ W, W = wr := ⟨_, rfl⟩
    obtain ⟨oa, oc, rfl, hoc⟩ := urow_form hrow
    obtain ⟨g, n0, c0, e0⟩ := hsome
    injection e0 with e1 e2 e3
    subst e1
    clear e2 e3
    by_cases hlt : k < l.length
    · have hlt' : (k : Int) < (l.length : Int) := by omega
      have hk0 : (0 : Int) ≤ (k : Int) := by omega
      have hfl := famI_len (l.take k)
      rw [List.length_take] at hfl
      have hnx := famI_succ l k hlt
      obtain ⟨B, off, cap, e, hBl, r0, _⟩ := h.at hlt
      cases e
      generalize l[k].fam = x at *
      generalize famI (l.take k) = o at *
      have rc := (hB.cell (p := ⟨B, off + k * 4, none⟩) hBl).trans r0
      have hnx' : Hid _ := hnx
      clear hnx
      have KR : ∀ W', Below W.heap.size W W' → W'.ownsRow w.heap.size 29 1 (.slice (some ⟨g, 0, none⟩) o.length oc) o.length (uc o) ∧ W'.cell? ⟨B, off + k * 4, none⟩ = some (.int .u32 x) ∧ Below w.heap.size w W' := fun W' hW =>
        ⟨row_upd hrow (Upd.ofBelow (S := Non) hW) (fun _ _ h => h), (hW.cell (p := ⟨B, off + k * 4, none⟩) (Nat.lt_of_lt_of_le hBl hB.size)).trans rc, hB.trans (hW.mono hB.size)⟩
      clear hrow rc r0
      go_wp2
      go_loopw [5] (fun j wr2 => ∃ jn : Nat, jn ≤ o.length ∧ j = .int .i64 (jn : Nat) ∧ (o.take jn).all (fun y => decide (y < x)) = true ∧ Below W.heap.size W wr2) (fun j _ => o.length - (intOf j).toNat)
      case atStart => exact ⟨0, Nat.zero_le _, rfl, by simp, Below.refl _ _⟩
      case round =>
        obtain ⟨jn, hjn, rfl, hall, hBW⟩ := hrel
        obtain ⟨V, rfl⟩ : ∃ V, V = wr := ⟨_, rfl⟩
        obtain ⟨hrow, rc, hBV⟩ := KR V hBW
        have hall' : Hid _ := hall
        clear hall
        have hj0 : (0 : Int) ≤ (jn : Int) := by omega
        by_cases hjl : jn < o.length
        · have hjl' : (jn : Int) < (o.length : Int) := by omega
          obtain ⟨g', cap', e, hcj, hgl⟩ := urow_at hrow hjl
          cases e
          obtain ⟨y, hy⟩ : ∃ y, y = o[jn] := ⟨_, rfl⟩
          rw [← hy] at hcj
          have hy' : Hid _ := hy
          clear hy
          by_cases hyx : y < x
          · have hyx' : decide (y < x) = true := decide_eq_true hyx
            go_wp2
            go_quiet (fail)
            go_wp2
            go_roundw
            case rel => exact ⟨jn + 1, by omega, by go_num, plc_go hall'.out hjl (by rw [← hy'.out]; exact hyx), below_drewN hBW _⟩
            case measure => simp [intOf]; omega
          · have hyx' : decide (y < x) = false := decide_eq_false hyx
            by_cases hxe : y = x
            · have hp : plc o x = jn := plc_end hall'.out (by omega) (fun h' => by rw [← hy'.out]; exact hyx)
              have hins : insU o x = o := by unfold insU; rw [hp, if_pos (by rw [List.getElem?_eq_getElem hjl, ← hy'.out, hxe])]
              have hins' : Hid _ := hins
              have hxe' : (y == x) = true := by simp [hxe]
              clear hp hins hxe
              go_wp2
              go_quiet (fail)
              go_wp2
              go_quiet (fail)
              go_wp2
              go_roundw
              case rel => exact ⟨k + 1, by omega, by go_num, by rw [hnx'.out, hins'.out]; exact (KR _ (below_drewN hBW _)).1, ⟨_, _, _, rfl⟩, (KR _ (below_drewN hBW _)).2.2⟩
              case measure => simp [intOf]; omega
            · have hxe' : (y == x) = false := by simpa using hxe
              have hp : plc o x = jn := plc_end hall'.out (by omega) (fun h' => by rw [← hy'.out]; exact hyx)
              have hins : insU o x = o.take jn ++ [x] ++ o.drop jn := by unfold insU; rw [hp, if_neg (by rw [List.getElem?_eq_getElem hjl, ← hy'.out]; simpa using hxe)]
              have hins' : Hid _ := hins
              have hxe2 : Hid _ := hxe
              clear hp hins hxe
              go_wp2
              go_quiet (fail)
              have hB1 := below_drewN hBW nq
              obtain ⟨V7, hV7⟩ : ∃ V7, V7 = V.drewN nq := ⟨_, rfl⟩
              rw [← hV7] at hB1 ⊢
              obtain ⟨hrow7, rc7, _⟩ := KR V7 hB1
              obtain ⟨g7, cap7, e7, hcj7, hgl7⟩ := urow_at hrow7 hjl
              cases e7
              rw [← hy'.out] at hcj7
              clear hV7
              go_wp2
              go_quiet (fail)
              have hB8 := below_drewN hB1 nq
              obtain ⟨V8, hV8⟩ : ∃ V8, V8 = V7.drewN nq := ⟨_, rfl⟩
              rw [← hV8] at hB8 ⊢
              obtain ⟨hrow8, rc8, hBW8⟩ := KR V8 hB8
              clear hV8
              obtain ⟨ta, hta⟩ : ∃ ta, ta = o.take jn := ⟨_, rfl⟩
              obtain ⟨da, hda⟩ : ∃ da, da = o.drop jn := ⟨_, rfl⟩
              have htl : jn = ta.length := by rw [hta, List.length_take]; omega
              have hdl : o.length - jn = da.length := by rw [hda, List.length_drop]
              have CH : ∀ W, (Instr.sliceAt 77 (.slice (some ⟨g, 0, none⟩) o.length oc) none (some (.int .i64 (jn : Nat))) none).run Try.prog W = .ok (.slice (some ⟨g, 0, none⟩) ta.length oc) W := fun W => by rw [← htl]; exact fcut_hi _ _ _ _ (by omega) W
              have kt : ∀ W', Below V8.heap.size V8 W' → ∀ (j : Nat) (z : Int), ta[j]? = some z → W'.cell? ((⟨g, 0, none⟩ : Addr).add j) = some (.int .u32 z) := by
                intro W' hW j z hz
                rw [hta, List.getElem?_take] at hz
                split at hz
                · rw [add_at, Nat.zero_add]
                  have hj : j < o.length := by omega
                  obtain ⟨g9, c9, e9, h9, h8⟩ := urow_at hrow8 hj
                  cases e9
                  rw [List.getElem?_eq_getElem hj] at hz
                  cases hz
                  exact (hW.cell (p := ⟨g, j, none⟩) h8).trans h9
                · cases hz
              obtain ⟨pd, CL, kd⟩ : ∃ pd : Addr, (∀ W, (Instr.sliceAt 77 (.slice (some ⟨g, 0, none⟩) o.length oc) (some (.int .i64 (jn : Nat))) none none).run Try.prog W = .ok (.slice (some pd) da.length (oc - jn)) W) ∧ (∀ W', Below V8.heap.size V8 W' → ∀ (j : Nat) (z : Int), da[j]? = some z → W'.cell? (pd.add j) = some (.int .u32 z)) := by
                refine ⟨⟨g, jn, none⟩, fun W => ?_, ?_⟩
                · have := fcut_lo (some ⟨g, 0, none⟩) o.length oc jn (by omega) W
                  rw [this, hdl]
                  unfold cutU
                  rw [if_neg (by omega)]
                  simp [add_at]
                · intro W' hW j z hz
                  rw [hda, List.getElem?_drop] at hz
                  rw [add_at]
                  have hj : jn + j < o.length := (List.getElem?_eq_some_iff.1 hz).1
                  obtain ⟨g9, c9, e9, h9, h8⟩ := urow_at hrow8 hj
                  cases e9
                  rw [List.getElem?_eq_getElem hj] at hz
                  cases hz
                  exact (hW.cell (p := ⟨g, jn + j, none⟩) h8).trans h9
              have lB8 : B < V8.heap.size := Nat.lt_of_lt_of_le hBl hBW8.size
              have hins2 : Hid (insU o x = ta ++ [x] ++ da) := by show _ = _; rw [hins'.out, hta, hda]
              have htl' : Hid _ := htl
              have hdl' : Hid _ := hdl
              have hlt2 : ta.length ≤ 1000000 := by omega
              have hlt3 : da.length ≤ 1000000 := by omega
              clear hta hda htl hdl
              have bq1 : ∀ o1, Below V8.heap.size V8 ((V8.alloc o1).drew) := fun o1 => ((Below.refl _ V8).alloc (Nat.le_refl _) o1).drew
              have bq2 : ∀ o1 o2, Below V8.heap.size V8 (((V8.alloc o1).alloc o2).drew) := fun o1 o2 => (((Below.refl _ V8).alloc (Nat.le_refl _) o1).alloc (by simp) o2).drew
              go_wp2
              go_cut [6] from 48 to 59 (fun r wd => ∃ ra rc', r = .slice ra (ta.length + 1) rc' ∧ wd.ownsRow V8.heap.size 29 1 (.slice ra (ta.length + 1) rc') (ta.length + 1) (uc (ta ++ [x])) ∧ Below V8.heap.size V8 wd)
              case first =>
                go_region_law (first
                  | (refine step_umany (T := ta) (N := V8.heap.size) (v := .slice av ta.length cv) (by rfl) (by rfl) _ _ (by rfl) (by rfl) (by first | simpa using ho1 | simpa using ho1.alloc _) (ys := [x]) (by rfl) (by first | exact one_new _ _ | exact one_old _ (by simp [Value.ownBlock]) hg1 trivial | exact one_old2 _ (by simp [Value.ownBlock]) hg1 trivial) (by simp; omega) (by first | exact b1.size | (simp; have := b1.size; omega)) ?_
                     intro av2 cv2 w2 ho2 hg2 hl2
                     have b2 : Below V8.heap.size V8 w2 := by first | exact b1.grown hg2 b1.size (fun k hk => (ho1.lt k (by simpa using hk)).1) | exact (b1.alloc b1.size _).grown hg2 (b1.alloc b1.size _).size (fun k hk => (ho1.lt k (by simpa using hk)).1))
                  | (refine step_umany (T := []) (N := V8.heap.size) (v := .slice (some ⟨V8.heap.size, 0, none⟩) 0 0) (by rfl) (by rfl) _ _ (by rfl) (by rfl) (by first | exact (World.ownsRow_lit V8 #[] 0 (Nat.le_refl _) (by unfold maxLen; omega) rfl).drew | exact ((World.ownsRow_lit V8 #[] 0 (Nat.le_refl _) (by unfold maxLen; omega) rfl).alloc _).drew) (p := ⟨g, 0, none⟩) (cap := oc) (ys := ta) (by rfl) (by first | exact kt _ (bq1 _) | exact kt _ (bq2 _ _)) (by simp; omega) (by simp <;> omega) ?_
                     intro av cv w1 ho1 hg1 hl1
                     have b1 : Below V8.heap.size V8 w1 := by first | exact (bq1 _).grown hg1 (bq1 _).size (fun k hk => by cases hk; exact Nat.le_refl _) | exact (bq2 _ _).grown hg1 (bq2 _ _).size (fun k hk => by cases hk; exact Nat.le_refl _)
                     have rc1 := (b1.cell (p := ⟨B, off + k * 4, none⟩) lB8).trans rc8)
                  | (refine step_umany (T := []) (N := V8.heap.size) (v := .slice (some ⟨V8.heap.size + 1, 0, none⟩) 0 0) (by rfl) (by rfl) _ _ (by rfl) (by rfl) ((lit2 V8 _).drew) (p := ⟨g, 0, none⟩) (cap := oc) (ys := ta) (by rfl) (by first | exact kt _ (bq1 _) | exact kt _ (bq2 _ _)) (by simp; omega) (by simp <;> omega) ?_
                     intro av cv w1 ho1 hg1 hl1
                     have b1 : Below V8.heap.size V8 w1 := by first | exact (bq1 _).grown hg1 (bq1 _).size (fun k hk => by cases hk; exact Nat.le_succ _) | exact (bq2 _ _).grown hg1 (bq2 _ _).size (fun k hk => by cases hk; exact Nat.le_succ _)
                     have rc1 := (b1.cell (p := ⟨B, off + k * 4, none⟩) lB8).trans rc8))
                all_goals
                  go_wp2
                  go_meet
                  exact ⟨_, _, rfl, ho2, b2⟩
              case rest =>
                obtain ⟨ra, rc', rfl, hrr, hBr⟩ := hcut
                have hrr2 : wc.ownsRow V8.heap.size 29 1 (.slice ra (ta.length + 1) rc') (ta ++ [x]).length (uc (ta ++ [x])) := by simpa using hrr
                go_wp2_with (at_builtin
                             refine wpList_umany rfl rfl _ _ rfl rfl hrr2 (p := pd) (cap := oc - jn) (ys := da) rfl (kd _ hBr) (by simp; omega) hBr.size ?_
                             intro av3 cv3 w3 ho3 hg3)
                go_roundw
                case rel =>
                  have b3 := hBr.grown hg3 hBr.size (fun k hk => (hrr.lt k hk).1)
                  refine ⟨k + 1, by omega, by go_num, ?_, ?_, hBW8.trans (b3.mono hBW8.size)⟩
                  · rw [hnx'.out, hins2.out]
                    have := urow_base ho3 hBW8.size
                    have e : ta.length + 1 + da.length = ta.length + (da.length + 1) := by omega
                    simp at this ⊢
                    rw [← e]; simpa [Nat.add_assoc] using this
                  · have ho4 := ho3
                    simp at ho4
                    exact urow_some ho4 (by omega)
                case measure => simp [intOf]; omega
        · have hje : jn = o.length := by omega
          have hp : plc o x = jn := plc_end hall'.out (by omega) (fun h' => absurd h' hjl)
          have hins : insU o x = o.take jn ++ [x] ++ o.drop jn := by unfold insU; rw [hp, if_neg (by rw [List.getElem?_eq_none (by omega)]; simp)]
          have hins' : Hid _ := hins
          have hjl' : decide ((jn : Int) < (o.length : Int)) = false := decide_eq_false (by omega)
          have hje' : Hid _ := hje
          clear hp hins hje
          go_wp2
          go_quiet (fail)
          have hB1 := below_drewN hBW nq
          obtain ⟨V7, hV7⟩ : ∃ V7, V7 = V.drewN nq := ⟨_, rfl⟩
          rw [← hV7] at hB1 ⊢
          clear hV7
          go_wp2
          go_quiet (fail)
          have hB8 := below_drewN hB1 nq
          obtain ⟨V8, hV8⟩ : ∃ V8, V8 = V7.drewN nq := ⟨_, rfl⟩
          rw [← hV8] at hB8 ⊢
          obtain ⟨hrow8, rc8, hBW8⟩ := KR V8 hB8
          clear hV8
          obtain ⟨ta, hta⟩ : ∃ ta, ta = o.take jn := ⟨_, rfl⟩
          obtain ⟨da, hda⟩ : ∃ da, da = o.drop jn := ⟨_, rfl⟩
          have htl : jn = ta.length := by rw [hta, List.length_take]; omega
          have hdl : o.length - jn = da.length := by rw [hda, List.length_drop]
          have CH : ∀ W, (Instr.sliceAt 77 (.slice (some ⟨g, 0, none⟩) o.length oc) none (some (.int .i64 (jn : Nat))) none).run Try.prog W = .ok (.slice (some ⟨g, 0, none⟩) ta.length oc) W := fun W => by rw [← htl]; exact fcut_hi _ _ _ _ (by omega) W
          have kt : ∀ W', Below V8.heap.size V8 W' → ∀ (j : Nat) (z : Int), ta[j]? = some z → W'.cell? ((⟨g, 0, none⟩ : Addr).add j) = some (.int .u32 z) := by
            intro W' hW j z hz
            rw [hta, List.getElem?_take] at hz
            split at hz
            · rw [add_at, Nat.zero_add]
              have hj : j < o.length := by omega
              obtain ⟨g9, c9, e9, h9, h8⟩ := urow_at hrow8 hj
              cases e9
              rw [List.getElem?_eq_getElem hj] at hz
              cases hz
              exact (hW.cell (p := ⟨g, j, none⟩) h8).trans h9
            · cases hz
          obtain ⟨pd, CL, kd⟩ : ∃ pd : Addr, (∀ W, (Instr.sliceAt 77 (.slice (some ⟨g, 0, none⟩) o.length oc) (some (.int .i64 (jn : Nat))) none none).run Try.prog W = .ok (.slice (some pd) da.length (oc - jn)) W) ∧ (∀ W', Below V8.heap.size V8 W' → ∀ (j : Nat) (z : Int), da[j]? = some z → W'.cell? (pd.add j) = some (.int .u32 z)) := by
            refine ⟨if oc = jn then ⟨g, 0, none⟩ else ⟨g, jn, none⟩, fun W => ?_, ?_⟩
            · have := fcut_lo (some ⟨g, 0, none⟩) o.length oc jn (by omega) W
              rw [this, hdl]
              unfold cutU
              split <;> simp [add_at]
            · intro W' hW j z hz
              rw [hda, List.getElem?_drop] at hz
              have := (List.getElem?_eq_some_iff.1 hz).1
              omega
          have lB8 : B < V8.heap.size := Nat.lt_of_lt_of_le hBl hBW8.size
          have hins2 : Hid (insU o x = ta ++ [x] ++ da) := by show _ = _; rw [hins'.out, hta, hda]
          have htl' : Hid _ := htl
          have hdl' : Hid _ := hdl
          have hlt2 : ta.length ≤ 1000000 := by omega
          have hlt3 : da.length ≤ 1000000 := by omega
          clear hta hda htl hdl
          have bq1 : ∀ o1, Below V8.heap.size V8 ((V8.alloc o1).drew) := fun o1 => ((Below.refl _ V8).alloc (Nat.le_refl _) o1).drew
          have bq2 : ∀ o1 o2, Below V8.heap.size V8 (((V8.alloc o1).alloc o2).drew) := fun o1 o2 => (((Below.refl _ V8).alloc (Nat.le_refl _) o1).alloc (by simp) o2).drew
          go_wp2
          go_cut [6] from 48 to 59 (fun r wd => ∃ ra rc', r = .slice ra (ta.length + 1) rc' ∧ wd.ownsRow V8.heap.size 29 1 (.slice ra (ta.length + 1) rc') (ta.length + 1) (uc (ta ++ [x])) ∧ Below V8.heap.size V8 wd)
          case first =>
            go_region_law (first
              | (refine step_umany (T := ta) (N := V8.heap.size) (v := .slice av ta.length cv) (by rfl) (by rfl) _ _ (by rfl) (by rfl) (by first | simpa using ho1 | simpa using ho1.alloc _) (ys := [x]) (by rfl) (by first | exact one_new _ _ | exact one_old _ (by simp [Value.ownBlock]) hg1 trivial | exact one_old2 _ (by simp [Value.ownBlock]) hg1 trivial) (by simp; omega) (by first | exact b1.size | (simp; have := b1.size; omega)) ?_
                 intro av2 cv2 w2 ho2 hg2 hl2
                 have b2 : Below V8.heap.size V8 w2 := by first | exact b1.grown hg2 b1.size (fun k hk => (ho1.lt k (by simpa using hk)).1) | exact (b1.alloc b1.size _).grown hg2 (b1.alloc b1.size _).size (fun k hk => (ho1.lt k (by simpa using hk)).1))
              | (refine step_umany (T := []) (N := V8.heap.size) (v := .slice (some ⟨V8.heap.size, 0, none⟩) 0 0) (by rfl) (by rfl) _ _ (by rfl) (by rfl) (by first | exact (World.ownsRow_lit V8 #[] 0 (Nat.le_refl _) (by unfold maxLen; omega) rfl).drew | exact ((World.ownsRow_lit V8 #[] 0 (Nat.le_refl _) (by unfold maxLen; omega) rfl).alloc _).drew) (p := ⟨g, 0, none⟩) (cap := oc) (ys := ta) (by rfl) (by first | exact kt _ (bq1 _) | exact kt _ (bq2 _ _)) (by simp; omega) (by simp <;> omega) ?_
                 intro av cv w1 ho1 hg1 hl1
                 have b1 : Below V8.heap.size V8 w1 := by first | exact (bq1 _).grown hg1 (bq1 _).size (fun k hk => by cases hk; exact Nat.le_refl _) | exact (bq2 _ _).grown hg1 (bq2 _ _).size (fun k hk => by cases hk; exact Nat.le_refl _)
                 have rc1 := (b1.cell (p := ⟨B, off + k * 4, none⟩) lB8).trans rc8)
              | (refine step_umany (T := []) (N := V8.heap.size) (v := .slice (some ⟨V8.heap.size + 1, 0, none⟩) 0 0) (by rfl) (by rfl) _ _ (by rfl) (by rfl) ((lit2 V8 _).drew) (p := ⟨g, 0, none⟩) (cap := oc) (ys := ta) (by rfl) (by first | exact kt _ (bq1 _) | exact kt _ (bq2 _ _)) (by simp; omega) (by simp <;> omega) ?_
                 intro av cv w1 ho1 hg1 hl1
                 have b1 : Below V8.heap.size V8 w1 := by first | exact (bq1 _).grown hg1 (bq1 _).size (fun k hk => by cases hk; exact Nat.le_succ _) | exact (bq2 _ _).grown hg1 (bq2 _ _).size (fun k hk => by cases hk; exact Nat.le_succ _)
                 have rc1 := (b1.cell (p := ⟨B, off + k * 4, none⟩) lB8).trans rc8))
            all_goals
              go_wp2
              go_meet
              exact ⟨_, _, rfl, ho2, b2⟩
          case rest =>
            obtain ⟨ra, rc', rfl, hrr, hBr⟩ := hcut
            have hrr2 : wc.ownsRow V8.heap.size 29 1 (.slice ra (ta.length + 1) rc') (ta ++ [x]).length (uc (ta ++ [x])) := by simpa using hrr
            go_wp2_with (at_builtin
                         refine wpList_umany rfl rfl _ _ rfl rfl hrr2 (p := pd) (cap := oc - jn) (ys := da) rfl (kd _ hBr) (by simp; omega) hBr.size ?_
                         intro av3 cv3 w3 ho3 hg3)
            go_roundw
            case rel =>
              have b3 := hBr.grown hg3 hBr.size (fun k hk => (hrr.lt k hk).1)
              refine ⟨k + 1, by omega, by go_num, ?_, ?_, hBW8.trans (b3.mono hBW8.size)⟩
              · rw [hnx'.out, hins2.out]
                have := urow_base ho3 hBW8.size
                have e : ta.length + 1 + da.length = ta.length + (da.length + 1) := by omega
                simp at this ⊢
                rw [← e]; simpa [Nat.add_assoc] using this
              · have ho4 := ho3
                simp at ho4
                exact urow_some ho4 (by omega)
            case measure => simp [intOf]; omega
    · obtain rfl : k = l.length := by omega
      rw [List.take_of_length_le (Nat.le_refl _)] at hrow ⊢
      go_wp2
      go_ret
      exact ⟨_, rfl, hrow, hB⟩
end Go.Proofs.Ytkpijoogaicodaa
