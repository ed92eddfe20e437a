/-
  The reference's table in memory; Ends.
-/
import Derived.Test.YtocanjefonlnaaaDoorIa
import Derived.Test.YtocanjefonlnaaaDoorHh
import Derived.Lib.AppendZeros
import Derived.BigQuiet
namespace Go.Proofs.YtocanjefonlnaaaDoor
open Go.RowKit
set_option linter.unusedVariables false
set_option linter.unusedSimpArgs false
/-- The reference's table: two lists that read. -/
structure Rt (w : World) (D : Nat) (how : Int) (E : List Ent) (R : List Tm) (sz : Int) (la : Option Addr) (lc : Nat) (ta : Option Addr) (tc : Nat) : Prop where
  blk : Blk w D 74 (rtC how (.slice la E.length lc) (.slice ta R.length tc) sz)
  rde : RdE w la E
  rdt : RdT w (.slice ta R.length tc) R
theorem Rt.below {w w' : World} {D : Nat} {how : Int} {E : List Ent} {R : List Tm} {sz : Int} {la : Option Addr} {lc : Nat} {ta : Option Addr} {tc : Nat} (h : Rt w D how E R sz la lc ta tc) (hb : Below w.heap.size w w') : Rt w' D how E R sz la lc ta tc := by
  refine ⟨h.blk.upd (S := Non) (Upd.ofBelow hb) (fun h => h), ?_, ?_⟩
  · rcases h.rde with h1 | ⟨b, o, e, h1⟩
    · exact .inl h1
    · refine .inr ⟨b, o, e, fun j x hx => ?_⟩
      obtain ⟨y0, y1, y2, y3⟩ := h1 j x hx
      exact ⟨keepc hb y0, keepc hb y1, keepc hb y2, keepc hb y3⟩
  · rcases h.rdt with h1 | ⟨g, cp, e, h1⟩
    · exact .inl h1
    · exact .inr ⟨g, cp, e, fun j t ht => (h1 j t ht).below hb⟩
/-- Numbers in a row. -/
def us (l : List Int) : List Value := l.map (Value.int .u64)
theorem us_get {l : List Int} {j : Nat} {x : Int} (h : l[j]? = some x) : (us l)[j]? = some (.int .u64 x) := by unfold us; rw [List.getElem?_map, h]; rfl
theorem info33 : (Tryd.prog.info? 33).map (fun i => (i.zero, i.size, i.bytes)) = some (some (.int .u64 0), 1, 8) := by kernel_rfl
abbrev RowU (w : World) (v : Value) (l : List Int) : Prop := w.ownsRow 0 33 1 v l.length (us l)
theorem push_u {w : World} {v : Value} {l : List Int} (h : RowU w v l) {vb : Nat} {x : Int} (hv : Blk w vb 33 [.int .u64 x]) (hl : l.length ≤ 1000000) :
    ∃ a c w', (Builtin.append_ #[96, 96] 96 #[v, .slice (some ⟨vb, 0, none⟩) 1 1]).run Tryd.prog w = .ok (.slice a (l.length + 1) c) w' ∧ RowU w' (.slice a (l.length + 1) c) (l ++ [x]) ∧ Upd (fun k => v.ownBlock = some k) w w' ∧ (Value.ownBlock (.slice a (l.length + 1) c) = v.ownBlock ∨ Value.ownBlock (.slice a (l.length + 1) c) = some w.heap.size) := by
  obtain ⟨i0, hi, hz0, hz1, hz2⟩ := info_parts info33
  obtain ⟨v', w', hr, h2, h3, _, h5⟩ := run_append_own_at (P := Tryd.prog) w 0 96 96 33 i0 _ 1 8 Tryd.underlying96 hi hz0 hz1 hz2 rfl (by decide) v l.length (us l) h ⟨vb, 0, none⟩ 1 1 [.int .u64 x] (by simp) (fun j u hj => by rw [add_at, Nat.zero_add]; exact hv.cell1 j u hj) (fun u hu => by simp at hu; subst hu; rfl) (by unfold maxLen; omega) (by omega) (Nat.zero_le _)
  have h2' : RowU w' v' (l ++ [x]) := by
    unfold RowU us
    rw [List.map_append, List.length_append]
    exact h2
  obtain ⟨a, c, e⟩ : ∃ a c, v' = .slice a (l.length + 1) c := by
    rcases h2.2 with ⟨e, h1⟩ | ⟨g, cap, cur, e, hg⟩
    · omega
    · exact ⟨_, _, e⟩
  subst e
  exact ⟨a, c, w', hr, h2', (Upd.refl _ _).grown h3 (fun k hk _ => hk), h5⟩
/-- The state of the list while it is gathered. -/
def Gl (w wr : World) (v : Value) (l : List Int) : Prop := RowU wr v l ∧ Below w.heap.size w wr ∧ ∀ j, v.ownBlock = some j → w.heap.size ≤ j
theorem Gl.push {w wr : World} {v : Value} {l : List Int} (h : Gl w wr v l) (x : Int) (hl : l.length ≤ 1000000) :
    ∃ a c w', (Builtin.append_ #[96, 96] 96 #[v, .slice (some ⟨wr.heap.size, 0, none⟩) 1 1]).run Tryd.prog (wr.alloc (.cells #[.int .u64 x] 33)) = .ok (.slice a (l.length + 1) c) w' ∧ Gl w w' (.slice a (l.length + 1) c) (l ++ [x]) := by
  obtain ⟨r1, r2, r3⟩ := h
  have hB := Blk.new wr 33 [.int .u64 x]
  have r1' : RowU (wr.alloc (.cells #[.int .u64 x] 33)) v l := row_upd r1 ((Upd.refl Non _).alloc _) (fun _ _ h => h)
  obtain ⟨a, c, w', g0, g1, g2, g3⟩ := push_u r1' hB hl
  have hbA : Below w.heap.size w (wr.alloc (.cells #[.int .u64 x] 33)) := r2.alloc r2.size _
  refine ⟨a, c, w', g0, g1, hbA.trans (g2.below (fun i hi => Nat.lt_of_lt_of_le hi hbA.size) (fun i hi => r3 i hi)), fun i hi => ?_⟩
  rcases g3 with e | e
  · exact r3 i (by rw [← e]; exact hi)
  · rw [e] at hi; cases hi; exact hbA.size
theorem rowu_at {w : World} {a : Option Addr} {n c : Nat} {l : List Int} (h : RowU w (.slice a n c) l) {j : Nat} {x : Int} (hx : l[j]? = some x) : ∃ g, a = some ⟨g, 0, none⟩ ∧ w.cell? ⟨g, j, none⟩ = some (.int .u64 x) := by
  have hc := fun g hg => World.ownsRow.cells h (g := g) hg
  rcases h.2 with ⟨e, h1⟩ | ⟨g, cap, cur, e, hg⟩
  · have := (List.getElem?_eq_some_iff.1 hx).1
    omega
  · injection e with e1 e2 e3
    subst e1
    have := hc g rfl j _ (us_get hx)
    rw [add_at, Nat.zero_add] at this
    exact ⟨g, rfl, this⟩
/-- What Ends tells. -/
def lst (l : List Int) : Int := match l with
  | [] => 0
  | x :: _ => l.foldl min x
def mst (l : List Int) : Int := match l with
  | [] => 0
  | x :: _ => l.foldl max x
set_option maxRecDepth 100000 in
set_option maxHeartbeats 1000000 in
theorem rends_any {w : World} {D : Nat} {how : Int} {E : List Ent} {R : List Tm} {sz : Int} {la : Option Addr} {lc : Nat} {ta : Option Addr} {tc : Nat} (h : Rt w D how E R sz la lc ta tc) (hE : E.length ≤ 100000) (hR : R.length ≤ 100000) :
    Calls Tryd.prog 28 #[.pointer (some ⟨D, 0, none⟩)] w fun e w' => e = .returned (.tuple #[.int .u64 (lst (E.map (·.s) ++ R.map (·.s))), .int .u64 (mst (E.map (·.s) ++ R.map (·.s)))]) ∧ Below w.heap.size w w' := by
  obtain ⟨N, hN⟩ : ∃ N, Hid (E.length = N) := ⟨_, rfl⟩
  obtain ⟨M, hM⟩ : ∃ M, Hid (R.length = M) := ⟨_, rfl⟩
  obtain ⟨L, hL⟩ : ∃ L, Hid (E.map (·.s) ++ R.map (·.s) = L) := ⟨_, rfl⟩
  rw [hL.out]
  obtain ⟨X, hX⟩ : ∃ X, Hid (lst L = X) := ⟨_, rfl⟩
  obtain ⟨Y, hY⟩ : ∃ Y, Hid (mst L = Y) := ⟨_, rfl⟩
  rw [hX.out, hY.out]
  have HT : Hid (Rt w D how E R sz la lc ta tc) := h
  have HC : Hid (∀ W, Below w.heap.size w W → W.cell? ⟨D, 1, none⟩ = some (.slice la N lc) ∧ W.cell? ⟨D, 2, none⟩ = some (.slice ta M tc)) := fun W hW => by
    have hb := (h.below hW).blk
    rw [hN.out, hM.out] at hb
    exact ⟨hb.cell1 1 _ rfl, hb.cell1 2 _ rfl⟩
  have hb0 : Below w.heap.size w (w.alloc (.cells #[] 33)) := (Below.refl _ _).alloc (Nat.le_refl _) _
  have hr0 : RowU (w.alloc (.cells #[] 33)) (.slice (some ⟨w.heap.size, 0, none⟩) 0 0) [] := ⟨rfl, .inr ⟨w.heap.size, 0, #[], rfl, Nat.zero_le _, heap_alloc_new w _, Nat.le_refl _, by unfold maxLen; omega, rfl, rfl⟩⟩
  have HS : Hid (Gl w (w.alloc (.cells #[] 33)) (.slice (some ⟨w.heap.size, 0, none⟩) 0 0) ((E.map (·.s)).take 0)) := ⟨hr0, hb0, fun k hk => by cases hk; exact Nat.le_refl _⟩
  rw [hN.out] at hE
  rw [hM.out] at hR
  clear h hr0 hb0
  go_enter Tryd.func28, Tryd.ntmps28
  go_wp2_with fail
  go_loopw [4, 5] (fun s4 s5 wr => ∃ (i : Nat) (va : Option Addr) (vc : Nat), i ≤ N ∧ s4 = .slice va i vc ∧ s5 = .int .i64 i ∧ Hid (Gl w wr (.slice va i vc) ((E.map (·.s)).take i))) (fun _ s5 _ => N - (intOf s5).toNat)
  case atStart => exact ⟨0, _, 0, Nat.zero_le _, rfl, rfl, HS.out⟩
  case round =>
    clear HS
    obtain ⟨i, va, vc, hi, rfl, rfl, HG⟩ := hrel
    obtain ⟨c1, c2⟩ := HC.out wr HG.out.2.1
    rcases Nat.lt_or_ge i N with hlt | hge
    · have hlz : (i : Int) < (N : Int) := by omega
      obtain ⟨x, hx⟩ : ∃ x, E[i]? = some x := ⟨_, List.getElem?_eq_getElem (by rw [hN.out]; exact hlt)⟩
      obtain ⟨b, off, rfl, hat⟩ : ∃ b off, la = some ⟨b, off, none⟩ ∧ ∀ (j : Nat) (e : Ent), E[j]? = some e → EAt w b (off + j * 4) e := by
        rcases HT.out.rde with h | h
        · rw [h] at hx; simp at hx
        · exact h
      have y1 := keepc HG.out.2.1 (hat i x hx).2.1
      have hti : ((E.map (·.s)).take i).length = i := by rw [List.length_take, List.length_map, hN.out]; omega
      have hta : (E.map (·.s)).take i ++ [x.s] = (E.map (·.s)).take (i + 1) := by rw [List.take_add_one, List.getElem?_map, hx]; rfl
      obtain ⟨va', vc', w9, hr9, g9⟩ := HG.out.push x.s (by rw [hti]; omega)
      rw [hti] at hr9 g9
      rw [hta] at g9
      have H9 : Hid _ := g9
      clear hat hti hta g9 HG hx
      go_wp2_with (at_builtin; refine Lib.wpList_append_run _ rfl _ _ _ _ rfl _ _ rfl rfl _ _ hr9 ?_)
      go_roundw
      case rel => exact ⟨i + 1, va', vc', by omega, rfl, by go_num, H9.out⟩
      case measure => first | (simp [intOf]; done) | (simp [intOf]; omega)
    · obtain rfl : i = N := by omega
      have hlz : ¬ (i : Int) < (i : Int) := by omega
      have HG1 : Hid (Gl w wr (.slice va i vc) (E.map (·.s) ++ (R.map (·.s)).take 0)) := by
        have := HG.out
        rw [List.take_of_length_le (by rw [List.length_map, hN.out]; omega)] at this
        rw [List.take_zero, List.append_nil]; exact this
      clear HG hge
      go_wp2_with fail
      obtain ⟨V1, hV1⟩ : ∃ V, V = wr := ⟨_, rfl⟩
      rw [← hV1]
      rw [← hV1] at HG1
      clear hV1 c1 c2
      go_loopw [4, 6] (fun s4 s6 wr => ∃ (j : Nat) (vb : Option Addr) (vd : Nat), j ≤ M ∧ s4 = .slice vb (i + j) vd ∧ s6 = .int .i64 j ∧ Hid (Gl w wr (.slice vb (i + j) vd) (E.map (·.s) ++ (R.map (·.s)).take j))) (fun _ s6 _ => M - (intOf s6).toNat)
      case atStart => exact ⟨0, va, vc, Nat.zero_le _, rfl, rfl, HG1.out⟩
      case round =>
        clear HG1
        obtain ⟨j, vb, vd, hj, rfl, rfl, HG⟩ := hrel
        obtain ⟨c1, c2⟩ := HC.out wr HG.out.2.1
        rcases Nat.lt_or_ge j M with hlt | hge
        · have hlz : (j : Int) < (M : Int) := by omega
          obtain ⟨x, hx⟩ : ∃ x, R[j]? = some x := ⟨_, List.getElem?_eq_getElem (by rw [hM.out]; exact hlt)⟩
          obtain ⟨g, rfl, hat⟩ : ∃ g, ta = some ⟨g, 0, none⟩ ∧ ∀ (j : Nat) (t : Tm), R[j]? = some t → TAt w g (j * 3) t := by
            rcases HT.out.rdt with ⟨_, h⟩ | ⟨g, cp, e, h⟩
            · rw [h] at hx; simp at hx
            · injection e with e1 e2 e3
              exact ⟨g, e1, h⟩
          have y1 := keepc HG.out.2.1 (hat j x hx).2.2
          have hti : (E.map (·.s) ++ (R.map (·.s)).take j).length = i + j := by rw [List.length_append, List.length_take, List.length_map, List.length_map, hN.out, hM.out]; omega
          have hta : (E.map (·.s) ++ (R.map (·.s)).take j) ++ [x.s] = E.map (·.s) ++ (R.map (·.s)).take (j + 1) := by rw [List.append_assoc, List.take_add_one, List.getElem?_map, hx]; rfl
          obtain ⟨va', vc', w9, hr9, g9⟩ := HG.out.push x.s (by rw [hti]; omega)
          rw [hti] at hr9 g9
          rw [hta] at g9
          have H9 : Hid _ := g9
          clear hat hti hta g9 HG hx
          go_wp2_with (at_builtin; refine Lib.wpList_append_run _ rfl _ _ _ _ rfl _ _ rfl rfl _ _ hr9 ?_)
          go_roundw
          case rel => exact ⟨j + 1, va', vc', by omega, rfl, by go_num, H9.out⟩
          case measure => first | (simp [intOf]; done) | (simp [intOf]; omega)
        · obtain rfl : j = M := by omega
          obtain ⟨T, hT⟩ : ∃ T, Hid (i + j = T) := ⟨_, rfl⟩
          have hLT : Hid (L.length = T) := by show _ = _; rw [← hL.out, ← hT.out, List.length_append, List.length_map, List.length_map, hN.out, hM.out]
          have HG2 : Hid (Gl w wr (.slice vb T vd) L) := by
            have := HG.out
            rw [List.take_of_length_le (by rw [List.length_map, hM.out]; omega), hL.out, hT.out] at this
            exact this
          rw [hT.out]
          have hTb : T ≤ 200000 := by rw [← hT.out]; omega
          have hlz : ¬ (j : Int) < (j : Int) := by omega
          clear HG hge
          obtain ⟨V2, hV2⟩ : ∃ V, V = wr := ⟨_, rfl⟩
          rw [← hV2]
          rw [← hV2] at HG2 c1 c2
          clear hV2
          cases hLc : L with
          | nil =>
            subst hLc
            obtain rfl : T = 0 := hLT.out.symm
            have hX0 := hX.out
            have hY0 := hY.out
            simp only [lst, mst] at hX0 hY0
            subst hX0
            subst hY0
            go_wp2_with fail
            go_ret2
            exact ⟨rfl, HG2.out.2.1⟩
          | cons x0 L' =>
            have hL0 : L[0]? = some x0 := by rw [hLc]; rfl
            have hT0 : 0 < T := by rw [← hLT.out, hLc]; simp
            have hTz : ¬ (T : Int) = 0 := by omega
            have hTp : (0 : Int) < (T : Int) := by omega
            obtain ⟨g, rfl, hg0⟩ := rowu_at HG2.out.1 hL0
            have HAt : Hid (∀ k x, L[k]? = some x → V2.cell? ⟨g, k, none⟩ = some (.int .u64 x)) := fun k x hx => by
              obtain ⟨g', e, h⟩ := rowu_at HG2.out.1 hx
              cases e
              exact h
            have hls : X = L.foldl min x0 := by rw [← hX.out, hLc]; rfl
            have hms : Y = L.foldl max x0 := by rw [← hY.out, hLc]; rfl
            obtain ⟨mn, hmn⟩ : ∃ mn : Nat → Int, Hid (∀ k, (L.take k).foldl min x0 = mn k) := ⟨fun k => (L.take k).foldl min x0, fun _ => rfl⟩
            obtain ⟨mx, hmx⟩ : ∃ mx : Nat → Int, Hid (∀ k, (L.take k).foldl max x0 = mx k) := ⟨fun k => (L.take k).foldl max x0, fun _ => rfl⟩
            have hmnT : L.foldl min x0 = mn T := by rw [← hmn.out, List.take_of_length_le (by rw [hLT.out]; exact Nat.le_refl _)]
            have hmxT : L.foldl max x0 = mx T := by rw [← hmx.out, List.take_of_length_le (by rw [hLT.out]; exact Nat.le_refl _)]
            have HXY : Hid (X = mn T ∧ Y = mx T) := ⟨hls.trans hmnT, hms.trans hmxT⟩
            have HL0 : Hid (L[0]? = some x0) := hL0
            clear hls hms hmnT hmxT hL0 hLc
            go_wp2_with fail
            first | go_quiet (fail) | go_big_quiet (fail)
            have HV3 : Hid (∀ k x, L[k]? = some x → (V2.drewN nq).cell? ⟨g, k, none⟩ = some (.int .u64 x)) := fun k x hx => HAt.out k x hx
            have HB3 : Hid (Below w.heap.size w (V2.drewN nq)) := belN HG2.out.2.1 nq
            obtain ⟨V3, hV3⟩ : ∃ V, V = V2.drewN nq := ⟨_, rfl⟩
            rw [← hV3] at HV3 HB3 ⊢
            clear hV3 HAt HG2 hg0 c1 c2
            have hm0 : mn 0 = x0 := by rw [← hmn.out]; rfl
            have hM0 : mx 0 = x0 := by rw [← hmx.out]; rfl
            go_wp2_with fail
            go_loopw [7, 8, 9] (fun s7 s8 s9 wr => ∃ k : Nat, k ≤ T ∧ s7 = .int .u64 (mn k) ∧ s8 = .int .u64 (mx k) ∧ s9 = .int .i64 k ∧ Hid (wr = V3)) (fun _ _ s9 _ => T - (intOf s9).toNat)
            case atStart => exact ⟨0, Nat.zero_le _, by rw [hm0], by rw [hM0], rfl, rfl⟩
            case round =>
              clear hm0 hM0
              obtain ⟨k, hk, rfl, rfl, rfl, HW⟩ := hrel
              have hW := HW.out
              subst hW
              clear HW
              rcases Nat.lt_or_ge k T with hlt | hge
              · have hlz : (k : Int) < (T : Int) := by omega
                obtain ⟨x, hx⟩ : ∃ x, L[k]? = some x := ⟨_, List.getElem?_eq_getElem (by rw [hLT.out]; exact hlt)⟩
                have hcx := HV3.out k x hx
                have HN1 : Hid (mn (k + 1) = min (mn k) x) := by show _ = _; rw [← hmn.out, ← hmn.out, List.take_add_one, hx, List.foldl_append]; rfl
                have HX1 : Hid (mx (k + 1) = max (mx k) x) := by show _ = _; rw [← hmx.out, ← hmx.out, List.take_add_one, hx, List.foldl_append]; rfl
                clear hx
                by_cases h1 : x < mn k
                · by_cases h2 : mx k < x
                  · have HE : Hid (mn (k + 1) = x ∧ mx (k + 1) = x) := ⟨by rw [HN1.out]; omega, by rw [HX1.out]; omega⟩
                    go_wp2_with fail
                    go_roundw
                    case rel => exact ⟨k + 1, by omega, by rw [HE.out.1], by rw [HE.out.2], by go_num, by first | exact (trivial : True) | rfl⟩
                    case measure => first | (simp [intOf]; done) | (simp [intOf]; omega)
                  · have HE : Hid (mn (k + 1) = x ∧ mx (k + 1) = mx k) := ⟨by rw [HN1.out]; omega, by rw [HX1.out]; omega⟩
                    go_wp2_with fail
                    go_roundw
                    case rel => exact ⟨k + 1, by omega, by rw [HE.out.1], by rw [HE.out.2], by go_num, by first | exact (trivial : True) | rfl⟩
                    case measure => first | (simp [intOf]; done) | (simp [intOf]; omega)
                · by_cases h2 : mx k < x
                  · have HE : Hid (mn (k + 1) = mn k ∧ mx (k + 1) = x) := ⟨by rw [HN1.out]; omega, by rw [HX1.out]; omega⟩
                    go_wp2_with fail
                    go_roundw
                    case rel => exact ⟨k + 1, by omega, by rw [HE.out.1], by rw [HE.out.2], by go_num, by first | exact (trivial : True) | rfl⟩
                    case measure => first | (simp [intOf]; done) | (simp [intOf]; omega)
                  · have HE : Hid (mn (k + 1) = mn k ∧ mx (k + 1) = mx k) := ⟨by rw [HN1.out]; omega, by rw [HX1.out]; omega⟩
                    go_wp2_with fail
                    go_roundw
                    case rel => exact ⟨k + 1, by omega, by rw [HE.out.1], by rw [HE.out.2], by go_num, by first | exact (trivial : True) | rfl⟩
                    case measure => first | (simp [intOf]; done) | (simp [intOf]; omega)
              · obtain rfl : k = T := by omega
                have hlz : ¬ (k : Int) < (k : Int) := by omega
                go_wp2_with fail
                go_ret2
                rw [HXY.out.1, HXY.out.2]
                exact ⟨rfl, HB3.out⟩
end Go.Proofs.YtocanjefonlnaaaDoor
