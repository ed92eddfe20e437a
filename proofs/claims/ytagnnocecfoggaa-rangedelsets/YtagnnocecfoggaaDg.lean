/-
  slices.DeleteFunc over pieces.
-/
import Derived.Test.YtagnnocecfoggaaDf
namespace Go.Proofs.Ytagnnocecfoggaa
open Go.RowKit
set_option linter.unusedVariables false
set_option linter.unusedSimpArgs false
def kp (p : Pc) : Bool := !pn p
/-- While pieces are deleted: i are kept of the first j. -/
structure Dl (w wr : World) (g cap : Nat) (ps : List Pc) (i j : Nat) : Prop where
  blk : ∃ cs, Blk wr g 63 cs ∧ cs.length = cap * 3
  kept : ∀ r x, ((ps.take j).filter kp)[r]? = some x → At Pc.c wr g (r * 3) x
  rest : ∀ r x, j ≤ r → ps[r]? = some x → At Pc.c wr g (r * 3) x
  cnt : ((ps.take j).filter kp).length = i
  upd : Upd (fun k => k = g) w wr
theorem Dl.below {w wr wr' : World} {g cap : Nat} {ps : List Pc} {i j : Nat} (h : Dl w wr g cap ps i j) (hb : Below wr.heap.size wr wr') : Dl w wr' g cap ps i j := by
  obtain ⟨cs, h1, h2⟩ := h.blk
  exact ⟨⟨cs, h1.upd (S := Non) (Upd.ofBelow hb) (fun h => h), h2⟩, fun r x hx => (h.kept r x hx).keep fun i v hv => cell_below hb hv, fun r x hr hx => (h.rest r x hr hx).keep fun i v hv => cell_below hb hv, h.cnt, h.upd.trans (Upd.ofBelow hb)⟩
theorem Dl.cell {w wr : World} {g cap : Nat} {ps : List Pc} {i j : Nat} (h : Dl w wr g cap ps i j) (m : Nat) (hm : m < cap * 3) : ∃ u, wr.cell? ⟨g, m, none⟩ = some u := by
  obtain ⟨cs, h1, h2⟩ := h.blk
  exact ⟨cs[m]'(by omega), by rw [h1.cell, List.getElem?_eq_getElem (by omega)]⟩
theorem cell_set_ne {w : World} {g m m' : Nat} (u : Value) (hne : m ≠ m') : (w.setCell ⟨g, m', none⟩ u).cell? ⟨g, m, none⟩ = w.cell? ⟨g, m, none⟩ := by
  unfold World.cell? World.setCell
  simp only [Array.getElem?_modify, if_true]
  cases w.heap[g]? with
  | none => rfl
  | some o =>
    cases o <;> simp [Array.getElem?_setIfInBounds, Ne.symm hne]
theorem Dl.put {w wr : World} {g cap : Nat} {ps : List Pc} {i j : Nat} (h : Dl w wr g cap ps i j) {x : Pc} (hx : ps[j]? = some x) (hp : pn x = false) (hj : j < cap) :
    Dl w (((wr.setCell ⟨g, i * 3, none⟩ (.string x.b)).setCell ⟨g, i * 3 + 1, none⟩ (.string x.e)).setCell ⟨g, i * 3 + 2, none⟩ (.slice x.a x.n x.k)) g cap ps (i + 1) (j + 1) := by
  obtain ⟨cs, h1, h2⟩ := h.blk
  have hij : i ≤ j := by rw [← h.cnt]; exact Nat.le_trans (List.length_filter_le _ _) (by simp; omega)
  have hB := ((h1.set (i * 3) (.string x.b)).set (i * 3 + 1) (.string x.e)).set (i * 3 + 2) (.slice x.a x.n x.k)
  have hkeep : ∀ m v, m < i * 3 ∨ i * 3 + 3 ≤ m → wr.cell? ⟨g, m, none⟩ = some v → (((wr.setCell ⟨g, i * 3, none⟩ (.string x.b)).setCell ⟨g, i * 3 + 1, none⟩ (.string x.e)).setCell ⟨g, i * 3 + 2, none⟩ (.slice x.a x.n x.k)).cell? ⟨g, m, none⟩ = some v := by
    intro m v hm hv
    rw [cell_set_ne _ (by omega), cell_set_ne _ (by omega), cell_set_ne _ (by omega)]; exact hv
  have hf : (ps.take (j + 1)).filter kp = (ps.take j).filter kp ++ [x] := by
    rw [filter_take kp ps j x hx]; simp [kp, hp]
  have hnew : At Pc.c (((wr.setCell ⟨g, i * 3, none⟩ (.string x.b)).setCell ⟨g, i * 3 + 1, none⟩ (.string x.e)).setCell ⟨g, i * 3 + 2, none⟩ (.slice x.a x.n x.k)) g (i * 3) x := by
    intro r v hv
    have hr : r < 3 := (List.getElem?_eq_some_iff.1 hv).1
    have hl : i * 3 + 2 < cs.length := by omega
    rw [hB.cell]
    have : r = 0 ∨ r = 1 ∨ r = 2 := by omega
    rcases this with rfl | rfl | rfl <;> simp [Pc.c] at hv <;> subst hv
    · simp only [Nat.add_zero]
      rw [List.getElem?_set_ne (by omega), List.getElem?_set_ne (by omega), List.getElem?_set_self (by omega)]
    · rw [List.getElem?_set_ne (by omega), List.getElem?_set_self (by simp; omega)]
    · rw [List.getElem?_set_self (by simp; omega)]
  refine ⟨⟨_, hB, by simp [h2]⟩, ?_, ?_, ?_, ?_⟩
  · intro r y hy
    rw [hf] at hy
    rcases Nat.lt_or_ge r i with hri | hri
    · rw [List.getElem?_append_left (by rw [h.cnt]; exact hri)] at hy
      intro q v hv
      have hq : q < 3 := (List.getElem?_eq_some_iff.1 hv).1
      exact hkeep _ _ (.inl (by omega)) (h.kept r y hy q v hv)
    · rw [List.getElem?_append_right (by rw [h.cnt]; exact hri), h.cnt] at hy
      have : r = i := by
        have := (List.getElem?_eq_some_iff.1 hy).1; simp at this; omega
      subst this
      simp at hy; subst hy
      exact hnew
  · intro r y hr hy q v hv
    exact hkeep _ _ (.inr (by omega)) (h.rest r y (by omega) hy q v hv)
  · rw [hf]; simp [h.cnt]
  · exact Upd.setCell (p := ⟨g, i * 3 + 2, none⟩) (Upd.setCell (p := ⟨g, i * 3 + 1, none⟩) (Upd.setCell (p := ⟨g, i * 3, none⟩) h.upd (fun _ => rfl) _) (fun _ => rfl) _) (fun _ => rfl) _
theorem Dl.skip {w wr : World} {g cap : Nat} {ps : List Pc} {i j : Nat} (h : Dl w wr g cap ps i j) {x : Pc} (hx : ps[j]? = some x) (hp : pn x = true) : Dl w wr g cap ps i (j + 1) := by
  have hf : (ps.take (j + 1)).filter kp = (ps.take j).filter kp := by
    rw [filter_take kp ps j x hx]; simp [kp, hp]
  exact ⟨h.blk, by rw [hf]; exact h.kept, fun r y hr hy => h.rest r y (by omega) hy, by rw [hf]; exact h.cnt, h.upd⟩
theorem Dl.start {w wr : World} {base g cap : Nat} {ps : List Pc} (h : RowP wr base (.slice (some ⟨g, 0, none⟩) ps.length cap) ps) (u : Upd (fun k => k = g) w wr) {i : Nat} {x : Pc} (hall : ∀ j t, j < i → ps[j]? = some t → pn t = false) (hx : ps[i]? = some x) (hp : pn x = true) : Dl w wr g cap ps i (i + 1) := by
  obtain ⟨a, c, hv, _, hrd, hoff⟩ := row_rd pc_k h
  cases hv
  have hil : i < ps.length := (List.getElem?_eq_some_iff.1 hx).1
  have hat : ∀ r x, ps[r]? = some x → At Pc.c wr g (r * 3) x := fun r x hr => by
    obtain ⟨g', o', e, hat⟩ := hrd.at_ hr
    cases e
    simpa using hat
  have hf0 : (ps.take i).filter kp = ps.take i := by
    rw [List.filter_eq_self]
    intro y hy
    obtain ⟨j, hj, rfl⟩ := List.getElem_of_mem hy
    simp at hj
    have := hall j ps[j] (by omega) (List.getElem?_eq_getElem (by omega))
    simp [kp, this]
  have hf : (ps.take (i + 1)).filter kp = ps.take i := by
    rw [filter_take kp ps i x hx, hf0]; simp [kp, hp]
  refine ⟨?_, ?_, fun r y _ hy => hat r y hy, by rw [hf]; simp; omega, u⟩
  · rcases h.2 with ⟨e, _⟩ | ⟨g', cap', cur, e, _, hg, _, _, hs, _⟩
    · cases e
    · cases e
      exact ⟨cur.toList, by unfold Blk; simpa using hg, by simpa using hs⟩
  · intro r y hy
    rw [hf] at hy
    have hr : r < i := by have := (List.getElem?_eq_some_iff.1 hy).1; simp at this; omega
    rw [List.getElem?_take_of_lt hr] at hy
    exact hat r y hy
theorem zero63 (w : World) : (zeroValue 63).run Try.prog w = .ok (.agg #[.string ⟨#[]⟩, .string ⟨#[]⟩, .slice none 0 0]) w := by kernel_rfl
theorem Dl.clear {w wr : World} {g cap : Nat} {ps : List Pc} {i : Nat} (h : Dl w wr g cap ps i ps.length) {k c : Nat} (hk : i + k + 1 ≤ cap) (ty : TypeId) :
    ∃ w', (Builtin.clear_ #[23] ty #[.slice (some ⟨g, i * 3, none⟩) (k + 1) c]).run Try.prog wr = .ok (.tuple #[]) w' ∧ Rd Pc.c 3 w' (some ⟨g, 0, none⟩) (ps.filter kp) ∧ Upd (fun k => k = g) w w' ∧ (ps.filter kp).length = i := by
  obtain ⟨cs, h1, h2⟩ := h.blk
  have hkept := h.kept
  have hcnt := h.cnt
  rw [List.take_of_length_le (Nat.le_refl _)] at hkept hcnt
  have hlen : (Builtin.zeroCells (#[.string ⟨#[]⟩, .string ⟨#[]⟩, .slice none 0 0] : Array Value) (k + 1)).toList.length = (k + 1) * 3 := by rw [Array.length_toList, size_zeroCells]; rfl
  have hone : ∀ v ∈ (Builtin.zeroCells (#[.string ⟨#[]⟩, .string ⟨#[]⟩, .slice none 0 0] : Array Value) (k + 1)).toList, v.oneCell' = true := by
    intro v hv
    rw [Array.mem_toList_iff] at hv
    simp only [Builtin.zeroCells, Array.mem_map] at hv
    obtain ⟨r, hr, rfl⟩ := hv
    have : r % 3 = 0 ∨ r % 3 = 1 ∨ r % 3 = 2 := by omega
    rcases this with e | e | e <;> simp [e] <;> rfl
  have hg : wr.heap[g]? = some (.cells cs.toArray 63 (0, 0)) := h1
  obtain ⟨R, hR, hst⟩ : ∃ R : Array Value, (∀ m, m < i * 3 → R[m]? = cs[m]?) ∧ (storeCells ⟨g, i * 3, none⟩ (Builtin.zeroCells (#[.string ⟨#[]⟩, .string ⟨#[]⟩, .slice none 0 0] : Array Value) (k + 1)).toList 0).run Try.prog wr = .ok () (wr.setRow g R) := by
    refine ⟨_, ?_, run_storeCells_at Try.prog g (i * 3) 63 (Builtin.zeroCells (#[.string ⟨#[]⟩, .string ⟨#[]⟩, .slice none 0 0] : Array Value) (k + 1)).toList 0 cs.toArray wr hg (by rw [hlen]; simp; omega) hone⟩
    intro m hm
    rw [List.getElem?_toArray, List.append_assoc, List.getElem?_append_left (by simp; omega), Nat.add_zero, List.getElem?_take_of_lt hm]
  refine ⟨wr.setRow g R, by simp [Builtin.clear_, run_underlying Try.underlying23, zero63, Value.cells, hst], .inr ⟨g, 0, rfl, fun r x hx q v hv => ?_⟩, ?_, hcnt⟩
  · have hr : r < i := by rw [← hcnt]; exact (List.getElem?_eq_some_iff.1 hx).1
    have hq : q < 3 := (List.getElem?_eq_some_iff.1 hv).1
    have h0 := hkept r x hx q v hv
    rw [Nat.zero_add]
    have hB : (wr.setRow g R).heap[g]? = some (.cells R 63 (0, 0)) := setRow_heap wr g cs.toArray R 63 (0, 0) hg
    have e1 : (wr.setRow g R).cell? ⟨g, r * 3 + q, none⟩ = R[r * 3 + q]? := by simp [World.cell?, hB]
    rw [e1, hR _ (by omega), ← h1.cell]; exact h0
  · exact h.upd.trans ⟨rfl, rfl, rfl, by unfold World.setRow; simp, fun j _ hj => setRow_other wr g j R hj⟩
set_option maxRecDepth 100000 in
set_option maxHeartbeats 2000000 in
theorem delete_any {w : World} {base : Nat} {v : Value} {ps : List Pc} (h : RowP w base v ps) (hl : ps.length ≤ 10000) :
    Calls Try.prog 55 #[v, pnv] w fun e w' => ∃ a c, e = .returned (.slice a (ps.filter kp).length c) ∧ (ps.filter kp).length ≤ c ∧ Rd Pc.c 3 w' a (ps.filter kp) ∧ Upd (fun k => v.ownBlock = some k) w w' := by
  obtain ⟨a, cap, hv, hcap, hrd, hoff⟩ := row_rd pc_k h
  have HI := index_any (cap := cap) hrd hl
  unfold idxZ at HI
  by_cases hx : ps.findIdx pn < ps.length
  · rw [if_pos hx] at HI
    obtain ⟨g, hvg⟩ : ∃ g, v = .slice (some ⟨g, 0, none⟩) ps.length cap := by
      obtain ⟨g, c, e⟩ : ∃ g c, v = .slice (some ⟨g, 0, none⟩) ps.length c := by
        rcases h.2 with ⟨_, h0⟩ | ⟨g, cap, cur, e, _⟩
        · omega
        · exact ⟨g, cap, e⟩
      rw [hv] at e
      injection e with e1 _ _
      exact ⟨g, by rw [hv, e1]⟩
    obtain ⟨x, hxx⟩ : ∃ x, ps[ps.findIdx pn]? = some x := ⟨_, List.getElem?_eq_getElem hx⟩
    have hpx : pn x = true := by
      have := List.findIdx_getElem (w := hx)
      rw [List.getElem?_eq_getElem hx] at hxx
      cases hxx; exact this
    have hall : ∀ j t, j < ps.findIdx pn → ps[j]? = some t → pn t = false := fun j t hj ht => by
      have := List.not_of_lt_findIdx hj
      obtain ⟨h1, h2⟩ := List.getElem?_eq_some_iff.1 ht
      subst h2; simpa using this
    rw [hvg] at h
    have HD : Hid (∀ w1, Below w.heap.size w w1 → Dl w w1 g cap ps (ps.findIdx pn) (ps.findIdx pn + 1)) := fun w1 hb => (Dl.start (w := w) h (Upd.refl _ _) hall hxx hpx).below hb
    have HIc : Hid (Calls Try.prog 68 #[v, pnv] w fun e w' => e = .returned (.int .i64 (ps.findIdx pn)) ∧ Below w.heap.size w w') := by rw [hv]; exact HI
    rw [hvg] at HIc ⊢
    generalize hi0 : ps.findIdx pn = i0 at *
    obtain ⟨N, hN⟩ : ∃ N, Hid (N = ps.length) := ⟨_, rfl⟩
    rw [← hN.out] at hl hcap HIc hx ⊢
    clear h hv hvg hrd hoff HI hall hxx hpx
    have hne1 : ((i0 : Int) == -1) = false := by simp
    have hwi : IntKind.i64.wrap ((i0 : Int) + 1) = (i0 : Int) + 1 := by rw [IntKind.wrap_i64]; omega
    go_enter Try.func55, Try.ntmps55
    go_wp2_with (go_at_call 68; refine HIc.out.mono ?_; rintro e w1 ⟨rfl, hb1⟩; have HD1 := HD.out w1 hb1; clear hb1)
    go_loopw [5, 6] (fun s5 s6 wr => ∃ i j : Nat, i < j ∧ j ≤ N ∧ s5 = .int .i64 i ∧ s6 = .int .i64 j ∧ Hid (Dl w wr g cap ps i j)) (fun _ s6 _ => ((N : Int) - intOf s6).toNat)
    case atStart => exact ⟨i0, i0 + 1, Nat.lt_succ_self _, hx, rfl, by first | rfl | simp, HD1⟩
    case round =>
      obtain ⟨i, j, hij, hjN, rfl, rfl, HB⟩ := hrel
      rcases Nat.lt_or_ge j N with hjN' | hjN'
      · have hjz : (j : Int) < N := by omega
        have hiz : (i : Int) < N := by omega
        obtain ⟨x, hx⟩ : ∃ x, ps[j]? = some x := ⟨ps[j]'(by rw [← hN.out]; omega), List.getElem?_eq_getElem _⟩
        obtain ⟨t0, t1, t2⟩ := (HB.out.rest j x (Nat.le_refl _) hx).p
        have HC : Hid (∀ W, Calls Try.prog 56 #[x.v] W fun e w' => e = .returned (.bool (pn x)) ∧ w' = W.alloc (.cells #[.string x.b, .string x.e, .slice x.a x.n x.k] 63)) := fun W => isnone_any W x
        have hb1 : Below wr.heap.size wr ((wr.alloc (.cells #[.string x.b, .string x.e, .slice x.a x.n x.k] 63)).alloc (.cells #[.string x.b, .string x.e, .slice x.a x.n x.k] 63)) := ((Below.refl _ _).alloc (Nat.le_refl _) _).alloc (by simp) _
        have HB1 : Hid (Dl w ((wr.alloc (.cells #[.string x.b, .string x.e, .slice x.a x.n x.k] 63)).alloc (.cells #[.string x.b, .string x.e, .slice x.a x.n x.k] 63)) g cap ps i j) := HB.out.below hb1
        have HX : Hid (ps[j]? = some x) := hx
        have hBn : Blk ((wr.alloc (.cells #[.string x.b, .string x.e, .slice x.a x.n x.k] 63)).alloc (.cells #[.string x.b, .string x.e, .slice x.a x.n x.k] 63)) wr.heap.size 63 x.c := (Blk.new wr 63 x.c).alloc _
        obtain ⟨u0, c0⟩ := HB1.out.cell (i * 3) (by omega)
        obtain ⟨u1, c1⟩ := HB1.out.cell (i * 3 + 1) (by omega)
        obtain ⟨u2, c2⟩ := HB1.out.cell (i * 3 + 2) (by omega)
        obtain ⟨cs, hcs, _⟩ := HB1.out.blk
        have f0 := hcs.frozen (i * 3)
        have f1 := hcs.frozen (i * 3 + 1)
        have f2 := hcs.frozen (i * 3 + 2)
        have b0 := hBn.cell1 0 _ rfl
        have b1 := hBn.cell1 1 _ rfl
        have b2 := hBn.cell1 2 _ rfl
        clear hx hcs hBn hb1
        cases hp : pn x
        · rw [hp] at HC
          go_wp2_with (go_at_call 56; refine (HC.out _).mono ?_; rintro e w2 ⟨rfl, hw2⟩; rw [← hw2] at HB1 c0 c1 c2 f0 f1 f2 b0 b1 b2; clear hw2)
          go_roundw
          case rel => exact ⟨i + 1, j + 1, by omega, by omega, by go_num, by go_num, HB1.out.put HX.out hp (by omega)⟩
          case measure => simp [intOf]; omega
        · rw [hp] at HC
          clear c0 c1 c2 f0 f1 f2 b0 b1 b2
          go_wp2_with (go_at_call 56; refine (HC.out _).mono ?_; rintro e w2 ⟨rfl, hw2⟩; rw [← hw2] at HB1; clear hw2)
          go_roundw
          case rel => exact ⟨i, j + 1, by omega, by omega, rfl, by go_num, HB1.out.skip HX.out hp⟩
          case measure => simp [intOf]; omega
      · obtain rfl : j = N := by omega
        have hz : ¬ ((j : Int) < j) := by omega
        obtain ⟨k, hk⟩ : ∃ k, j = i + k + 1 := ⟨j - i - 1, by omega⟩
        have HB' := HB.out
        rw [hN.out] at HB'
        obtain ⟨w9, hr9, p1, p2, p3⟩ := HB'.clear (k := k) (c := cap - i) (by omega) 0
        have P : Hid (Rd Pc.c 3 w9 (some ⟨g, 0, none⟩) (ps.filter kp) ∧ Upd (fun k => k = g) w w9 ∧ (ps.filter kp).length = i) := ⟨p1, p2, p3⟩
        rw [show k + 1 = j - i by omega] at hr9
        have hic : (i : Int) < cap := by omega
        have hij' : (i : Int) ≤ j := by omega
        have hjc : (j : Int) ≤ cap := by omega
        have hic' : (i : Int) ≤ cap := by omega
        clear p1 p2 p3 HB' hk
        go_wp2_with fail
        go_ret
        refine ⟨some ⟨g, 0, none⟩, cap, ?_, ?_, P.out.1, P.out.2.1.mono (fun j _ hj => by rw [hj]; rfl)⟩
        · rw [P.out.2.2]
          rfl
        · rw [P.out.2.2]; omega
  · rw [if_neg hx] at HI
    have hf : ps.filter kp = ps := by
      rw [List.filter_eq_self]
      intro y hy
      have hno : ¬ ∃ x ∈ ps, pn x = true := by rw [← List.findIdx_lt_length]; exact hx
      cases hpy : pn y
      · simp [kp, hpy]
      · exact absurd ⟨y, hy, hpy⟩ hno
    have HP : Hid (∀ w1, Below w.heap.size w w1 → Rd Pc.c 3 w1 a (ps.filter kp) ∧ Upd (fun k => v.ownBlock = some k) w w1) := fun w1 hb => ⟨by rw [hf]; exact hrd.below hb, Upd.ofBelow hb⟩
    have HF : Hid ((ps.filter kp).length = ps.length) := by show _ = _; rw [hf]
    rw [hv] at HP ⊢
    generalize hN : ps.length = N at *
    clear h hv hrd hoff hx
    go_enter Try.func55, Try.ntmps55
    go_wp2_with (go_at_call 68; refine HI.mono ?_; rintro e w1 ⟨rfl, hb1⟩; have HP1 : Hid (Rd Pc.c 3 w1 a (ps.filter kp) ∧ Upd (fun k => (Value.slice a N cap).ownBlock = some k) w w1) := HP.out w1 hb1; clear hb1)
    go_ret
    rw [HF.out]
    exact ⟨a, cap, rfl, hcap, HP1.out⟩
end Go.Proofs.Ytagnnocecfoggaa
