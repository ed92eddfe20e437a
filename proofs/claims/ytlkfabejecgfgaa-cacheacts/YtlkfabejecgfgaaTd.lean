/-
  The cache of strings: contracts of the same functions at the other type.
-/
import Derived.Test.YtlkfabejecgfgaaTc
import Derived.Deep.DeepCutAuto
namespace Go.Proofs.Ytlkfabejecgfgaa.S
open Go.RowKit Go.Maps
set_option linter.unusedVariables false
set_option linter.unusedSimpArgs false
/-- A new entry, in no map and no queue. -/
theorem Sm.addE {w : World} {rb o mb : Nat} {rc : List Value} {ad : Nat → Nat} {x : Xs} (h : Sm w rb o mb rc ad x) (e : En) (he : e.key.size ≤ maxLen ∧ e.chg < 18446744073709551616 ∧ e.pins < 4611686018427387904) :
    Sm (w.alloc (.cells (enC e none none).toArray 111)) rb o mb rc (fset ad x.ent.length w.heap.size) (addE x e) := by
  have hlt : ∀ a, a < x.ent.length → fset ad x.ent.length w.heap.size a = ad a := fun a ha => by unfold fset; rw [if_neg (by omega)]
  have hnq : x.ent.length ∉ x.q := fun hh => by have := h.qr _ hh; omega
  have hbl : ∀ j, j < x.ent.length → ad j < w.heap.size := fun j hj => (h.ent j _ (List.getElem?_eq_getElem hj)).lt
  refine ⟨h.row.alloc _, ?_, ?_, ?_, ?_, h.nd, ?_, ?_, h.ub, h.pb, ?_⟩
  · have e1 : shC mb (fset ad x.ent.length w.heap.size) (Ytlkfabejecgfgaa.addE x e) = shC mb ad x := by
      unfold shC Ytlkfabejecgfgaa.addE
      simp only []
      rw [map_congr (o := x.q.head?) (g := ad) (fun a ha => hlt a (h.qr a (List.mem_of_mem_head? ha))), map_congr (o := x.q.getLast?) (g := ad) (fun a ha => hlt a (h.qr a (List.mem_of_getLast? ha)))]
    rw [e1]; exact h.cel
  · obtain ⟨D, hD, hs⟩ := h.map
    refine ⟨D, ?_, hs⟩
    have e1 : (fun k => ((Ytlkfabejecgfgaa.addE x e).f k).map (fset ad x.ent.length w.heap.size)) = fun k => (x.f k).map ad := by
      funext k
      exact map_congr (o := x.f k) (fun a ha => hlt a (h.fr k a ha))
    rw [e1]
    exact hD.upd (Upd.alloc (Upd.refl Non w) _) (fun e => e)
  · intro j e' hj
    unfold Ytlkfabejecgfgaa.addE at hj ⊢
    simp only [] at hj ⊢
    by_cases c : j < x.ent.length
    · rw [List.getElem?_append_left c] at hj
      rw [hlt j c, map_congr (o := prv x.q j) (g := ad) (fun a ha => hlt a (h.qr a (prv_mem ha))), map_congr (o := nxt x.q j) (g := ad) (fun a ha => hlt a (h.qr a (nxt_mem ha)))]
      exact (h.ent j e' hj).alloc _
    · have hj' : j = x.ent.length := by
        have := lt_of_get hj
        simp at this; omega
      subst hj'
      simp at hj
      subst hj
      rw [prv_not hnq, nxt_not hnq]
      unfold fset
      rw [if_pos rfl]
      exact Blk.new w 111 _
  · intro a b ha hb hab
    unfold Ytlkfabejecgfgaa.addE at ha hb
    simp only [List.length_append, List.length_cons, List.length_nil] at ha hb
    unfold fset at hab
    split at hab <;> split at hab
    · omega
    · have := hbl b (by omega); omega
    · have := hbl a (by omega); omega
    · exact h.inj a b (by omega) (by omega) hab
  · intro j hj
    have := h.qr j hj
    unfold Ytlkfabejecgfgaa.addE; simp only [List.length_append, List.length_cons, List.length_nil]; omega
  · intro k j hj
    have := h.fr k j hj
    unfold Ytlkfabejecgfgaa.addE; simp only [List.length_append, List.length_cons, List.length_nil]; omega
  · intro j e' hj
    unfold Ytlkfabejecgfgaa.addE at hj
    simp only [] at hj
    by_cases c : j < x.ent.length
    · rw [List.getElem?_append_left c] at hj
      exact h.wk j e' hj
    · have hj' : j = x.ent.length := by
        have := lt_of_get hj
        simp at this; omega
      subst hj'
      simp at hj
      subst hj
      exact he
theorem Ca.shard2 {w w' : World} {L : Lo} {s : Cs} (h : Ca w L s) (c : Ci s) {i : Nat} {x x' : Xs} {rc rc' : List Value} {ad : Nat → Nat} (hi : s.xs[i]? = some x) (hrc : ∀ (i : Nat) (x : Xs), s.xs[i]? = some x → Sm w L.rb (i * 7) (L.mbs i) rc (L.ads i) x) (hrl : rc.length = s.xs.length * 7)
    (S' : Sm w' L.rb (i * 7) (L.mbs i) rc' ad x') (had : ∀ j, j < x.ent.length → ad j = L.ads i j) (hnew : ∀ j, j < x'.ent.length → j < x.ent.length ∨ w.heap.size ≤ ad j) (hK : Kp (i * 7) rc rc') (hU : Upd (Sb L.rb (L.mbs i) (L.ads i) x.ent.length) w w') :
    Ca w' (L.with i ad) { s with xs := s.xs.set i x' } := by
  have hil := (List.getElem?_eq_some_iff.1 hi).1
  have hsame : ∀ a, a ≠ i → (L.with i ad).ads a = L.ads a := fun a ha => by unfold Lo.with; simp only [if_neg ha]
  have hat : (L.with i ad).ads i = ad := by unfold Lo.with; simp
  refine ⟨?_, ⟨rc', by rw [hK.1, hrl]; simp, ?_⟩, ?_, ?_, ?_, ?_⟩
  · have := h.blk.upd hU (fun hk => (h.ne1 hi hk).1 rfl)
    unfold caC at this ⊢
    simpa [Lo.with] using this
  · intro i' y hy
    simp only [xget hi] at hy
    by_cases cc : i' = i
    · subst cc
      rw [if_pos rfl] at hy
      cases hy
      rw [hat]
      exact S'
    · rw [if_neg cc] at hy
      rw [hsame i' cc]
      have S := hrc i' y hy
      have hil' := (List.getElem?_eq_some_iff.1 hy).1
      obtain ⟨D, hD, hs⟩ := S.map
      refine ⟨S'.row, ?_, ⟨D, hD.upd hU ?_, hs⟩, S.ent.upd hU ?_, S.inj, S.nd, S.qr, S.fr, S.ub, S.pb, S.wk⟩
      · intro j v hv
        have hj : j < 7 := by
          have := (List.getElem?_eq_some_iff.1 hv).1
          simpa [shC] using this
        rw [hK.2 _ (by omega)]
        exact S.cel j v hv
      · rintro (e | e | ⟨j, hj, e⟩)
        · exact cc (h.mm _ _ hil' hil e)
        · exact hD.ne S.row e
        · exact hD.ne ((hrc i x hi).ent j _ (List.getElem?_eq_getElem hj)) e
      · rintro j hj (e | e | ⟨j', hj', e⟩)
        · obtain ⟨D', hD', _⟩ := (hrc i x hi).map
          exact hD'.ne (S.ent j _ (List.getElem?_eq_getElem hj)) e.symm
        · exact (S.ent.rb S.row hj) e.symm
        · exact h.aa i' i y x j j' hy hi hj hj' cc e
  · obtain ⟨D, hD, hs⟩ := h.pin
    refine ⟨D, ?_, hs⟩
    have e1 : (fun k => (({ s with xs := s.xs.set i x' } : Cs).pin k).map (fun ij => (L.with i ad).ads ij.1 ij.2)) = fun k => (s.pin k).map (fun ij => L.ads ij.1 ij.2) := by
      funext k
      have e2 : ({ s with xs := s.xs.set i x' } : Cs).pin k = s.pin k := rfl
      rw [e2]
      cases hp : s.pin k with
      | none => rfl
      | some ij =>
        obtain ⟨a, b⟩ := ij
        simp only [Option.map_some]
        by_cases cc : a = i
        · subst cc
          obtain ⟨y, hy, hb⟩ := c.pr a b (List.mem_of_getElem? (pin_I64 hp).2.2)
          rw [hi] at hy; cases hy
          rw [hat, had b hb]
        · rw [hsame a cc]
    rw [e1]
    exact hD.upd hU (fun hk => (h.ne1 hi hk).2 rfl)
  · simpa [Lo.with] using h.mm
  · simpa [Lo.with] using h.mp
  · have hold : ∀ (a : Nat) (y : Xs) (j : Nat), a ≠ i → s.xs[a]? = some y → j < y.ent.length → L.ads a j < w.heap.size := fun a y j _ hy hj => ((hrc a y hy).ent j _ (List.getElem?_eq_getElem hj)).lt
    have main : ∀ (a : Nat) (y : Xs) (j j' : Nat), a ≠ i → s.xs[a]? = some y → j < y.ent.length → j' < x'.ent.length → L.ads a j ≠ ad j' := by
      intro a y j j' ha hy hj hj'
      rcases hnew j' hj' with h1 | h1
      · rw [had j' h1]; exact h.aa a i y x j j' hy hi hj h1 ha
      · have := hold a y j ha hy hj; omega
    intro a b y z j j' ha hb hj hj' hab
    simp only [xget hi] at ha hb
    by_cases ca : a = i
    · subst ca
      rw [if_pos rfl] at ha
      cases ha
      rw [if_neg (Ne.symm hab)] at hb
      rw [hat, hsame b (Ne.symm hab)]
      exact (main b z j' j (Ne.symm hab) hb hj' hj).symm
    · rw [if_neg ca] at ha
      rw [hsame a ca]
      by_cases cb : b = i
      · subst cb
        rw [if_pos rfl] at hb
        cases hb
        rw [hat]
        exact main a y j j' ca ha hj hj'
      · rw [if_neg cb] at hb
        rw [hsame b cb]
        exact h.aa a b y z j j' ha hb hj hj' hab
section
variable {w : World} {L : Lo} {s : Cs}
set_option maxRecDepth 100000 in
set_option maxHeartbeats 2000000 in
theorem put_cache (h : Ca w L s) (c : Ci s) {k : ByteArray} {z : ByteArray} {ch : Nat} (hc : ch < 18446744073709551616) (hk : ¬ 1024 < k.size) (hP : s.P.length < 1152921504606846976) :
    Calls Try.prog 24 #[.pointer (some ⟨L.cb, 0, none⟩), .string k, .string z, .int .u64 ch] w fun e w' => e = .returned (.tuple #[.int .i64 (putC s k (.string z) ch).1, .int .i64 (putC s k (.string z) ch).2.1]) ∧
      ∃ L', Ca w' L' (putC s k (.string z) ch).2.2 ∧ Upd (Cb L s) w w' ∧ Ext w L L' s (putC s k (.string z) ch).2.2 := by
  have hk9 : k.size ≤ maxLen := by unfold maxLen; omega
  have hk' : ¬ (1024 : Int) < k.size := by omega
  have HO := of_any h c hk9
  have hi := c.ix k.data.toList
  obtain ⟨rc, hrl, hS⟩ := h.drew.row
  have S := hS _ _ hi
  have I := c.iv _ _ hi
  have eix : shd s.xs.length k.data.toList = s.ix k.data.toList := rfl
  rw [eix] at HO
  have h0 : ∀ j, j ∈ (s.x (s.ix k.data.toList)).q → ∃ e, (s.x (s.ix k.data.toList)).ent[j]? = some e ∧ e.pins = 0 := fun j hj => by
    obtain ⟨e, h1, h2, _⟩ := (I.qe j).1 hj
    exact ⟨e, h1, h2⟩
  have HM := makeRoom_any S h0 hc c.rb
  have hX : roomX ch s.r (s.x (s.ix k.data.toList)).q.length (s.x (s.ix k.data.toList)) = s.rm (s.ix k.data.toList) ch := rfl
  rw [hX] at HM
  obtain ⟨I1, he1⟩ := Iv.room ch s.r (s.x (s.ix k.data.toList)).q.length _ I
  rw [hX] at I1 he1
  have hel := c.el _ _ hi
  have c1 := h.blk.cell1 1 _ rfl
  unfold putC
  rw [if_neg hk]
  clear h0 eix hX
  generalize s.ix k.data.toList = i at *
  generalize s.rm i ch = x1 at *
  have HOM : ∀ b, (s.st = b) → Hid (s.st = b) := fun b hb => hb
  cases hst : s.st with
  | false =>
    rw [Bool.false_and, if_neg (by simp)]
    simp only []
    go_enter Try.func24, Try.ntmps24
    go_upto_region 7 with (first
      | (go_at_call 50; refine HO.mono ?_; rintro e w1 ⟨rfl, hw⟩; have hw' := hw.symm; subst hw')
      | (go_at_call 51; refine HM.mono ?_; rintro e w2 ⟨rfl, rc2, S2, K2, U2⟩
         have C2 := h.drew.shard hi hS hrl S2 (by rw [he1]) K2 U2
         have HE := exceeds_any S2 hc c.rb
         have d1 := C2.blk.cell1 1 _ rfl
         have d2 : w2.cell? ⟨L.cb, 2, none⟩ = some (.bool s.st) := C2.blk.cell1 2 _ rfl
         rw [hst] at d2
         clear c1 HM HO))
    have S3 := S2.addE ⟨k, .string z, ch, 0⟩ ⟨hk9, hc, by simp only []; omega⟩
    have ean : fset (L.ads i) x1.ent.length w2.heap.size x1.ent.length = w2.heap.size := by unfold fset; rw [if_pos rfl]
    have HP := put_any S3 (n := x1.ent.length) (e := ⟨k, .string z, ch, 0⟩) (by unfold addE; simp) (fun j hj => (I1.add _).old hj) (by
      have := I1.ct; have : maxLen = 9223372036854775807 := rfl
      show x1.cnt + 1 < maxLen
      rw [he1] at *; omega)
    rw [ean] at HP
    have eput : put1 (addE x1 ⟨k, .string z, ch, 0⟩) x1.ent.length = putX x1 k (.string z) ch := rfl
    rw [eput] at HP
    have hpe := (I1.put k (.string z) ch).2
    have hlt : ∀ a, a < x1.ent.length → fset (L.ads i) x1.ent.length w2.heap.size a = L.ads i a := fun a ha => by unfold fset; rw [if_neg (by omega)]
    clear HE
    go_wp2_with (first
      | (go_at_call 53; refine HP.mono ?_; rintro e w4 ⟨rfl, rc4, S4, K4, U4⟩
         have U3 := U2.alloc (.cells (enC ⟨k, .string z, ch, 0⟩ none none).toArray 111)
         have U5 : Upd (Sb L.rb (L.mbs i) (L.ads i) (s.x i).ent.length) w.drew w4 := U3.then U4 (fun a ha hs => by
           rcases hs with e | e | ⟨j, hj, e⟩
           · exact .inl e
           · exact .inr (.inl e)
           · unfold addE at hj
             simp only [List.length_append, List.length_cons, List.length_nil] at hj
             by_cases cj : j < x1.ent.length
             · rw [hlt j cj] at e
               exact .inr (.inr ⟨j, by rw [← he1]; exact cj, e⟩)
             · have : j = x1.ent.length := by omega
               subst this
               rw [ean] at e
               have := U2.size
               omega)
         have C4 := h.drew.shard2 c hi hS hrl S4 (fun j hj => hlt j (by rw [he1]; exact hj)) (fun j hj => by
           rw [hpe] at hj
           simp only [List.length_append, List.length_cons, List.length_nil] at hj
           by_cases cj : j < x1.ent.length
           · exact .inl (by rw [← he1]; exact cj)
           · have : j = x1.ent.length := by omega
             subst this
             rw [ean]
             exact .inr U2.size) (K2.trans K4) U5
         have HG := give_any C4 (i, x1.ent.length) (by simp only []; omega)
         have eb : ((L.with i (fset (L.ads i) x1.ent.length w2.heap.size)).ads (i, x1.ent.length).fst (i, x1.ent.length).snd) = w2.heap.size := by
           unfold Lo.with; simp only [if_pos]; exact ean
         rw [eb] at HG
         clear HP eb)
      | (go_at_call 54; refine HG.mono ?_; rintro e w5 ⟨rfl, C5, U6⟩))
    refine bodyPost_ret (v := .tuple #[.int .i64 ((s.P.length : Int) + 1), .int .i64 0]) (by simp [results, Try.results24, go_sem]) rfl ⟨rfl, _, C5, ?_, ?_⟩
    · exact (Upd.drew (Upd.refl _ _)).trans ((U5.mono (fun a _ ha => Cb.sub hi ha)).trans (U6.mono (fun a _ ha => ha.elim .inl (fun e => .inr (.inl e)))))
    · refine ⟨rfl, fun a ha => ?_⟩
      rcases ha with e | e | ⟨b, y, hy, hb⟩
      · exact .inl (.inl e)
      · exact .inl (.inr (.inl e))
      · have hy' : (s.xs.set i (putX x1 k (.string z) ch))[b]? = some y := hy
        rw [xget hi] at hy'
        by_cases cb : b = i
        · subst cb
          rw [if_pos rfl] at hy'
          cases hy'
          rcases hb with e | e | ⟨j, hj, e⟩
          · exact .inl (Cb.sub hi (.inl e))
          · exact .inl (Cb.sub hi (.inr (.inl e)))
          · rw [hpe] at hj
            simp only [List.length_append, List.length_cons, List.length_nil] at hj
            have e' : a = fset (L.ads b) x1.ent.length w2.heap.size j := by
              rw [e]; unfold Lo.with; simp
            by_cases cj : j < x1.ent.length
            · rw [hlt j cj] at e'
              exact .inl (Cb.sub hi (.inr (.inr ⟨j, by rw [← he1]; exact cj, e'⟩)))
            · have : j = x1.ent.length := by omega
              subst this
              rw [ean] at e'
              exact .inr (by rw [e']; exact U2.size)
        · rw [if_neg cb] at hy'
          refine .inl (Cb.sub hy' ?_)
          have e1 : (L.with i (fset (L.ads i) x1.ent.length w2.heap.size)).ads b = L.ads b := by unfold Lo.with; simp only [if_neg cb]
          rw [e1] at hb
          exact hb
  | true =>
    cases hex : excX x1 ch s.r with
    | true =>
      rw [Bool.true_and, if_pos rfl]
      simp only []
      go_enter Try.func24, Try.ntmps24
      go_wp2_with (first
        | (go_at_call 50; refine HO.mono ?_; rintro e w1 ⟨rfl, hw⟩; have hw' := hw.symm; subst hw')
        | (go_at_call 51; refine HM.mono ?_; rintro e w2 ⟨rfl, rc2, S2, K2, U2⟩
           have C2 := h.drew.shard hi hS hrl S2 (by rw [he1]) K2 U2
           have HE := exceeds_any S2 hc c.rb
           rw [hex] at HE
           have d1 := C2.blk.cell1 1 _ rfl
           have d2 : w2.cell? ⟨L.cb, 2, none⟩ = some (.bool s.st) := C2.blk.cell1 2 _ rfl
           rw [hst] at d2
           clear c1 HM HO)
        | (go_at_call 52; refine HE.mono ?_; rintro e w3 ⟨rfl, hw⟩; have hw' := hw.symm; subst hw'))
      refine bodyPost_ret (v := .tuple #[.int .i64 0, .int .i64 110]) (by simp [results, Try.results24, go_sem]) rfl ⟨rfl, L, C2, ?_, rfl, ?_⟩
      · exact (Upd.drew (Upd.refl _ _)).trans (U2.mono (fun a _ ha => Cb.sub hi ha))
      · rintro a (e | e | ⟨b, y, hy, hb⟩)
        · exact .inl (.inl e)
        · exact .inl (.inr (.inl e))
        · have hy' : (s.xs.set i x1)[b]? = some y := hy
          rw [xget hi] at hy'
          by_cases cb : b = i
          · subst cb
            rw [if_pos rfl] at hy'
            cases hy'
            rw [he1] at hb
            exact .inl (Cb.sub hi hb)
          · rw [if_neg cb] at hy'
            exact .inl (Cb.sub hy' hb)
    | false =>
      rw [Bool.and_false, if_neg (by simp)]
      simp only []
      go_enter Try.func24, Try.ntmps24
      go_upto_region 7 with (first
        | (go_at_call 50; refine HO.mono ?_; rintro e w1 ⟨rfl, hw⟩; have hw' := hw.symm; subst hw')
        | (go_at_call 51; refine HM.mono ?_; rintro e w2 ⟨rfl, rc2, S2, K2, U2⟩
           have C2 := h.drew.shard hi hS hrl S2 (by rw [he1]) K2 U2
           have HE := exceeds_any S2 hc c.rb
           rw [hex] at HE
           have d1 := C2.blk.cell1 1 _ rfl
           have d2 : w2.cell? ⟨L.cb, 2, none⟩ = some (.bool s.st) := C2.blk.cell1 2 _ rfl
           rw [hst] at d2
           clear c1 HM HO)
        | (go_at_call 52; refine HE.mono ?_; rintro e w3 ⟨rfl, hw⟩; have hw' := hw.symm; subst hw'))
      have S3 := S2.addE ⟨k, .string z, ch, 0⟩ ⟨hk9, hc, by simp only []; omega⟩
      have ean : fset (L.ads i) x1.ent.length w2.heap.size x1.ent.length = w2.heap.size := by unfold fset; rw [if_pos rfl]
      have HP := put_any S3 (n := x1.ent.length) (e := ⟨k, .string z, ch, 0⟩) (by unfold addE; simp) (fun j hj => (I1.add _).old hj) (by
        have := I1.ct; have : maxLen = 9223372036854775807 := rfl
        show x1.cnt + 1 < maxLen
        rw [he1] at *; omega)
      rw [ean] at HP
      have eput : put1 (addE x1 ⟨k, .string z, ch, 0⟩) x1.ent.length = putX x1 k (.string z) ch := rfl
      rw [eput] at HP
      have hpe := (I1.put k (.string z) ch).2
      have hlt : ∀ a, a < x1.ent.length → fset (L.ads i) x1.ent.length w2.heap.size a = L.ads i a := fun a ha => by unfold fset; rw [if_neg (by omega)]
      clear HE
      go_wp2_with (first
        | (go_at_call 53; refine HP.mono ?_; rintro e w4 ⟨rfl, rc4, S4, K4, U4⟩
           have U3 := U2.alloc (.cells (enC ⟨k, .string z, ch, 0⟩ none none).toArray 111)
           have U5 : Upd (Sb L.rb (L.mbs i) (L.ads i) (s.x i).ent.length) w.drew w4 := U3.then U4 (fun a ha hs => by
             rcases hs with e | e | ⟨j, hj, e⟩
             · exact .inl e
             · exact .inr (.inl e)
             · unfold addE at hj
               simp only [List.length_append, List.length_cons, List.length_nil] at hj
               by_cases cj : j < x1.ent.length
               · rw [hlt j cj] at e
                 exact .inr (.inr ⟨j, by rw [← he1]; exact cj, e⟩)
               · have : j = x1.ent.length := by omega
                 subst this
                 rw [ean] at e
                 have := U2.size
                 omega)
           have C4 := h.drew.shard2 c hi hS hrl S4 (fun j hj => hlt j (by rw [he1]; exact hj)) (fun j hj => by
             rw [hpe] at hj
             simp only [List.length_append, List.length_cons, List.length_nil] at hj
             by_cases cj : j < x1.ent.length
             · exact .inl (by rw [← he1]; exact cj)
             · have : j = x1.ent.length := by omega
               subst this
               rw [ean]
               exact .inr U2.size) (K2.trans K4) U5
           have HG := give_any C4 (i, x1.ent.length) (by simp only []; omega)
           have eb : ((L.with i (fset (L.ads i) x1.ent.length w2.heap.size)).ads (i, x1.ent.length).fst (i, x1.ent.length).snd) = w2.heap.size := by
             unfold Lo.with; simp only [if_pos]; exact ean
           rw [eb] at HG
           clear HP eb)
        | (go_at_call 54; refine HG.mono ?_; rintro e w5 ⟨rfl, C5, U6⟩))
      refine bodyPost_ret (v := .tuple #[.int .i64 ((s.P.length : Int) + 1), .int .i64 0]) (by simp [results, Try.results24, go_sem]) rfl ⟨rfl, _, C5, ?_, ?_⟩
      · exact (Upd.drew (Upd.refl _ _)).trans ((U5.mono (fun a _ ha => Cb.sub hi ha)).trans (U6.mono (fun a _ ha => ha.elim .inl (fun e => .inr (.inl e)))))
      · refine ⟨rfl, fun a ha => ?_⟩
        rcases ha with e | e | ⟨b, y, hy, hb⟩
        · exact .inl (.inl e)
        · exact .inl (.inr (.inl e))
        · have hy' : (s.xs.set i (putX x1 k (.string z) ch))[b]? = some y := hy
          rw [xget hi] at hy'
          by_cases cb : b = i
          · subst cb
            rw [if_pos rfl] at hy'
            cases hy'
            rcases hb with e | e | ⟨j, hj, e⟩
            · exact .inl (Cb.sub hi (.inl e))
            · exact .inl (Cb.sub hi (.inr (.inl e)))
            · rw [hpe] at hj
              simp only [List.length_append, List.length_cons, List.length_nil] at hj
              have e' : a = fset (L.ads b) x1.ent.length w2.heap.size j := by
                rw [e]; unfold Lo.with; simp
              by_cases cj : j < x1.ent.length
              · rw [hlt j cj] at e'
                exact .inl (Cb.sub hi (.inr (.inr ⟨j, by rw [← he1]; exact cj, e'⟩)))
              · have : j = x1.ent.length := by omega
                subst this
                rw [ean] at e'
                exact .inr (by rw [e']; exact U2.size)
          · rw [if_neg cb] at hy'
            refine .inl (Cb.sub hy' ?_)
            have e1 : (L.with i (fset (L.ads i) x1.ent.length w2.heap.size)).ads b = L.ads b := by unfold Lo.with; simp only [if_neg cb]
            rw [e1] at hb
            exact hb
end
end Go.Proofs.Ytlkfabejecgfgaa.S
