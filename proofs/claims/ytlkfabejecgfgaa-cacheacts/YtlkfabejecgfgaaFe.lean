import Derived.Test.YtlkfabejecgfgaaFd
import Derived.Deep.DeepCutAuto
namespace Go.Proofs.Ytlkfabejecgfgaa
open Go.RowKit Go.Maps
set_option linter.unusedVariables false
set_option linter.unusedSimpArgs false
def Cs.rm (s : Cs) (i c : Nat) : Xs := roomX c s.r (s.x i).q.length (s.x i)
def putC (s : Cs) (k : ByteArray) (v : Value) (c : Nat) : Int × Int × Cs :=
  if 1024 < k.size then (0, 2, s)
  else if s.st && excX (s.rm (s.ix k.data.toList) c) c s.r then (0, 110, s.setx (s.ix k.data.toList) (s.rm (s.ix k.data.toList) c))
  else ((s.P.length : Int) + 1, 0, (s.setx (s.ix k.data.toList) (putX (s.rm (s.ix k.data.toList) c) k v c)).give (s.ix k.data.toList, (s.rm (s.ix k.data.toList) c).ent.length))
/-- Where a cache lies behind a Put. -/
structure Ext (w : World) (L L' : Lo) (s s' : Cs) : Prop where
  cb : L'.cb = L.cb
  nw : ∀ k, Cb L' s' k → Cb L s k ∨ w.heap.size ≤ k
section
variable {w : World} {L : Lo} {s : Cs}
set_option maxRecDepth 100000 in
set_option maxHeartbeats 2000000 in
theorem put_long (h : Ca w L s) {k : ByteArray} {v : Value} {ch : Nat} (hl : 1024 < k.size) (hk : k.size ≤ maxLen) :
    Calls Try.prog 14 #[.pointer (some ⟨L.cb, 0, none⟩), .string k, v, .int .u64 ch] w fun e w' => e = .returned (.tuple #[.int .i64 0, .int .i64 2]) ∧ w' = w := by
  have hl' : (1024 : Int) < k.size := by omega
  go_enter Try.func14, Try.ntmps14
  go_wp2_with fail
  refine bodyPost_ret (v := .tuple #[.int .i64 0, .int .i64 2]) (by simp [results, Try.results14, go_sem]) rfl ⟨rfl, rfl⟩
set_option maxRecDepth 100000 in
set_option maxHeartbeats 2000000 in
theorem put_cache (h : Ca w L s) (c : Ci s) {k : ByteArray} {z : Int} {ch : Nat} (hc : ch < 18446744073709551616) (hk : ¬ 1024 < k.size) (hP : s.P.length < 1152921504606846976) :
    Calls Try.prog 14 #[.pointer (some ⟨L.cb, 0, none⟩), .string k, .int .u64 z, .int .u64 ch] w fun e w' => e = .returned (.tuple #[.int .i64 (putC s k (.int .u64 z) ch).1, .int .i64 (putC s k (.int .u64 z) ch).2.1]) ∧
      ∃ L', Ca w' L' (putC s k (.int .u64 z) ch).2.2 ∧ Upd (Cb L s) w w' ∧ Ext w L L' s (putC s k (.int .u64 z) ch).2.2 := by
  have hk9 : k.size ≤ maxLen := by unfold maxLen; omega
  have hk' : ¬ (1024 : Int) < k.size := by omega
  have HO := of_any h c hk9
  have hi := c.ix k.data.toList
  obtain ⟨rc, hrl, hS⟩ := h.drew.row
  have S := hS _ _ hi
  have I := c.iv _ _ hi
  have eix : shd s.xs.length k.data.toList = s.ix k.data.toList := rfl
  rw [eix] at HO
  have h0 : ∀ j, j ∈ (s.x (s.ix k.data.toList)).q → ∃ e, (s.x (s.ix k.data.toList)).ent[j]? = some e ∧ e.pins = 0 := fun j hj => by
    obtain ⟨e, h1, h2, _⟩ := (I.qe j).1 hj
    exact ⟨e, h1, h2⟩
  have HM := makeRoom_any S h0 hc c.rb
  have hX : roomX ch s.r (s.x (s.ix k.data.toList)).q.length (s.x (s.ix k.data.toList)) = s.rm (s.ix k.data.toList) ch := rfl
  rw [hX] at HM
  obtain ⟨I1, he1⟩ := Iv.room ch s.r (s.x (s.ix k.data.toList)).q.length _ I
  rw [hX] at I1 he1
  have hel := c.el _ _ hi
  have c1 := h.blk.cell1 1 _ rfl
  unfold putC
  rw [if_neg hk]
  clear h0 eix hX
  generalize s.ix k.data.toList = i at *
  generalize s.rm i ch = x1 at *
  have HOM : ∀ b, (s.st = b) → Hid (s.st = b) := fun b hb => hb
  cases hst : s.st with
  | false =>
    rw [Bool.false_and, if_neg (by simp)]
    simp only []
    go_enter Try.func14, Try.ntmps14
    go_upto_region 7 with (first
      | (go_at_call 38; refine HO.mono ?_; rintro e w1 ⟨rfl, hw⟩; have hw' := hw.symm; subst hw')
      | (go_at_call 39; refine HM.mono ?_; rintro e w2 ⟨rfl, rc2, S2, K2, U2⟩
         have C2 := h.drew.shard hi hS hrl S2 (by rw [he1]) K2 U2
         have HE := exceeds_any S2 hc c.rb
         have d1 := C2.blk.cell1 1 _ rfl
         have d2 : w2.cell? ⟨L.cb, 2, none⟩ = some (.bool s.st) := C2.blk.cell1 2 _ rfl
         rw [hst] at d2
         clear c1 HM HO))
    have S3 := S2.addE ⟨k, .int .u64 z, ch, 0⟩ ⟨hk9, hc, by simp only []; omega⟩
    have ean : fset (L.ads i) x1.ent.length w2.heap.size x1.ent.length = w2.heap.size := by unfold fset; rw [if_pos rfl]
    have HP := put_any S3 (n := x1.ent.length) (e := ⟨k, .int .u64 z, ch, 0⟩) (by unfold addE; simp) (fun j hj => (I1.add _).old hj) (by
      have := I1.ct; have : maxLen = 9223372036854775807 := rfl
      show x1.cnt + 1 < maxLen
      rw [he1] at *; omega)
    rw [ean] at HP
    have eput : put1 (addE x1 ⟨k, .int .u64 z, ch, 0⟩) x1.ent.length = putX x1 k (.int .u64 z) ch := rfl
    rw [eput] at HP
    have hpe := (I1.put k (.int .u64 z) ch).2
    have hlt : ∀ a, a < x1.ent.length → fset (L.ads i) x1.ent.length w2.heap.size a = L.ads i a := fun a ha => by unfold fset; rw [if_neg (by omega)]
    clear HE
    go_wp2_with (first
      | (go_at_call 41; refine HP.mono ?_; rintro e w4 ⟨rfl, rc4, S4, K4, U4⟩
         have U3 := U2.alloc (.cells (enC ⟨k, .int .u64 z, ch, 0⟩ none none).toArray 91)
         have U5 : Upd (Sb L.rb (L.mbs i) (L.ads i) (s.x i).ent.length) w.drew w4 := U3.then U4 (fun a ha hs => by
           rcases hs with e | e | ⟨j, hj, e⟩
           · exact .inl e
           · exact .inr (.inl e)
           · unfold addE at hj
             simp only [List.length_append, List.length_cons, List.length_nil] at hj
             by_cases cj : j < x1.ent.length
             · rw [hlt j cj] at e
               exact .inr (.inr ⟨j, by rw [← he1]; exact cj, e⟩)
             · have : j = x1.ent.length := by omega
               subst this
               rw [ean] at e
               have := U2.size
               omega)
         have C4 := h.drew.shard2 c hi hS hrl S4 (fun j hj => hlt j (by rw [he1]; exact hj)) (fun j hj => by
           rw [hpe] at hj
           simp only [List.length_append, List.length_cons, List.length_nil] at hj
           by_cases cj : j < x1.ent.length
           · exact .inl (by rw [← he1]; exact cj)
           · have : j = x1.ent.length := by omega
             subst this
             rw [ean]
             exact .inr U2.size) (K2.trans K4) U5
         have HG := give_any C4 (i, x1.ent.length) (by simp only []; omega)
         have eb : ((L.with i (fset (L.ads i) x1.ent.length w2.heap.size)).ads (i, x1.ent.length).fst (i, x1.ent.length).snd) = w2.heap.size := by
           unfold Lo.with; simp only [if_pos]; exact ean
         rw [eb] at HG
         clear HP eb)
      | (go_at_call 42; refine HG.mono ?_; rintro e w5 ⟨rfl, C5, U6⟩))
    refine bodyPost_ret (v := .tuple #[.int .i64 ((s.P.length : Int) + 1), .int .i64 0]) (by simp [results, Try.results14, go_sem]) rfl ⟨rfl, _, C5, ?_, ?_⟩
    · exact (Upd.drew (Upd.refl _ _)).trans ((U5.mono (fun a _ ha => Cb.sub hi ha)).trans (U6.mono (fun a _ ha => ha.elim .inl (fun e => .inr (.inl e)))))
    · refine ⟨rfl, fun a ha => ?_⟩
      rcases ha with e | e | ⟨b, y, hy, hb⟩
      · exact .inl (.inl e)
      · exact .inl (.inr (.inl e))
      · have hy' : (s.xs.set i (putX x1 k (.int .u64 z) ch))[b]? = some y := hy
        rw [xget hi] at hy'
        by_cases cb : b = i
        · subst cb
          rw [if_pos rfl] at hy'
          cases hy'
          rcases hb with e | e | ⟨j, hj, e⟩
          · exact .inl (Cb.sub hi (.inl e))
          · exact .inl (Cb.sub hi (.inr (.inl e)))
          · rw [hpe] at hj
            simp only [List.length_append, List.length_cons, List.length_nil] at hj
            have e' : a = fset (L.ads b) x1.ent.length w2.heap.size j := by
              rw [e]; unfold Lo.with; simp
            by_cases cj : j < x1.ent.length
            · rw [hlt j cj] at e'
              exact .inl (Cb.sub hi (.inr (.inr ⟨j, by rw [← he1]; exact cj, e'⟩)))
            · have : j = x1.ent.length := by omega
              subst this
              rw [ean] at e'
              exact .inr (by rw [e']; exact U2.size)
        · rw [if_neg cb] at hy'
          refine .inl (Cb.sub hy' ?_)
          have e1 : (L.with i (fset (L.ads i) x1.ent.length w2.heap.size)).ads b = L.ads b := by unfold Lo.with; simp only [if_neg cb]
          rw [e1] at hb
          exact hb
  | true =>
    cases hex : excX x1 ch s.r with
    | true =>
      rw [Bool.true_and, if_pos rfl]
      simp only []
      go_enter Try.func14, Try.ntmps14
      go_wp2_with (first
        | (go_at_call 38; refine HO.mono ?_; rintro e w1 ⟨rfl, hw⟩; have hw' := hw.symm; subst hw')
        | (go_at_call 39; refine HM.mono ?_; rintro e w2 ⟨rfl, rc2, S2, K2, U2⟩
           have C2 := h.drew.shard hi hS hrl S2 (by rw [he1]) K2 U2
           have HE := exceeds_any S2 hc c.rb
           rw [hex] at HE
           have d1 := C2.blk.cell1 1 _ rfl
           have d2 : w2.cell? ⟨L.cb, 2, none⟩ = some (.bool s.st) := C2.blk.cell1 2 _ rfl
           rw [hst] at d2
           clear c1 HM HO)
        | (go_at_call 40; refine HE.mono ?_; rintro e w3 ⟨rfl, hw⟩; have hw' := hw.symm; subst hw'))
      refine bodyPost_ret (v := .tuple #[.int .i64 0, .int .i64 110]) (by simp [results, Try.results14, go_sem]) rfl ⟨rfl, L, C2, ?_, rfl, ?_⟩
      · exact (Upd.drew (Upd.refl _ _)).trans (U2.mono (fun a _ ha => Cb.sub hi ha))
      · rintro a (e | e | ⟨b, y, hy, hb⟩)
        · exact .inl (.inl e)
        · exact .inl (.inr (.inl e))
        · have hy' : (s.xs.set i x1)[b]? = some y := hy
          rw [xget hi] at hy'
          by_cases cb : b = i
          · subst cb
            rw [if_pos rfl] at hy'
            cases hy'
            rw [he1] at hb
            exact .inl (Cb.sub hi hb)
          · rw [if_neg cb] at hy'
            exact .inl (Cb.sub hy' hb)
    | false =>
      rw [Bool.and_false, if_neg (by simp)]
      simp only []
      go_enter Try.func14, Try.ntmps14
      go_upto_region 7 with (first
        | (go_at_call 38; refine HO.mono ?_; rintro e w1 ⟨rfl, hw⟩; have hw' := hw.symm; subst hw')
        | (go_at_call 39; refine HM.mono ?_; rintro e w2 ⟨rfl, rc2, S2, K2, U2⟩
           have C2 := h.drew.shard hi hS hrl S2 (by rw [he1]) K2 U2
           have HE := exceeds_any S2 hc c.rb
           rw [hex] at HE
           have d1 := C2.blk.cell1 1 _ rfl
           have d2 : w2.cell? ⟨L.cb, 2, none⟩ = some (.bool s.st) := C2.blk.cell1 2 _ rfl
           rw [hst] at d2
           clear c1 HM HO)
        | (go_at_call 40; refine HE.mono ?_; rintro e w3 ⟨rfl, hw⟩; have hw' := hw.symm; subst hw'))
      have S3 := S2.addE ⟨k, .int .u64 z, ch, 0⟩ ⟨hk9, hc, by simp only []; omega⟩
      have ean : fset (L.ads i) x1.ent.length w2.heap.size x1.ent.length = w2.heap.size := by unfold fset; rw [if_pos rfl]
      have HP := put_any S3 (n := x1.ent.length) (e := ⟨k, .int .u64 z, ch, 0⟩) (by unfold addE; simp) (fun j hj => (I1.add _).old hj) (by
        have := I1.ct; have : maxLen = 9223372036854775807 := rfl
        show x1.cnt + 1 < maxLen
        rw [he1] at *; omega)
      rw [ean] at HP
      have eput : put1 (addE x1 ⟨k, .int .u64 z, ch, 0⟩) x1.ent.length = putX x1 k (.int .u64 z) ch := rfl
      rw [eput] at HP
      have hpe := (I1.put k (.int .u64 z) ch).2
      have hlt : ∀ a, a < x1.ent.length → fset (L.ads i) x1.ent.length w2.heap.size a = L.ads i a := fun a ha => by unfold fset; rw [if_neg (by omega)]
      clear HE
      go_wp2_with (first
        | (go_at_call 41; refine HP.mono ?_; rintro e w4 ⟨rfl, rc4, S4, K4, U4⟩
           have U3 := U2.alloc (.cells (enC ⟨k, .int .u64 z, ch, 0⟩ none none).toArray 91)
           have U5 : Upd (Sb L.rb (L.mbs i) (L.ads i) (s.x i).ent.length) w.drew w4 := U3.then U4 (fun a ha hs => by
             rcases hs with e | e | ⟨j, hj, e⟩
             · exact .inl e
             · exact .inr (.inl e)
             · unfold addE at hj
               simp only [List.length_append, List.length_cons, List.length_nil] at hj
               by_cases cj : j < x1.ent.length
               · rw [hlt j cj] at e
                 exact .inr (.inr ⟨j, by rw [← he1]; exact cj, e⟩)
               · have : j = x1.ent.length := by omega
                 subst this
                 rw [ean] at e
                 have := U2.size
                 omega)
           have C4 := h.drew.shard2 c hi hS hrl S4 (fun j hj => hlt j (by rw [he1]; exact hj)) (fun j hj => by
             rw [hpe] at hj
             simp only [List.length_append, List.length_cons, List.length_nil] at hj
             by_cases cj : j < x1.ent.length
             · exact .inl (by rw [← he1]; exact cj)
             · have : j = x1.ent.length := by omega
               subst this
               rw [ean]
               exact .inr U2.size) (K2.trans K4) U5
           have HG := give_any C4 (i, x1.ent.length) (by simp only []; omega)
           have eb : ((L.with i (fset (L.ads i) x1.ent.length w2.heap.size)).ads (i, x1.ent.length).fst (i, x1.ent.length).snd) = w2.heap.size := by
             unfold Lo.with; simp only [if_pos]; exact ean
           rw [eb] at HG
           clear HP eb)
        | (go_at_call 42; refine HG.mono ?_; rintro e w5 ⟨rfl, C5, U6⟩))
      refine bodyPost_ret (v := .tuple #[.int .i64 ((s.P.length : Int) + 1), .int .i64 0]) (by simp [results, Try.results14, go_sem]) rfl ⟨rfl, _, C5, ?_, ?_⟩
      · exact (Upd.drew (Upd.refl _ _)).trans ((U5.mono (fun a _ ha => Cb.sub hi ha)).trans (U6.mono (fun a _ ha => ha.elim .inl (fun e => .inr (.inl e)))))
      · refine ⟨rfl, fun a ha => ?_⟩
        rcases ha with e | e | ⟨b, y, hy, hb⟩
        · exact .inl (.inl e)
        · exact .inl (.inr (.inl e))
        · have hy' : (s.xs.set i (putX x1 k (.int .u64 z) ch))[b]? = some y := hy
          rw [xget hi] at hy'
          by_cases cb : b = i
          · subst cb
            rw [if_pos rfl] at hy'
            cases hy'
            rcases hb with e | e | ⟨j, hj, e⟩
            · exact .inl (Cb.sub hi (.inl e))
            · exact .inl (Cb.sub hi (.inr (.inl e)))
            · rw [hpe] at hj
              simp only [List.length_append, List.length_cons, List.length_nil] at hj
              have e' : a = fset (L.ads b) x1.ent.length w2.heap.size j := by
                rw [e]; unfold Lo.with; simp
              by_cases cj : j < x1.ent.length
              · rw [hlt j cj] at e'
                exact .inl (Cb.sub hi (.inr (.inr ⟨j, by rw [← he1]; exact cj, e'⟩)))
              · have : j = x1.ent.length := by omega
                subst this
                rw [ean] at e'
                exact .inr (by rw [e']; exact U2.size)
          · rw [if_neg cb] at hy'
            refine .inl (Cb.sub hy' ?_)
            have e1 : (L.with i (fset (L.ads i) x1.ent.length w2.heap.size)).ads b = L.ads b := by unfold Lo.with; simp only [if_neg cb]
            rw [e1] at hb
            exact hb
end
end Go.Proofs.Ytlkfabejecgfgaa
