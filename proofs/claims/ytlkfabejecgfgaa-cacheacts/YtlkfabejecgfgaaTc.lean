/-
  The cache of strings: contracts of the same functions at the other type.
-/
import Derived.Test.YtlkfabejecgfgaaTb
namespace Go.Proofs.Ytlkfabejecgfgaa.S
open Go.RowKit Go.Maps
set_option linter.unusedVariables false
set_option linter.unusedSimpArgs false
set_option maxRecDepth 100000 in
set_option maxHeartbeats 1000000 in
theorem shard_raw {w : World} {cb rb n : Nat} {cs : List Value} (h : Blk w cb 101 cs) (h0 : cs[0]? = some (.slice (some ⟨rb, 0, none⟩) n n)) (hn : 1 ≤ n) (hn' : n ≤ 64) (k : ByteArray) (hk : k.size ≤ maxLen) :
    Calls Try.prog 70 #[.pointer (some ⟨cb, 0, none⟩), .string k] w fun e w' => e = .returned (.int .i64 (shd n k.data.toList)) ∧ w' = w := by
  have c0 := h.cell1 0 _ h0
  have hk' : k.size ≤ 9223372036854775807 := hk
  go_enter Try.func70, Try.ntmps70
  go_wp2_with fail
  go_loopw [5, 9] (fun hh i wr => ∃ (m : Nat), i = .int .i64 m ∧ hh = .int .u32 (hash (k.data.toList.take m)) ∧ m ≤ k.size ∧ wr = w) (fun hh i wr => match i with | .int _ z => k.size - z.toNat | _ => 0)
  case atStart => exact ⟨0, rfl, rfl, by omega, rfl⟩
  case round =>
    obtain ⟨m, rfl, rfl, hm, hwr⟩ := hrel
    subst hwr
    by_cases hlt : m < k.size
    · have hlt' : (m : Int) < k.size := by omega
      have e1 : Hid (hash (k.data.toList.take (m + 1)) = hstep (hash (k.data.toList.take m)) k[m]) := by
        show hash (k.data.toList.take (m + 1)) = _
        rw [List.take_add_one, bytes_get k hlt]
        exact hash_snoc _ _
      obtain ⟨H, hH⟩ : ∃ H, hash (k.data.toList.take m) = H := ⟨_, rfl⟩
      rw [hH] at e1 ⊢
      clear hH
      go_wp2_with fail
      refine ⟨⟨m + 1, rfl, ?_, hlt, trivial⟩, ?_⟩
      · rw [e1.out]; rfl
      · simp only []; omega
    · have hlt' : (m : Int) = k.size := by omega
      have e1 : k.data.toList.take m = k.data.toList := List.take_of_length_le (by
        have hs : k.data.size = k.size := rfl
        simp; omega)
      rw [e1]
      obtain ⟨b1, b2⟩ := hash_bd k.data.toList
      have e2 : Hid (((shd n k.data.toList : Nat) : Int) = wrap64 (hash k.data.toList % n)) := by
        show ((shd n k.data.toList : Nat) : Int) = wrap64 (hash k.data.toList % n)
        have h1 := Int.emod_lt_of_pos (hash k.data.toList) (b := n) (by omega)
        have h2 := Int.emod_nonneg (hash k.data.toList) (b := n) (by omega)
        unfold shd wrap64
        generalize hash k.data.toList % n = z at *
        omega
      obtain ⟨H, hH⟩ : ∃ H, hash k.data.toList = H := ⟨_, rfl⟩
      rw [hH] at e2 b1 b2 ⊢
      clear hH e1
      go_wp2_with fail
      go_ret
      refine ⟨?_, rfl⟩
      rw [e2.out]
      rfl
/-- A cache in memory. -/
structure Ca (w : World) (L : Lo) (s : Cs) : Prop where
  blk : Blk w L.cb 101 (caC L s)
  row : ∃ rc, rc.length = s.xs.length * 7 ∧ ∀ (i : Nat) (x : Xs), s.xs[i]? = some x → Sm w L.rb (i * 7) (L.mbs i) rc (L.ads i) x
  pin : ∃ D, IM w L.pb (fun k => (s.pin k).map (fun ij => L.ads ij.1 ij.2)) D ∧ Maps.size D ≤ s.P.length
  mm : ∀ i i', i < s.xs.length → i' < s.xs.length → L.mbs i = L.mbs i' → i = i'
  mp : ∀ i, i < s.xs.length → L.mbs i ≠ L.pb
  aa : ∀ (i i' : Nat) (x x' : Xs) (j j' : Nat), s.xs[i]? = some x → s.xs[i']? = some x' → j < x.ent.length → j' < x'.ent.length → i ≠ i' → L.ads i j ≠ L.ads i' j'
theorem Ca.ne1 {w : World} {L : Lo} {s : Cs} (h : Ca w L s) {i : Nat} {x : Xs} (hi : s.xs[i]? = some x) {k : Nat} (hk : Sb L.rb (L.mbs i) (L.ads i) x.ent.length k) : k ≠ L.cb ∧ k ≠ L.pb := by
  obtain ⟨rc, _, hS⟩ := h.row
  have S := hS i x hi
  obtain ⟨D, hD, _⟩ := S.map
  obtain ⟨D', hD', _⟩ := h.pin
  rcases hk with e | e | ⟨j, hj, e⟩
  · subst e
    exact ⟨hD.ne h.blk, h.mp i (List.getElem?_eq_some_iff.1 hi).1⟩
  · subst e
    exact ⟨S.row.ne h.blk (by decide), fun e => hD'.ne S.row e.symm⟩
  · subst e
    have := S.ent j _ (List.getElem?_eq_getElem hj)
    exact ⟨this.ne h.blk (by decide), fun e => hD'.ne this e.symm⟩
/-- One shard was turned. -/
theorem Ca.shard {w w' : World} {L : Lo} {s : Cs} (h : Ca w L s) {i : Nat} {x x' : Xs} {rc rc' : List Value} (hi : s.xs[i]? = some x) (hrc : ∀ (i : Nat) (x : Xs), s.xs[i]? = some x → Sm w L.rb (i * 7) (L.mbs i) rc (L.ads i) x) (hrl : rc.length = s.xs.length * 7)
    (S' : Sm w' L.rb (i * 7) (L.mbs i) rc' (L.ads i) x') (hel : x'.ent.length = x.ent.length) (hK : Kp (i * 7) rc rc') (hU : Upd (Sb L.rb (L.mbs i) (L.ads i) x.ent.length) w w') : Ca w' L { s with xs := s.xs.set i x' } := by
  have hil := (List.getElem?_eq_some_iff.1 hi).1
  refine ⟨?_, ⟨rc', by rw [hK.1, hrl]; simp, ?_⟩, ?_, by simpa using h.mm, by simpa using h.mp, ?_⟩
  · have := h.blk.upd hU (fun hk => (h.ne1 hi hk).1 rfl)
    unfold caC at this ⊢
    simpa using this
  · intro i' y hy
    simp only [xget hi] at hy
    by_cases c : i' = i
    · subst c
      rw [if_pos rfl] at hy
      cases hy
      exact S'
    · rw [if_neg c] at hy
      have S := hrc i' y hy
      have hil' := (List.getElem?_eq_some_iff.1 hy).1
      obtain ⟨D, hD, hs⟩ := S.map
      refine ⟨S'.row, ?_, ⟨D, hD.upd hU ?_, hs⟩, S.ent.upd hU ?_, S.inj, S.nd, S.qr, S.fr, S.ub, S.pb, S.wk⟩
      · intro j v hv
        have hj : j < 7 := by
          have := (List.getElem?_eq_some_iff.1 hv).1
          simpa [shC] using this
        rw [hK.2 _ (by omega)]
        exact S.cel j v hv
      · rintro (e | e | ⟨j, hj, e⟩)
        · exact c (h.mm _ _ hil' hil e)
        · exact hD.ne S.row e
        · exact hD.ne ((hrc i x hi).ent j _ (List.getElem?_eq_getElem hj)) e
      · rintro j hj (e | e | ⟨j', hj', e⟩)
        · obtain ⟨D', hD', _⟩ := (hrc i x hi).map
          exact hD'.ne (S.ent j _ (List.getElem?_eq_getElem hj)) e.symm
        · exact (S.ent.rb S.row hj) e.symm
        · exact h.aa i' i y x j j' hy hi hj hj' c e
  · obtain ⟨D, hD, hs⟩ := h.pin
    exact ⟨D, hD.upd hU (fun hk => (h.ne1 hi hk).2 rfl), hs⟩
  · intro a b y z j j' ha hb hj hj' hab
    simp only [xget hi] at ha hb
    have ha' : ∃ y', s.xs[a]? = some y' ∧ y'.ent.length = y.ent.length := by
      split at ha
      · rename_i e; cases ha; subst e; exact ⟨x, hi, hel.symm⟩
      · exact ⟨y, ha, rfl⟩
    have hb' : ∃ y', s.xs[b]? = some y' ∧ y'.ent.length = z.ent.length := by
      split at hb
      · rename_i e; cases hb; subst e; exact ⟨x, hi, hel.symm⟩
      · exact ⟨z, hb, rfl⟩
    obtain ⟨y', h1, h2⟩ := ha'
    obtain ⟨z', h3, h4⟩ := hb'
    exact h.aa a b y' z' j j' h1 h3 (by omega) (by omega) hab
section
variable {w : World} {L : Lo} {s : Cs}
set_option maxRecDepth 100000 in
set_option maxHeartbeats 1000000 in
theorem of_raw (h : Ca w L s) (n1 : 1 ≤ s.xs.length) (n2 : s.xs.length ≤ 64) {k : ByteArray} (hk : k.size ≤ maxLen) :
    Calls Try.prog 50 #[.pointer (some ⟨L.cb, 0, none⟩), .string k] w fun e w' => e = .returned (.pointer (some ⟨L.rb, shd s.xs.length k.data.toList * 7, none⟩)) ∧ w' = w.drew := by
  have c0 := h.blk.cell1 0 _ rfl
  have HS : Calls Try.prog 70 #[.pointer (some ⟨L.cb, 0, none⟩), .string k] w.drew fun e w' => e = .returned (.int .i64 (shd s.xs.length k.data.toList)) ∧ w' = w.drew := shard_raw (cs := caC L s) h.blk.drew rfl n1 n2 k hk
  have hl := shd_lt n1 k.data.toList
  generalize shd s.xs.length k.data.toList = i at *
  generalize s.xs.length = n at *
  go_enter Try.func50, Try.ntmps50
  go_wp2_with fail
  go_region_with (go_at_call 70; refine HS.mono ?_; rintro e w1 ⟨rfl, hw⟩; have hw' := hw.symm; subst hw')
  all_goals
    go_wp2
    go_ret
    exact ⟨rfl, rfl⟩
theorem of_any (h : Ca w L s) (c : Ci s) {k : ByteArray} (hk : k.size ≤ maxLen) :
    Calls Try.prog 50 #[.pointer (some ⟨L.cb, 0, none⟩), .string k] w fun e w' => e = .returned (.pointer (some ⟨L.rb, shd s.xs.length k.data.toList * 7, none⟩)) ∧ w' = w.drew := of_raw h c.n1 c.n2 hk
set_option maxRecDepth 100000 in
set_option maxHeartbeats 1000000 in
theorem give_any (h : Ca w L s) (ij : Nat × Nat) (hP : s.P.length < 4611686018427387904) :
    Calls Try.prog 54 #[.pointer (some ⟨L.cb, 0, none⟩), .pointer (some ⟨L.ads ij.1 ij.2, 0, none⟩)] w fun e w' => e = .returned (.int .i64 ((s.P.length : Int) + 1)) ∧ Ca w' L (s.give ij) ∧ Upd (fun k => k = L.cb ∨ k = L.pb) w w' := by
  obtain ⟨D, hD, hs⟩ := h.pin
  have c4 := h.blk.cell1 4 _ rfl
  have f4 := h.blk.frozen 4
  have B1 : Blk (w.setCell ⟨L.cb, 4, none⟩ (.int .i64 ((s.P.length : Int) + 1))) L.cb 101 (caC L (s.give ij)) := by
    have := h.blk.set 4 (.int .i64 ((s.P.length : Int) + 1))
    unfold caC Cs.give at *
    simpa using this
  obtain ⟨w1, hw1⟩ : ∃ W, w.setCell ⟨L.cb, 4, none⟩ (.int .i64 ((s.P.length : Int) + 1)) = W := ⟨_, rfl⟩
  have U1 : Upd (fun k => k = L.cb) w w1 := by rw [← hw1]; exact Upd.setCell (p := ⟨L.cb, 4, none⟩) (Upd.refl (fun k => k = L.cb) w) (fun _ => rfl) _
  rw [hw1] at B1
  have hD1 : IM w1.drew L.pb _ D := hD.upd U1.drew (fun e => hD.ne h.blk e)
  obtain ⟨w2, hr, hm, hg⟩ := hD1.store law3 injI iskI (by have : maxLen = 9223372036854775807 := rfl; omega) Try.underlying99 (k := (s.P.length : Int) + 1) (key3 (by unfold I64; omega)) (L.ads ij.1 ij.2)
  have hsz := hD1.size_put law3 ((s.P.length : Int) + 1) (ptrD (some (L.ads ij.1 ij.2)))
  rw [← pin_give] at hm
  have U2 : Upd (fun k => k = L.pb) w1 w2 := (Upd.drew (Upd.refl _ w1)).trans (Upd.grown (Upd.refl _ _) hg (fun k hk _ => by cases hk; rfl))
  have U : Upd (fun k => k = L.cb ∨ k = L.pb) w w2 := (U1.mono (fun k _ hk => .inl hk)).trans (U2.mono (fun k _ hk => .inr hk))
  have B2 := B1.upd U2 (fun e => (hD1.ne B1.drew) e.symm)
  have k3 := B1.cell1 3 _ rfl
  have k4 := B1.cell1 4 _ rfl
  have l4 := B2.cell1 4 _ rfl
  have C2 : Hid (Ca w2 L (s.give ij)) := by
    refine ⟨B2, ?_, ⟨_, hm, ?_⟩, h.mm, h.mp, h.aa⟩
    · obtain ⟨rc, hrl, hS⟩ := h.row
      refine ⟨rc, hrl, fun i x hi => ?_⟩
      have S := hS i x hi
      obtain ⟨D2, hD2, hs2⟩ := S.map
      have hne : ∀ k, Sb L.rb (L.mbs i) (L.ads i) x.ent.length k → ¬ (k = L.cb ∨ k = L.pb) := fun k hk e => e.elim (h.ne1 hi hk).1 (h.ne1 hi hk).2
      exact ⟨S.row.upd U (hne _ (.inr (.inl rfl))), S.cel, ⟨D2, hD2.upd U (hne _ (.inl rfl)), hs2⟩, S.ent.upd U (fun j hj => hne _ (.inr (.inr ⟨j, hj, rfl⟩))), S.inj, S.nd, S.qr, S.fr, S.ub, S.pb, S.wk⟩
    · rw [hsz]; unfold Cs.give; simp only [List.length_append, List.length_cons, List.length_nil]; split <;> omega
  have U' : Hid _ := U
  have e4 : (Value.int .i64 (((s.give ij).P.length : Nat) : Int)) = .int .i64 ((s.P.length : Int) + 1) := by unfold Cs.give; simp
  rw [e4] at k4 l4
  clear U1 U2 U B1 B2 hD1 hD hm hg hsz hs e4
  go_enter Try.func54, Try.ntmps54
  go_wp2_with fail
  go_region
  go_wp2_with fail
  go_ret
  exact ⟨rfl, C2.out, U'.out⟩
set_option maxRecDepth 100000 in
set_option maxHeartbeats 1000000 in
theorem value_some (h : Ca w L s) {k : Int} (hk : I64 k) {i j : Nat} (hp : s.pin k = some (i, j)) {x : Xs} {e : En} (hx : s.xs[i]? = some x) (he : x.ent[j]? = some e) :
    Calls Try.prog 25 #[.pointer (some ⟨L.cb, 0, none⟩), .int .i64 k] w fun r w' => r = .returned (.tuple #[e.val, .int .i64 0]) ∧ w' = w := by
  obtain ⟨D, hD, hs⟩ := h.pin
  obtain ⟨rc, hrl, hS⟩ := h.row
  have c3 := h.blk.cell1 3 _ rfl
  have hl := hD.lookok law3 Try.underlying99 (zero103 _) (k := k) (key3 hk)
  simp only [hp] at hl
  have c1 := ((hS i x hx).ent j e he).cell1 1 _ rfl
  go_enter Try.func25, Try.ntmps25
  go_wp2_with fail
  refine bodyPost_ret (v := .tuple #[e.val, .int .i64 0]) (by simp [results, Try.results25, go_sem]) rfl ⟨rfl, rfl⟩
end
def zv : Value := .string ⟨#[]⟩
def getC (s : Cs) (k : List UInt8) : Int × Value × Bool × Cs :=
  match (s.x (s.ix k)).f k with
  | none => (0, zv, false, s)
  | some j => ((s.P.length : Int) + 1, ((s.x (s.ix k)).at j).val, true, (s.setx (s.ix k) (pinX (s.x (s.ix k)) j)).give (s.ix k, j))
section
variable {w : World} {L : Lo} {s : Cs}
theorem Ca.drew (h : Ca w L s) : Ca w.drew L s := by
  obtain ⟨rc, hrl, hS⟩ := h.row
  obtain ⟨D, hD, hs⟩ := h.pin
  exact ⟨h.blk, ⟨rc, hrl, fun i x hi => (hS i x hi).drew⟩, ⟨D, hD.upd (Upd.drew (Upd.refl Non w)) (fun e => e), hs⟩, h.mm, h.mp, h.aa⟩
set_option maxRecDepth 100000 in
set_option maxHeartbeats 1000000 in
theorem get_any (h : Ca w L s) (c : Ci s) {k : ByteArray} (hk : k.size ≤ maxLen) (hP : s.P.length < 1152921504606846976) :
    Calls Try.prog 26 #[.pointer (some ⟨L.cb, 0, none⟩), .string k] w fun e w' => e = .returned (.tuple #[.int .i64 (getC s k.data.toList).1, (getC s k.data.toList).2.1, .bool (getC s k.data.toList).2.2.1]) ∧ Ca w' L (getC s k.data.toList).2.2.2 ∧ Upd (Cb L s) w w' := by
  have HO := of_any h c hk
  have hi := c.ix k.data.toList
  obtain ⟨rc, hrl, hS⟩ := h.drew.row
  have S := hS _ _ hi
  have r0 := S.row.cell1 (s.ix k.data.toList * 7) _ (S.cel 0 _ rfl)
  obtain ⟨D, hD, hs⟩ := S.map
  have hl := hD.lookok law9 Try.underlying102 (zero103 _) (key9 hk)
  have I := c.iv _ _ hi
  unfold getC
  have eix : shd s.xs.length k.data.toList = s.ix k.data.toList := rfl
  rw [eix] at HO
  cases hf : (s.x (s.ix k.data.toList)).f k.data.toList with
  | none =>
    simp only []
    simp only [hf] at hl
    have C1 : Hid (Ca w.drew L s) := h.drew
    clear hS S hi I eix
    go_enter Try.func26, Try.ntmps26
    go_wp2_with (go_at_call 50; refine HO.mono ?_; rintro e w1 ⟨rfl, hw⟩; have hw' := hw.symm; subst hw')
    refine bodyPost_ret (v := .tuple #[.int .i64 0, zv, .bool false]) (by simp [results, Try.results26, go_sem, zv]) rfl ⟨rfl, C1.out, (Upd.refl _ _).drew⟩
  | some j =>
    simp only []
    simp only [hf] at hl
    obtain ⟨e, he, hke, hpq⟩ := I.old hf
    rw [at_of he]
    have hpl : e.pins + 1 < 4611686018427387904 := by
      have h1 := c.pc _ _ _ _ hi he
      have h2 := List.count_le_length (a := some (s.ix k.data.toList, j)) (l := s.P)
      omega
    have HT := pin_any S he hpq hpl
    have hel : (pinX (s.x (s.ix k.data.toList)) j).ent = (s.x (s.ix k.data.toList)).ent.set j { e with pins := e.pins + 1 } := by unfold pinX; simp only [at_of he]
    have hge : (pinX (s.x (s.ix k.data.toList)) j).ent[j]? = some { e with pins := e.pins + 1 } := by rw [hel]; exact List.getElem?_set_self (lt_of_get he)
    have hell : (pinX (s.x (s.ix k.data.toList)) j).ent.length = (s.x (s.ix k.data.toList)).ent.length := by rw [hel]; simp
    go_enter Try.func26, Try.ntmps26
    go_wp2_with (first
      | (go_at_call 50; refine HO.mono ?_; rintro e w1 ⟨rfl, hw⟩; have hw' := hw.symm; subst hw')
      | (go_at_call 55; refine HT.mono ?_; rintro e' w2 ⟨rfl, rc2, S2, K2, U2⟩
         have C2 := h.drew.shard hi hS hrl S2 hell K2 U2
         have HG := give_any C2.drew (s.ix k.data.toList, j) (by simp only []; omega)
         have d1 : w2.cell? ⟨L.ads (s.ix k.data.toList) j, 1, none⟩ = some e.val := (S2.ent j _ hge).cell1 1 _ rfl))
    have hix : { s with xs := s.xs.set (s.ix k.data.toList) (pinX (s.x (s.ix k.data.toList)) j) } = s.setx (s.ix k.data.toList) (pinX (s.x (s.ix k.data.toList)) j) := rfl
    rw [hix] at C2 HG
    have hi2 : (s.setx (s.ix k.data.toList) (pinX (s.x (s.ix k.data.toList)) j)).xs[s.ix k.data.toList]? = some (pinX (s.x (s.ix k.data.toList)) j) := by unfold Cs.setx; rw [xget hi, if_pos rfl]
    have U2' : Hid (Upd (Cb L s) w w2.drew) := ((Upd.drew (Upd.refl _ _)).trans (U2.mono (fun k _ hk => Cb.sub hi hk))).drew
    clear hix HO HT hl
    go_region_with (go_at_call 54; refine HG.mono ?_; rintro e' w3 ⟨rfl, C3, U3⟩
                    have d3 : w3.cell? ⟨L.ads (s.ix k.data.toList) j, 1, none⟩ = some e.val := by
                      obtain ⟨rc3, _, hS3⟩ := C3.row
                      exact ((hS3 _ _ hi2).ent j _ hge).cell1 1 _ rfl)
    all_goals
      go_wp2
      refine bodyPost_ret (v := .tuple #[.int .i64 ((s.P.length : Int) + 1), e.val, .bool true]) (by simp [results, Try.results26, go_sem]) rfl ⟨rfl, C3, U2'.out.trans (U3.mono (fun k _ hk => hk.elim .inl (fun e => .inr (.inl e))))⟩
end
end Go.Proofs.Ytlkfabejecgfgaa.S
