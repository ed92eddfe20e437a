import Derived.Test.YtlkfabejecgfgaaPb
import Derived.Test.YtlkfabejecgfgaaFi
namespace Go.Proofs.Ytlkfabejecgfgaa
open Go.RowKit Go.Maps
set_option linter.unusedVariables false
set_option linter.unusedSimpArgs false
/-- A cache that was made behind w0. -/
structure K0 (w0 wr : World) (L : Lo) (s : Cs) : Prop where
  ca : Ca wr L s
  ci : Ci s
  bel : Below w0.heap.size w0 wr
  own : ∀ k, Cb L s k → w0.heap.size ≤ k
theorem Ca.lt {w : World} {L : Lo} {s : Cs} (h : Ca w L s) {k : Nat} (hk : Cb L s k) : k < w.heap.size := by
  rcases hk with e | e | ⟨i, x, hx, hb⟩
  · rw [e]; exact h.blk.lt
  · obtain ⟨D, hD, _⟩ := h.pin
    rw [e]; exact hD.lt
  · obtain ⟨rc, _, hS⟩ := h.row
    have S := hS i x hx
    rcases hb with e | e | ⟨j, hj, e⟩
    · obtain ⟨D, hD, _⟩ := S.map
      rw [e]; exact hD.lt
    · rw [e]; exact S.row.lt
    · rw [e]; exact (S.ent j _ (List.getElem?_eq_getElem hj)).lt
theorem Ca.upd {S : Nat → Prop} {w w' : World} {L : Lo} {s : Cs} (h : Ca w L s) (U : Upd S w w') (hS : ∀ k, Cb L s k → ¬ S k) : Ca w' L s := by
  obtain ⟨D, hD, hs⟩ := h.pin
  refine ⟨h.blk.upd U (hS _ (.inl rfl)), ?_, ⟨D, hD.upd U (hS _ (.inr (.inl rfl))), hs⟩, h.mm, h.mp, h.aa⟩
  obtain ⟨rc, hrl, hR⟩ := h.row
  refine ⟨rc, hrl, fun a y hy => ?_⟩
  have R := hR a y hy
  obtain ⟨D2, hD2, hs2⟩ := R.map
  have hne : ∀ k, Sb L.rb (L.mbs a) (L.ads a) y.ent.length k → ¬ S k := fun k hk => hS k (Cb.sub hy hk)
  exact ⟨R.row.upd U (hne _ (.inr (.inl rfl))), R.cel, ⟨D2, hD2.upd U (hne _ (.inl rfl)), hs2⟩, R.ent.upd U (fun j hj => hne _ (.inr (.inr ⟨j, hj, rfl⟩))), R.inj, R.nd, R.qr, R.fr, R.ub, R.pb, R.wk⟩
theorem K0.upd {S : Nat → Prop} {w0 w w' : World} {L : Lo} {s : Cs} (h : K0 w0 w L s) (U : Upd S w w') (hS : ∀ k, Cb L s k → ¬ S k) (hS' : ∀ k, S k → w0.heap.size ≤ k) : K0 w0 w' L s :=
  ⟨h.ca.upd U hS, h.ci, h.bel.trans (U.below (fun k hk => Nat.lt_of_lt_of_le hk h.bel.size) hS'), h.own⟩
theorem K0.next {w0 wr w' : World} {L L' : Lo} {s s' : Cs} (h : K0 w0 wr L s) (U : Upd (Cb L s) wr w') (C' : Ca w' L' s') (c' : Ci s') (hs : ∀ k, Cb L' s' k → Cb L s k ∨ wr.heap.size ≤ k) : K0 w0 w' L' s' :=
  ⟨C', c', h.bel.trans (U.below (fun k hk => Nat.lt_of_lt_of_le hk h.bel.size) h.own), fun k hk => by
    rcases hs k hk with e | e
    · exact h.own k e
    · exact Nat.le_trans h.bel.size e⟩
theorem cb_len {L : Lo} {s s' : Cs} (h : ∀ (a : Nat) (y' : Xs), s'.xs[a]? = some y' → ∃ y, s.xs[a]? = some y ∧ y'.ent.length = y.ent.length) {k : Nat} (hk : Cb L s' k) : Cb L s k := by
  rcases hk with e | e | ⟨i, x, hx, hb⟩
  · exact .inl e
  · exact .inr (.inl e)
  · obtain ⟨y, h1, h2⟩ := h i x hx
    rw [h2] at hb
    exact Cb.sub h1 hb
theorem len_set {s : Cs} {i : Nat} {x x' : Xs} (hi : s.xs[i]? = some x) (hl : x'.ent.length = x.ent.length) (a : Nat) (y' : Xs) (h : (s.xs.set i x')[a]? = some y') : ∃ y, s.xs[a]? = some y ∧ y'.ent.length = y.ent.length := by
  rw [xget hi] at h
  split at h
  · rename_i e; cases h; subst e; exact ⟨x, hi, hl⟩
  · exact ⟨y', h, rfl⟩
/-- An entry's value. -/
def vat (s : Cs) (ij : Nat × Nat) : Option Value := ((s.x ij.1).ent[ij.2]?).map En.val
theorem vat_set {s : Cs} {i : Nat} {x x' : Xs} (hi : s.xs[i]? = some x) {P : List (Option (Nat × Nat))} (hv : ∀ (j : Nat) (v : Value), (x.ent[j]?).map En.val = some v → (x'.ent[j]?).map En.val = some v) {ij : Nat × Nat} {v : Value} (h : vat s ij = some v) :
    vat { s with xs := s.xs.set i x', P := P } ij = some v := by
  unfold vat at *
  by_cases e : ij.1 = i
  · have h1 : ({ s with xs := s.xs.set i x', P := P } : Cs).x ij.1 = x' := xs_get (by simp only []; rw [xget hi, if_pos e])
    rw [h1]
    have h2 : s.x ij.1 = x := xs_get (by rw [e]; exact hi)
    rw [h2] at h
    exact hv _ _ h
  · have h1 : ({ s with xs := s.xs.set i x', P := P } : Cs).x ij.1 = s.x ij.1 := by
      unfold Cs.x
      simp only [List.getD_eq_getElem?_getD]
      rw [xget hi, if_neg e]
    rw [h1]; exact h
theorem vset {l : List En} {j : Nat} {e e' : En} (hj : l[j]? = some e) (he : e'.val = e.val) (i : Nat) (v : Value) (h : (l[i]?).map En.val = some v) : ((l.set j e')[i]?).map En.val = some v := by
  rw [set_get hj]
  split
  · rename_i c; subst c; rw [hj] at h; simp at h ⊢; rw [he]; exact h
  · exact h
section
variable {w0 w : World} {L : Lo} {s : Cs}
theorem vat_drop (c : Ci s) (k : List UInt8) {ij : Nat × Nat} {v : Value} (h : vat s ij = some v) : vat (dropC s k).2 ij = some v := by
  unfold dropC
  cases hf : (s.x (s.ix k)).f k with
  | none => exact h
  | some j => exact vat_set (P := s.P) (x' := takeX (s.x (s.ix k)) j) (c.ix k) (fun j v hv => hv) h
theorem vat_get (c : Ci s) (k : List UInt8) {ij : Nat × Nat} {v : Value} (h : vat s ij = some v) : vat (getC s k).2.2.2 ij = some v := by
  unfold getC
  cases hf : (s.x (s.ix k)).f k with
  | none => exact h
  | some j =>
    obtain ⟨e, h1, h2, _⟩ := (c.iv _ _ (c.ix k)).old hf
    have he := ((c.iv _ _ (c.ix k)).pin h1 (by rw [h2]; exact hf)).2
    exact vat_set (P := s.P ++ [some (s.ix k, j)]) (c.ix k) (fun j v hv => by rw [he]; exact vset h1 (by rfl) j v hv) h
theorem vat_put (c : Ci s) (k : ByteArray) (z : Value) (ch : Nat) {ij : Nat × Nat} {v : Value} (h : vat s ij = some v) : vat (putC s k z ch).2.2 ij = some v := by
  unfold putC
  have hi := c.ix k.data.toList
  obtain ⟨I1, he1⟩ := Iv.room ch s.r (s.x (s.ix k.data.toList)).q.length _ (c.iv _ _ hi)
  have hX : roomX ch s.r (s.x (s.ix k.data.toList)).q.length (s.x (s.ix k.data.toList)) = s.rm (s.ix k.data.toList) ch := rfl
  rw [hX] at I1 he1
  split
  · exact h
  · split
    · exact vat_set (P := s.P) hi (fun j v hv => by rw [he1]; exact hv) h
    · refine vat_set (P := s.P ++ [some (s.ix k.data.toList, (s.rm (s.ix k.data.toList) ch).ent.length)]) hi (fun j v hv => ?_) h
      rw [(I1.put k z ch).2, he1]
      have hl : j < (s.x (s.ix k.data.toList)).ent.length := by
        cases hg : (s.x (s.ix k.data.toList)).ent[j]? with
        | none => rw [hg] at hv; cases hv
        | some e => exact (List.getElem?_eq_some_iff.1 hg).1
      rw [List.getElem?_append_left hl]; exact hv
theorem vat_free (c : Ci s) (p : Int) {ij : Nat × Nat} {v : Value} (h : vat s ij = some v) : vat (freeC s p).2 ij = some v := by
  unfold freeC
  cases hp : s.pin p with
  | none => exact h
  | some ab =>
    obtain ⟨i, j⟩ := ab
    obtain ⟨hp1, hpl, hpg⟩ := pin_I64 hp
    obtain ⟨x, hx, hj⟩ := c.pr i j (List.mem_of_getElem? hpg)
    have exi : s.x i = x := xs_get hx
    simp only [exi]
    obtain ⟨e, he⟩ : ∃ e, x.ent[j]? = some e := ⟨_, List.getElem?_eq_getElem hj⟩
    have hpos : 0 < e.pins := by rw [c.pc i x j e hx he]; exact List.count_pos_iff.2 (List.mem_of_getElem? hpg)
    have hE := ((c.iv i x hx).unpin he hpos s.r).2
    exact vat_set (P := s.P.set (p - 1).toNat none) hx (fun j v hv => by rw [hE]; exact vset he (by rfl) j v hv) h
theorem vat_room (c : Ci s) (room : Nat) {ij : Nat × Nat} {v : Value} (h : vat s ij = some v) : vat (roomC s room) ij = some v := by
  unfold vat at *
  cases hx : s.xs[ij.1]? with
  | none =>
    have : s.x ij.1 = x0 := by unfold Cs.x; rw [List.getD_eq_getElem?_getD, hx]; rfl
    rw [this] at h; simp [x0] at h
  | some x =>
    have h1 : s.x ij.1 = x := xs_get hx
    have h2 : (roomC s room).x ij.1 = rmX (room / s.xs.length) x := xs_get (by unfold roomC; simp only [List.getElem?_map, hx]; rfl)
    rw [h1] at h
    rw [h2, rm_ent _ (c.iv _ x hx)]; exact h
/-! The contracts, of a cache that was made behind w0. -/
theorem k_put (h : K0 w0 w L s) {k : ByteArray} {z : Int} {ch : Nat} (hc : ch < 18446744073709551616) (hk : k.size ≤ maxLen) (hP : s.P.length < 1152921504606846976) :
    Calls Try.prog 14 #[.pointer (some ⟨L.cb, 0, none⟩), .string k, .int .u64 z, .int .u64 ch] w fun e w' => e = .returned (.tuple #[.int .i64 (putC s k (.int .u64 z) ch).1, .int .i64 (putC s k (.int .u64 z) ch).2.1]) ∧
      ∃ L', K0 w0 w' L' (putC s k (.int .u64 z) ch).2.2 ∧ L'.cb = L.cb ∧ Upd (Cb L s) w w' ∧ ∀ a, Cb L' (putC s k (.int .u64 z) ch).2.2 a → Cb L s a ∨ w.heap.size ≤ a := by
  by_cases hl : 1024 < k.size
  · have e1 : putC s k (.int .u64 z) ch = (0, 2, s) := by unfold putC; rw [if_pos hl]
    rw [e1]
    refine (put_long h.ca hl hk).mono ?_
    rintro e w' ⟨rfl, rfl⟩
    exact ⟨rfl, L, h, rfl, Upd.refl _ _, fun a ha => .inl ha⟩
  · refine (put_cache h.ca h.ci hc hl hP).mono ?_
    rintro e w' ⟨rfl, L', C', U, E⟩
    exact ⟨rfl, L', h.next U C' (h.ci.putc k _ ch) E.nw, E.cb, U, E.nw⟩
theorem drop_len (c : Ci s) (k : List UInt8) (a : Nat) (y' : Xs) (hy : (dropC s k).2.xs[a]? = some y') : ∃ y, s.xs[a]? = some y ∧ y'.ent.length = y.ent.length := by
  unfold dropC at hy
  cases hf : (s.x (s.ix k)).f k with
  | none => rw [hf] at hy; exact ⟨y', hy, rfl⟩
  | some j => rw [hf] at hy; exact len_set (c.ix k) (by rw [take_ent]) a y' hy
theorem get_len (c : Ci s) (k : List UInt8) (a : Nat) (y' : Xs) (hy : (getC s k).2.2.2.xs[a]? = some y') : ∃ y, s.xs[a]? = some y ∧ y'.ent.length = y.ent.length := by
  unfold getC at hy
  cases hf : (s.x (s.ix k)).f k with
  | none => rw [hf] at hy; exact ⟨y', hy, rfl⟩
  | some j =>
    rw [hf] at hy
    obtain ⟨e, h1, h2, _⟩ := (c.iv _ _ (c.ix k)).old hf
    have he := ((c.iv _ _ (c.ix k)).pin h1 (by rw [h2]; exact hf)).2
    exact len_set (c.ix k) (by rw [he]; simp) a y' hy
theorem free_len (c : Ci s) (p : Int) (a : Nat) (y' : Xs) (hy : (freeC s p).2.xs[a]? = some y') : ∃ y, s.xs[a]? = some y ∧ y'.ent.length = y.ent.length := by
  unfold freeC at hy
  cases hp : s.pin p with
  | none => rw [hp] at hy; exact ⟨y', hy, rfl⟩
  | some ab =>
    rw [hp] at hy
    obtain ⟨i, j⟩ := ab
    obtain ⟨hp1, hpl, hpg⟩ := pin_I64 hp
    obtain ⟨x, hx, hj⟩ := c.pr i j (List.mem_of_getElem? hpg)
    have exi : s.x i = x := xs_get hx
    simp only [exi] at hy
    obtain ⟨e, he⟩ : ∃ e, x.ent[j]? = some e := ⟨_, List.getElem?_eq_getElem hj⟩
    have hpos : 0 < e.pins := by rw [c.pc i x j e hx he]; exact List.count_pos_iff.2 (List.mem_of_getElem? hpg)
    have hE := ((c.iv i x hx).unpin he hpos s.r).2
    exact len_set hx (by rw [hE]; simp) a y' hy
theorem room_len (c : Ci s) (room : Nat) (a : Nat) (y' : Xs) (hy : (roomC s room).xs[a]? = some y') : ∃ y, s.xs[a]? = some y ∧ y'.ent.length = y.ent.length := by
  unfold roomC at hy
  simp only [List.getElem?_map] at hy
  cases hx : s.xs[a]? with
  | none => rw [hx] at hy; cases hy
  | some x =>
    rw [hx] at hy
    simp at hy
    exact ⟨x, rfl, by rw [← hy, rm_ent _ (c.iv a x hx)]⟩
theorem k_get (h : K0 w0 w L s) {k : ByteArray} (hk : k.size ≤ maxLen) (hP : s.P.length < 1152921504606846976) :
    Calls Try.prog 18 #[.pointer (some ⟨L.cb, 0, none⟩), .string k] w fun e w' => e = .returned (.tuple #[.int .i64 (getC s k.data.toList).1, (getC s k.data.toList).2.1, .bool (getC s k.data.toList).2.2.1]) ∧ K0 w0 w' L (getC s k.data.toList).2.2.2 ∧ Upd (Cb L s) w w' := by
  refine (get_any h.ca h.ci hk hP).mono ?_
  rintro e w' ⟨rfl, C', U⟩
  exact ⟨rfl, h.next U C' (h.ci.getc _) (fun a ha => .inl (cb_len (get_len h.ci _) ha)), U⟩
theorem k_drop (h : K0 w0 w L s) {k : ByteArray} (hk : k.size ≤ maxLen) :
    Calls Try.prog 19 #[.pointer (some ⟨L.cb, 0, none⟩), .string k] w fun e w' => e = .returned (.bool (dropC s k.data.toList).1) ∧ K0 w0 w' L (dropC s k.data.toList).2 ∧ Upd (Cb L s) w w' := by
  refine (drop_any h.ca h.ci hk).mono ?_
  rintro e w' ⟨rfl, C', U⟩
  exact ⟨rfl, h.next U C' (h.ci.drop _) (fun a ha => .inl (cb_len (drop_len h.ci _) ha)), U⟩
theorem k_free (h : K0 w0 w L s) {p : Int} (hI : I64 p) :
    Calls Try.prog 16 #[.pointer (some ⟨L.cb, 0, none⟩), .int .i64 p] w fun e w' => e = .returned (.int .i64 (freeC s p).1) ∧ K0 w0 w' L (freeC s p).2 ∧ Upd (Cb L s) w w' := by
  refine (free_any h.ca h.ci hI).mono ?_
  rintro e w' ⟨rfl, C', U⟩
  exact ⟨rfl, h.next U C' (h.ci.freec _) (fun a ha => .inl (cb_len (free_len h.ci _) ha)), U⟩
theorem k_room (h : K0 w0 w L s) {room : Nat} (hr : room < 18446744073709551616) :
    Calls Try.prog 20 #[.pointer (some ⟨L.cb, 0, none⟩), .int .u64 room] w fun e w' => e = .returned (.tuple #[]) ∧ K0 w0 w' L (roomC s room) ∧ Upd (Cb L s) w w' := by
  refine (room_any h.ca h.ci.n1 h.ci.n2 h.ci.iv hr).mono ?_
  rintro e w' ⟨rfl, C', U⟩
  exact ⟨rfl, h.next U C' (h.ci.roomc hr) (fun a ha => .inl (cb_len (room_len h.ci _) ha)), U⟩
theorem k_new (w0 : World) {n : Nat} (h1 : 1 ≤ n) (h2 : n ≤ 64) {room : Nat} (hr : room < 18446744073709551616) {st : Bool} :
    Calls Try.prog 7 #[.int .i64 n, .int .u64 room, .bool st] w0 fun e w' => ∃ L : Lo, e = .returned (.tuple #[.pointer (some ⟨L.cb, 0, none⟩), .int .i64 0]) ∧ K0 w0 w' L (newC n room st) := by
  refine (new_any w0 h1 h2 hr).mono ?_
  rintro e w' ⟨L, rfl, C, U, hL⟩
  exact ⟨L, rfl, C, Ci.new h1 h2 hr, U.below (fun k hk => hk) (fun k hk => hk.elim), hL⟩
end
end Go.Proofs.Ytlkfabejecgfgaa
