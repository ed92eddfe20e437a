import Derived.Test.YtocanjefonlnaaaDoorP
namespace Go.Proofs.YtocanjefonlnaaaDoor
open Go.RowKit
set_option linter.unusedVariables false
set_option linter.unusedSimpArgs false
set_option maxRecDepth 100000 in
set_option maxHeartbeats 1000000 in
theorem len_any {w : World} {T : Nat} {C : Tc} {f : Nat → Value} (h : Blk w T 72 (tbC C f)) {R : List Tm} (hr : w.ownsRow 0 81 3 C.rv R.length (tcs R)) (hR : R.length ≤ 100000) (h0 : 0 ≤ C.cnt) (h1 : C.cnt ≤ 100000) :
    Calls Tryd.prog 18 #[ptr T] w fun e w' => e = .returned (.int .i64 (C.cnt + R.length)) ∧ w' = w.drew := by
  have t16 := h.cell1 16 _ rfl
  have t18 := h.cell1 18 _ rfl
  obtain ⟨a, c, hv⟩ := row_slice hr
  rw [hv] at t18
  generalize C.cnt = N at *
  generalize R.length = M at *
  have hw : IntKind.i64.wrap (N + (M : Int)) = N + M := by rw [IntKind.wrap_i64]; omega
  clear h hr hv
  go_enter Tryd.func18, Tryd.ntmps18
  go_wp2_with fail
  go_region
  go_wp2_with fail
  go_ret
  exact ⟨rfl, rfl⟩
theorem Hts.upd {S : Nat → Prop} {w w' : World} {hv : Value} (h : Hts w hv) (u : Upd S w w') (hS : ∀ k, hv.ownBlock = some k → ¬ S k) : Hts w' hv := by
  rcases h with h | ⟨hb, off, n, c, rfl, h1, h2, h3⟩
  · exact .inl h
  · refine .inr ⟨hb, off, n, c, rfl, h1, h2, fun j hj => ?_⟩
    obtain ⟨y, y0, y1, hy⟩ := h3 j hj
    have hl := block_lt_of_cell hy
    exact ⟨y, y0, y1, (World.cell?_of_block (a := ⟨hb, off + j, none⟩) (u.block hb hl (hS hb rfl))).trans hy⟩
theorem Tab.upd {S : Nat → Prop} {w w' : World} {T : Nat} {B : Nat → Prop} {how : Int} {E : List Ent} {R : List Tm} {sz fi la : Int} (h : Tab w T B how E R sz fi la) (u : Upd S w w') (hS : ∀ k, B k → ¬ S k) : Tab w' T B how E R sz fi la := by
  obtain ⟨C, L, h1, h2, h3, h4, h5, h6, hs, hr, hh, b1, b2, b3, b4⟩ := h.ex
  exact ⟨C, L, h1, h2, h3, h4, h5, h6, hs.upd u (hS _ (b1 _ (.inl rfl))) (fun n hn => ⟨hS _ (b1 _ (.inr ⟨n, hn, .inl rfl⟩)), hS _ (b1 _ (.inr ⟨n, hn, .inr rfl⟩))⟩), row_upd hr u (fun k hk => hS k (b2 k hk)), hh.upd u (fun k hk => hS k (b3 k hk)), b1, b2, b3, fun k hk => ⟨Nat.lt_of_lt_of_le (b4 k hk).1 u.size, (b4 k hk).2⟩⟩
theorem Tab.below {w w' : World} {T : Nat} {B : Nat → Prop} {how : Int} {E : List Ent} {R : List Tm} {sz fi la : Int} (h : Tab w T B how E R sz fi la) (u : Below w.heap.size w w') : Tab w' T B how E R sz fi la :=
  h.upd (S := Non) (Upd.ofBelow u) (fun _ _ h => h)
/-- An entry put in. -/
def eins (E : List Ent) (p : Nat) (e : Ent) : List Ent := E.take p ++ e :: E.drop p
theorem ins_map (L : List Nd) (p : Nat) (n : Nd) : (ins L p n).map (·.e) = eins (L.map (·.e)) p n.e := by
  unfold ins eins; simp
def ekey (a b : Ent) : Prop := a.u = b.u ∧ a.s = b.s ∧ a.k = b.k
/-- Whether an entry of that key is there. -/
def eis (E : List Ent) (p : Nat) (e : Ent) : Prop := ∃ n, E[p]? = some n ∧ ekey n e
/-- The table has grown: its blocks are those that it had, and new ones. -/
def grB (B : Nat → Prop) (w w' : World) : Nat → Prop := fun k => B k ∨ (w.heap.size ≤ k ∧ k < w'.heap.size)
/-- What put leaves. -/
def PutPost (w : World) (T : Nat) (B : Nat → Prop) (how : Int) (E : List Ent) (R : List Tm) (sz fi la : Int) (there : Prop) (E' : List Ent) (R' : List Tm) (e : Ending) (w' : World) : Prop :=
  (there ∧ e = .returned (.bool false) ∧ Below w.heap.size w w') ∨ (¬ there ∧ e = .returned (.bool true) ∧ Tab w' T (grB B w w') how E' R' sz fi la ∧ Upd B w w')
theorem listadd_any {w : World} {T : Nat} {B : Nat → Prop} {how : Int} {E : List Ent} {R : List Tm} {sz fi la : Int} (h : Tab w T B how E R sz fi la) (hz : Tz w) (x : Ent) (p : Nat) (hc : CutE how E x.u x.s x.k p) (hl : E.length < 9000) :
    Calls Tryd.prog 48 #[ptr T, .agg #[.string x.u, .int .u64 x.s, .int .i64 x.k, .string x.v]] w (PutPost w T B how E R sz fi la (eis E p x) (eins E p x) R) := by
  obtain ⟨C, L, rfl, rfl, rfl, rfl, hcnt, rfl, hS, hRow, hH, b1, b2, b3, b4⟩ := h.ex
  have hlen : (L.map (·.e)).length = L.length := by simp
  by_cases he : eis (L.map (·.e)) p x
  · obtain ⟨n, hn, hk⟩ := he
    rw [List.getElem?_map] at hn
    cases hlp : L[p]? with
    | none => rw [hlp] at hn; cases hn
    | some n0 =>
      rw [hlp] at hn
      simp at hn
      refine (add_old hS x p hc.cut n0 hlp (by rw [hn]; exact hk)).mono ?_
      rintro e w' ⟨rfl, hb⟩
      exact .inl ⟨⟨n, by rw [List.getElem?_map, hlp]; simp [hn], hk⟩, rfl, hb⟩
  · refine (add_new hS x p hc.cut (fun n hn hk => he ⟨n.e, by rw [List.getElem?_map, hn]; rfl, hk⟩) hH hz (by omega) (by omega)).mono ?_
    rintro e w' ⟨rfl, n, hne, hnb, hnx, hS', hU⟩
    have hp : p ≤ L.length := by simpa using hc.le
    have hnin : (ins L p n)[p]? = some n := ins_at L p n hp
    have l1 := (hS'.nod p n hnin).lt
    have l2 := (hS'.lnk p n hnin).lt
    have hsk : ∀ k, SkB T (ins L p n) k → SkB T L k ∨ (w.heap.size ≤ k ∧ k < w'.heap.size) := by
      rintro k (rfl | ⟨m, hm, hk⟩)
      · exact .inl (.inl rfl)
      · rcases ins_mem hm with rfl | hm
        · rcases hk with rfl | rfl
          · exact .inr ⟨hnb, l1⟩
          · exact .inr ⟨hnx, l2⟩
        · exact .inl (.inr ⟨m, hm, hk⟩)
    have hrv : ∀ k, C.rv.ownBlock = some k → ¬ SkB T L k := by
      intro k hk
      rintro (rfl | ⟨m, hm, rfl | rfl⟩)
      · exact row_ne hRow hS.tab (by decide) _ hk rfl
      · obtain ⟨i, hi⟩ := List.mem_iff_getElem?.1 hm
        exact row_ne hRow (hS.nod i m hi) (by decide) _ hk rfl
      · obtain ⟨i, hi⟩ := List.mem_iff_getElem?.1 hm
        exact row_ne hRow (hS.lnk i m hi) (by decide) _ hk rfl
    refine .inr ⟨he, rfl, ⟨C.more, ins L p n, rfl, rfl, rfl, rfl, ?_, ?_, hS', row_upd hRow hU hrv, hH.upd hU (fun k hk => (b4 k hk).2.1), ?_, fun k hk => .inl (b2 k hk), fun k hk => .inl (b3 k hk), fun k hk => ⟨Nat.lt_of_lt_of_le (b4 k hk).1 hU.size, ?_, (b4 k hk).2.2⟩⟩, hU.mono (fun k _ hk => b1 k hk)⟩
    · show C.cnt + 1 = _
      rw [hcnt]
      unfold eins
      simp
      omega
    · rw [ins_map, hne]
    · intro k hk
      rcases hsk k hk with hk | hk
      · exact .inl (b1 k hk)
      · exact .inr hk
    · intro hk'
      rcases hsk k hk' with hk' | hk'
      · exact (b4 k hk).2.1 hk'
      · have := (b4 k hk).1; omega
theorem rangeadd_any {w : World} {T : Nat} {B : Nat → Prop} {how : Int} {E : List Ent} {R : List Tm} {sz fi la : Int} (h : Tab w T B how E R sz fi la) (x : Tm) (p : Nat) (hc : TCut how R x p) (hl : R.length < 9000) :
    Calls Tryd.prog 47 #[rptr T, x.v] w (PutPost w T B how E R sz fi la (tis how R x p = true) E (tins R p x)) := by
  obtain ⟨C, L, rfl, rfl, rfl, rfl, hcnt, rfl, hS, hRow, hH, b1, b2, b3, b4⟩ := h.ex
  refine (radd_any hS.tab hRow x p hc (by omega)).mono ?_
  rintro e w' (⟨h1, rfl, h2⟩ | ⟨h1, rfl, rv', hT, hro, hU, hloc⟩)
  · exact .inl ⟨h1, rfl, h2⟩
  · have hrv : ∀ k, C.rv.ownBlock = some k → ∀ m ∈ L, k ≠ m.b ∧ k ≠ m.x := by
      intro k hk m hm
      obtain ⟨i, hi⟩ := List.mem_iff_getElem?.1 hm
      exact ⟨row_ne hRow (hS.nod i m hi) (by decide) _ hk, row_ne hRow (hS.lnk i m hi) (by decide) _ hk⟩
    have hrl : ∀ k, rv'.ownBlock = some k → k < w'.heap.size := fun k hk => by
      rcases hro.2 with ⟨rfl, _⟩ | ⟨g, cap, cur, rfl, _, hg, _⟩
      · cases hk
      · cases hk; exact (Array.getElem?_eq_some_iff.1 hg).1
    have nS : ∀ m ∈ L, ¬ (m.b = T ∨ C.rv.ownBlock = some m.b) ∧ ¬ (m.x = T ∨ C.rv.ownBlock = some m.x) := fun m hm => by
      obtain ⟨i, hi⟩ := List.mem_iff_getElem?.1 hm
      refine ⟨?_, ?_⟩
      · rintro (e | e)
        · exact (hS.nod i m hi).ne hS.tab (by decide) e
        · exact (hrv _ e m hm).1 rfl
      · rintro (e | e)
        · exact (hS.lnk i m hi).ne hS.tab (by decide) e
        · exact (hrv _ e m hm).2 rfl
    have hlen : (tins R p x).length = R.length + 1 := by unfold tins; have := hc.le; simp; omega
    refine .inr ⟨by rw [h1]; simp, rfl, ⟨{ C with rv := rv' }, L, rfl, rfl, rfl, rfl, hcnt, rfl, ⟨hT, fun i n hn => (hS.nod i n hn).upd hU (nS n (List.mem_of_getElem? hn)).1, fun i n hn => (hS.lnk i n hn).upd hU (nS n (List.mem_of_getElem? hn)).2, hS.hgt, hS.injb, hS.injx, hS.brn⟩, ?_, hH.upd hU ?_, fun k hk => .inl (b1 k hk), ?_, fun k hk => .inl (b3 k hk), fun k hk => ⟨Nat.lt_of_lt_of_le (b4 k hk).1 hU.size, (b4 k hk).2.1, ?_⟩⟩, hU.mono ?_⟩
    · rw [hlen]; exact hro
    · intro k hk
      rintro (rfl | e)
      · exact (b4 _ hk).2.1 (.inl rfl)
      · exact (b4 k hk).2.2 e
    · intro k hk
      rcases hloc with e | ⟨k', e, hk'⟩
      · exact .inl (b2 k (by rw [← e]; exact hk))
      · have : rv'.ownBlock = some k := hk
        rw [e] at this; cases this
        exact .inr ⟨hk', hrl k e⟩
    · intro e2
      have e2' : rv'.ownBlock = some k := e2
      rcases hloc with e | ⟨k', e, hk'⟩
      · exact (b4 k hk).2.2 (by rw [← e]; exact e2')
      · rw [e] at e2'; cases e2'
        have := (b4 _ hk).1; omega
    · rintro k _ (rfl | e)
      · exact b1 _ (.inl rfl)
      · exact b2 k e
end Go.Proofs.YtocanjefonlnaaaDoor
