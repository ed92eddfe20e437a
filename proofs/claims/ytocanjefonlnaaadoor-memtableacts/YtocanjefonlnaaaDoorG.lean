import Derived.Test.YtocanjefonlnaaaDoorEq
namespace Go.Proofs.YtocanjefonlnaaaDoor
open Go.RowKit
set_option linter.unusedVariables false
set_option linter.unusedSimpArgs false
/-- Blocks of a list. -/
def SkB (T : Nat) (L : List Nd) : Nat → Prop := fun k => k = T ∨ ∃ m ∈ L, k = m.b ∨ k = m.x
/-- The links while a node is being put in at p, m levels being done. -/
def lnM (L : List Nd) (p : Nat) (n : Nd) (m : Nat) : Nat → Nat → Option Nd := fun i j => if j < m ∧ i = pq L j p then some n else nxt (L.drop i) j
def prM (L : List Nd) (p : Nat) (n : Nd) : Nat → Option Nd := fun i => if i = p then some n else atq L i
theorem tbC_ext {C : Tc} {f g : Nat → Value} (h : ∀ j, j < 14 → f j = g j) : tbC C f = tbC C g := by
  unfold tbC
  rw [h 0 (by decide), h 1 (by decide), h 2 (by decide), h 3 (by decide), h 4 (by decide), h 5 (by decide), h 6 (by decide), h 7 (by decide), h 8 (by decide), h 9 (by decide), h 10 (by decide), h 11 (by decide), h 12 (by decide), h 13 (by decide)]
theorem tbC_set (C : Tc) (f : Nat → Value) (v : Value) (m : Nat) (h : m < 14) : (tbC C f).set (2 + m) v = tbC C (fun j => if j = m then v else f j) := by
  have : m = 0 ∨ m = 1 ∨ m = 2 ∨ m = 3 ∨ m = 4 ∨ m = 5 ∨ m = 6 ∨ m = 7 ∨ m = 8 ∨ m = 9 ∨ m = 10 ∨ m = 11 ∨ m = 12 ∨ m = 13 := by omega
  rcases this with h | h | h | h | h | h | h | h | h | h | h | h | h | h <;> subst h <;> rfl
theorem lnM_other (L : List Nd) (p : Nat) (n : Nd) (m i j : Nat) (h : ¬ (j = m ∧ i = pq L m p)) : lnM L p n (m + 1) i j = lnM L p n m i j := by
  unfold lnM
  by_cases h1 : j < m ∧ i = pq L j p
  · rw [if_pos h1, if_pos ⟨by omega, h1.2⟩]
  · rw [if_neg h1, if_neg]
    rintro ⟨h2, h3⟩
    by_cases h4 : j = m
    · subst h4; exact h ⟨rfl, h3⟩
    · exact h1 ⟨by omega, h3⟩
theorem lnM_at (L : List Nd) (p : Nat) (n : Nd) (m : Nat) : lnM L p n (m + 1) (pq L m p) m = some n := by
  unfold lnM; rw [if_pos ⟨by omega, rfl⟩]
theorem lnM_old (L : List Nd) (p : Nat) (n : Nd) (m : Nat) : lnM L p n m (pq L m p) m = nxt (L.drop p) m := by
  unfold lnM; rw [if_neg (by omega)]
  exact nxt_skip L m p _ _ rfl (pq_le L m p) (pq_btw L m p)
/-- The row of the new node's links, m of them being laid. -/
def nwC (L : List Nd) (p : Nat) (n : Nd) (m : Nat) : List Value := (List.range n.h).map fun j => if j < m then pv (nxt (L.drop p) j) else .pointer none
theorem nwC_set (L : List Nd) (p : Nat) (n : Nd) (m : Nat) (h : m < n.h) : (nwC L p n m).set m (pv (nxt (L.drop p) m)) = nwC L p n (m + 1) := by
  apply List.ext_getElem?
  intro i
  rw [List.getElem?_set]
  unfold nwC
  simp only [List.length_map, List.length_range, List.getElem?_map]
  by_cases e : m = i
  · subst e; simp [h, List.getElem?_range h]
  · rw [if_neg e]
    by_cases hi : i < n.h
    · rw [List.getElem?_range hi]
      simp only [Option.map_some]
      by_cases h2 : i < m
      · rw [if_pos h2, if_pos (by omega)]
      · rw [if_neg h2, if_neg (by omega)]
    · rw [List.getElem?_eq_none (by simp; omega)]; rfl
theorem lnk_set (N m : Nat) (f g : Nat → Value) (v : Value) (h : m < N) (hv : g m = v) (ho : ∀ j, j ≠ m → g j = f j) : ((List.range N).map f).set m v = (List.range N).map g := by
  apply List.ext_getElem?
  intro i
  rw [List.getElem?_set]
  simp only [List.length_map, List.length_range, List.getElem?_map]
  by_cases e : m = i
  · subst e; simp [h, List.getElem?_range h, hv]
  · rw [if_neg e]
    by_cases hi : i < N
    · rw [List.getElem?_range hi]; simp [ho i (fun x => e x.symm)]
    · rw [List.getElem?_eq_none (by simp; omega)]; rfl
structure Mi (w : World) (T : Nat) (C : Tc) (L : List Nd) (p Y : Nat) (n : Nd) (pr : Nat → Option Nd) (m : Nat) (W : World) : Prop where
  sk : Sk W T C L (lnM L p n m) pr
  nb : Blk W n.b 88 (ndC n (pv (atq L p)))
  nx : Blk W n.x 64 (nwC L p n m)
  tow : Blk W Y 66 (pth L p 0)
  upd : Upd (SkB T L) w W
  hb : w.heap.size ≤ n.b
  hx : w.heap.size ≤ n.x
  old : ∀ k, SkB T L k → k < w.heap.size
  h1 : 1 ≤ n.h
  h2 : n.h ≤ 14
  bn : n.born = C.cnt
theorem lb_in (T : Nat) (L : List Nd) (q : Nat) : SkB T L (lb T L q) := by
  unfold lb
  cases e : atq L q with
  | none => exact .inl rfl
  | some n =>
    cases q with
    | zero => cases e
    | succ q => exact .inr ⟨n, List.mem_of_getElem? e, .inr rfl⟩
theorem Mi.drew {w : World} {T : Nat} {C : Tc} {L : List Nd} {p Y : Nat} {n : Nd} {pr : Nat → Option Nd} {m : Nat} {W : World} (h : Mi w T C L p Y n pr m W) : Mi w T C L p Y n pr m W.drew :=
  ⟨⟨h.sk.tab, h.sk.nod, h.sk.lnk, h.sk.hgt, h.sk.injb, h.sk.injx, h.sk.brn⟩, h.nb, h.nx, h.tow, h.upd.drew, h.hb, h.hx, h.old, h.h1, h.h2, h.bn⟩
theorem Mi.put {w : World} {T : Nat} {C : Tc} {L : List Nd} {p Y : Nat} {n : Nd} {pr : Nat → Option Nd} {m : Nat} {W : World} (h : Mi w T C L p Y n pr m W) (hm : m < n.h) (hp : p ≤ L.length) :
    Mi w T C L p Y n pr (m + 1) ((W.setCell ⟨n.x, m, none⟩ (pv (nxt (L.drop p) m))).setCell ⟨lb T L (pq L m p), lo L (pq L m p) + m, none⟩ (ptr n.b)) := by
  have hq := pq_le L m p
  have hr := pq_rch L m p
  have hB := lb_in T L (pq L m p)
  have hBo := h.old _ hB
  have hxB : n.x ≠ lb T L (pq L m p) := by have := h.hx; omega
  have m14 : m < 14 := by have := h.h2; omega
  obtain ⟨q, eq⟩ : ∃ q, pq L m p = q := ⟨_, rfl⟩
  have hT : n.x ≠ T := by have := h.old T (.inl rfl); have := h.hx; omega
  have hnx : ∀ (i : Nat) (k : Nd), L[i]? = some k → k.x ≠ n.x ∧ k.b ≠ n.x := fun i k hk => by
    have m1 := List.mem_of_getElem? hk
    have := h.old k.x (.inr ⟨k, m1, .inr rfl⟩)
    have := h.old k.b (.inr ⟨k, m1, .inl rfl⟩)
    have := h.hx
    omega
  refine ⟨⟨?_, ?_, ?_, h.sk.hgt, h.sk.injb, h.sk.injx, h.sk.brn⟩, ?_, ?_, ?_, ?_, h.hb, h.hx, h.old, h.h1, h.h2, h.bn⟩
  · -- the table
    have t1 := h.sk.tab.other (a := ⟨n.x, m, none⟩) (fun e => hT e.symm) (pv (nxt (L.drop p) m))
    rw [eq]
    cases q with
    | zero =>
      have : lb T L 0 = T ∧ lo L 0 = 2 := ⟨rfl, rfl⟩
      rw [this.1, this.2]
      have t2 := t1.set (2 + m) (ptr n.b)
      rw [tbC_set _ _ _ _ m14] at t2
      rw [tbC_ext (g := fun j => if j = m then ptr n.b else pv (lnM L p n m 0 j))]
      · exact t2
      · intro j hj
        show pv _ = _
        by_cases e : j = m
        · subst e
          rw [if_pos rfl]
          have := lnM_at L p n j
          rw [eq] at this
          rw [this]; rfl
        · rw [if_neg e, lnM_other L p n m 0 j (fun x => e x.1)]
    | succ q =>
      have hne : T ≠ lb T L (q + 1) := by
        rw [eq] at hr
        rcases hr with hr | ⟨k, _, hk, _⟩
        · cases hr
        · have ea : atq L (q + 1) = some k := hk
          unfold lb; rw [ea]
          exact h.sk.tab.ne (h.sk.lnk q k hk) (by decide)
      have t2 := t1.other (a := ⟨lb T L (q + 1), lo L (q + 1) + m, none⟩) hne (ptr n.b)
      rw [tbC_ext (g := fun j => pv (lnM L p n m 0 j))]
      · exact t2
      · intro j hj
        rw [lnM_other L p n m 0 j (fun x => by rw [eq] at x; omega)]
  · intro i k hk
    have t1 := (h.sk.nod i k hk).other (a := ⟨n.x, m, none⟩) (hnx i k hk).2 (pv (nxt (L.drop p) m))
    refine t1.other ?_ _
    show k.b ≠ lb T L _
    rw [eq]
    cases q with
    | zero => exact (h.sk.nod i k hk).ne h.sk.tab (by decide)
    | succ q =>
      rw [eq] at hr
      rcases hr with hr | ⟨k', _, hk', _⟩
      · cases hr
      · have ea : atq L (q + 1) = some k' := hk'
        unfold lb; rw [ea]
        exact (h.sk.nod i k hk).ne (h.sk.lnk q k' hk') (by decide)
  · intro i k hk
    have t1 := (h.sk.lnk i k hk).other (a := ⟨n.x, m, none⟩) (hnx i k hk).1 (pv (nxt (L.drop p) m))
    rw [eq]
    by_cases ei : q = i + 1
    · subst ei
      have ea : atq L (i + 1) = some k := hk
      have e1 : lb T L (i + 1) = k.x := by unfold lb; rw [ea]
      have e2 : lo L (i + 1) = 0 := by unfold lo; rw [ea]
      have hmk : m < k.h := by
        rw [eq] at hr
        rcases hr with hr | ⟨k', _, hk', h3⟩
        · cases hr
        · have : L[i]? = some k' := hk'
          rw [hk] at this; cases this; exact h3
      rw [e1, e2, Nat.zero_add]
      have t2 := t1.set m (ptr n.b)
      rw [lnk_set k.h m _ (fun j => pv (lnM L p n (m + 1) (i + 1) j)) _ hmk] at t2
      · exact t2
      · show pv _ = _
        have := lnM_at L p n m
        rw [eq] at this
        rw [this]; rfl
      · intro j hj
        show pv _ = pv _
        rw [lnM_other L p n m _ j (fun x => hj x.1)]
    · have hne : k.x ≠ lb T L q := by
        cases q with
        | zero => exact (h.sk.lnk i k hk).ne h.sk.tab (by decide)
        | succ q =>
          rw [eq] at hr
          rcases hr with hr | ⟨k', _, hk', _⟩
          · cases hr
          · have ea : atq L (q + 1) = some k' := hk'
            unfold lb; rw [ea]
            intro e
            exact ei (by rw [h.sk.injx i q k k' hk hk' e])
      have t2 := t1.other (a := ⟨lb T L q, lo L q + m, none⟩) hne (ptr n.b)
      have : ((List.range k.h).map fun j => pv (lnM L p n (m + 1) (i + 1) j)) = ((List.range k.h).map fun j => pv (lnM L p n m (i + 1) j)) := by
        apply List.map_congr_left
        intro j _
        rw [lnM_other L p n m _ j (fun x => by rw [eq] at x; omega)]
      rw [this]
      exact t2
  · refine (h.nb.other (a := ⟨n.x, m, none⟩) (h.nb.ne h.nx (by decide)) _).other ?_ _
    show n.b ≠ lb T L _
    have := h.hb; omega
  · have t1 := h.nx.set m (pv (nxt (L.drop p) m))
    rw [nwC_set L p n m hm] at t1
    exact t1.other hxB _
  · refine (h.tow.other (a := ⟨n.x, m, none⟩) (h.tow.ne h.nx (by decide)) _).other ?_ _
    show Y ≠ lb T L _
    rw [eq]
    cases q with
    | zero => exact h.tow.ne h.sk.tab (by decide)
    | succ q =>
      rw [eq] at hr
      rcases hr with hr | ⟨k', _, hk', _⟩
      · cases hr
      · have ea : atq L (q + 1) = some k' := hk'
        unfold lb; rw [ea]
        exact h.tow.ne (h.sk.lnk q k' hk') (by decide)
  · exact (h.upd.setCell (p := ⟨n.x, m, none⟩) (fun x => by have : n.x < w.heap.size := x; have := h.hx; omega) _).setCell (fun _ => hB) _
theorem ins_mem {L : List Nd} {p : Nat} {n k : Nd} (h : k ∈ ins L p n) : k = n ∨ k ∈ L := by
  unfold ins at h
  rw [List.mem_append, List.mem_cons] at h
  rcases h with h | h | h
  · exact .inr (List.mem_of_mem_take h)
  · exact .inl h
  · exact .inr (List.mem_of_mem_drop h)
/-- A place of the longer list. -/
theorem ins_way {L : List Nd} {p : Nat} {n k : Nd} (hp : p ≤ L.length) {i : Nat} (h : (ins L p n)[i]? = some k) : (i < p ∧ L[i]? = some k) ∨ (i = p ∧ k = n) ∨ ∃ i', i = i' + 1 ∧ p ≤ i' ∧ L[i']? = some k := by
  rcases Nat.lt_trichotomy i p with h1 | h1 | h1
  · exact .inl ⟨h1, by rw [← ins_lo L p n hp i h1]; exact h⟩
  · subst h1; rw [ins_at L i n hp] at h; cases h; exact .inr (.inl ⟨rfl, rfl⟩)
  · obtain ⟨i', rfl⟩ : ∃ i', i = i' + 1 := ⟨i - 1, by omega⟩
    exact .inr (.inr ⟨i', rfl, by omega, by rw [← ins_hi L p n hp i' (by omega)]; exact h⟩)
def Tc.more (C : Tc) : Tc := { C with cnt := C.cnt + 1 }
theorem Mi.done {w : World} {T : Nat} {C : Tc} {L : List Nd} {p Y : Nat} {n : Nd} {W : World} (h : Mi w T C L p Y n (prM L p n) n.h W) (hp : p ≤ L.length) :
    Sk (W.setCell ⟨T, 16, none⟩ (.int .i64 (C.cnt + 1))) T C.more (ins L p n) (lnF (ins L p n)) (atq (ins L p n)) := by
  have hfr : ∀ (i : Nat) (k : Nd), L[i]? = some k → k.b ≠ n.b ∧ k.x ≠ n.x := fun i k hk => by
    have m1 := List.mem_of_getElem? hk
    have := h.old k.x (.inr ⟨k, m1, .inr rfl⟩)
    have := h.old k.b (.inr ⟨k, m1, .inl rfl⟩)
    have := h.hx
    have := h.hb
    omega
  refine ⟨?_, ?_, ?_, ?_, ?_, ?_, ?_⟩
  · have t := h.sk.tab.set 16 (.int .i64 (C.cnt + 1))
    have e : (tbC C fun j => pv (lnM L p n n.h 0 j)).set 16 (.int .i64 (C.cnt + 1)) = tbC C.more (fun j => pv (lnM L p n n.h 0 j)) := rfl
    rw [e] at t
    rw [tbC_ext (g := fun j => pv (lnM L p n n.h 0 j))]
    · exact t
    · intro j _
      show pv (nxt ((ins L p n).drop 0) j) = _
      rw [nxt_ins L p n hp j 0 (Nat.zero_le _) (.inl rfl)]; rfl
  · intro i k hk
    rcases ins_way hp hk with ⟨h1, h2⟩ | ⟨rfl, rfl⟩ | ⟨i', rfl, h1, h2⟩
    · rw [atq_lo L p n hp i (by omega)]
      have := h.sk.nod i k h2
      unfold prM at this; rw [if_neg (by omega)] at this
      exact this.other (this.ne h.sk.tab (by decide)) _
    · rw [atq_lo L _ _ hp _ (Nat.le_refl _)]
      exact h.nb.other (h.nb.ne h.sk.tab (by decide)) _
    · have := h.sk.nod i' k h2
      unfold prM at this
      by_cases e : i' = p
      · subst e
        rw [if_pos rfl] at this
        rw [atq_at L _ n hp]
        exact this.other (this.ne h.sk.tab (by decide)) _
      · rw [if_neg e] at this
        rw [atq_hi L p n hp i' (by omega)]
        exact this.other (this.ne h.sk.tab (by decide)) _
  · intro i k hk
    rcases ins_way hp hk with ⟨h1, h2⟩ | ⟨rfl, rfl⟩ | ⟨i', rfl, h1, h2⟩
    · have t := h.sk.lnk i k h2
      have : ((List.range k.h).map fun j => pv (lnF (ins L p n) (i + 1) j)) = ((List.range k.h).map fun j => pv (lnM L p n n.h (i + 1) j)) := by
        apply List.map_congr_left
        intro j hj
        unfold lnF lnM
        rw [nxt_ins L p n hp j (i + 1) (by omega) (.inr ⟨k, by omega, h2, List.mem_range.1 hj⟩)]
      rw [this]
      exact t.other (t.ne h.sk.tab (by decide)) _
    · have : ((List.range k.h).map fun j => pv (lnF (ins L i k) (i + 1) j)) = nwC L i k k.h := by
        unfold nwC
        apply List.map_congr_left
        intro j hj
        unfold lnF
        rw [ins_dropn L i k hp i (Nat.le_refl _), if_pos (List.mem_range.1 hj)]
      rw [this]
      exact h.nx.other (h.nx.ne h.sk.tab (by decide)) _
    · have t := h.sk.lnk i' k h2
      have : ((List.range k.h).map fun j => pv (lnF (ins L p n) (i' + 1 + 1) j)) = ((List.range k.h).map fun j => pv (lnM L p n n.h (i' + 1) j)) := by
        apply List.map_congr_left
        intro j hj
        unfold lnF lnM
        rw [ins_dropn L p n hp (i' + 1) (by omega), if_neg]
        have := pq_le L j p
        omega
      rw [this]
      exact t.other (t.ne h.sk.tab (by decide)) _
  · intro k hk
    rcases ins_mem hk with rfl | hk
    · exact ⟨h.h1, h.h2⟩
    · exact h.sk.hgt k hk
  · intro i j a b ha hb hab
    rcases ins_way hp ha with ⟨h1, h2⟩ | ⟨rfl, rfl⟩ | ⟨i', rfl, h1, h2⟩ <;> rcases ins_way hp hb with ⟨g1, g2⟩ | ⟨rfl, rfl⟩ | ⟨j', rfl, g1, g2⟩
    · exact h.sk.injb i j a b h2 g2 hab
    · exact absurd hab (hfr i a h2).1
    · have := h.sk.injb i j' a b h2 g2 hab; omega
    · exact absurd hab.symm (hfr j b g2).1
    · rfl
    · exact absurd hab.symm (hfr j' b g2).1
    · have := h.sk.injb i' j a b h2 g2 hab; omega
    · exact absurd hab (hfr i' a h2).1
    · have := h.sk.injb i' j' a b h2 g2 hab; omega
  · intro i j a b ha hb hab
    rcases ins_way hp ha with ⟨h1, h2⟩ | ⟨rfl, rfl⟩ | ⟨i', rfl, h1, h2⟩ <;> rcases ins_way hp hb with ⟨g1, g2⟩ | ⟨rfl, rfl⟩ | ⟨j', rfl, g1, g2⟩
    · exact h.sk.injx i j a b h2 g2 hab
    · exact absurd hab (hfr i a h2).2
    · have := h.sk.injx i j' a b h2 g2 hab; omega
    · exact absurd hab.symm (hfr j b g2).2
    · rfl
    · exact absurd hab.symm (hfr j' b g2).2
    · have := h.sk.injx i' j a b h2 g2 hab; omega
    · exact absurd hab (hfr i' a h2).2
    · have := h.sk.injx i' j' a b h2 g2 hab; omega
  · intro k hk
    show k.born < C.cnt + 1
    rcases ins_mem hk with rfl | hk
    · rw [h.bn]; omega
    · have := h.sk.brn k hk; omega
end Go.Proofs.YtocanjefonlnaaaDoor
