/-
  slices.SortFunc at keys and at tombstones, slices.Compact at keys: contracts over rows of one's own.
-/
import Derived.Shelf.SlSortCmp.Whole1
import Derived.Shelf.SlSortCmp.WholeK
import Derived.Shelf.SlSortCmp.NoneTotal
import Derived.Shelf.SlicesE.Compact
import Derived.Test.YtagnnocecfoggaaSo
import Derived.Test.YtagnnocecfoggaaCl
import Derived.Lib.OwnBridge
namespace Go.Proofs.Ytagnnocecfoggaa
open Go.RowKit Go.Lib Go.Sort
set_option linter.unusedVariables false
set_option linter.unusedSimpArgs false
theorem cls_sc (l : List ByteArray) : cls sc l = l.map Value.string := by
  induction l with
  | nil => rfl
  | cons x l ih => rw [cls_cons, ih]; rfl
theorem flat_cls {α : Type} [Inhabited α] {enc : α → List Value} {k : Nat} (hk : ∀ x, (enc x).length = k) (d : Array α) : flatK enc k d = (cls enc d.toList).toArray := by
  refine ext_get! (by simp [cls_len hk]) fun t ht => ?_
  have ht' : t < d.size * k := by simpa using ht
  have k0 : 0 < k := by rcases Nat.eq_zero_or_pos k with h | h; · subst h; simp at ht'
                        · exact h
  rw [get_flatK enc k d t ht']
  have hd : t / k < d.size := Nat.div_lt_of_lt_mul (by rw [Nat.mul_comm]; exact ht')
  have hg := cls_get hk d.toList (t / k) d[t / k]! (by rw [getElem!_pos d _ hd]; simp [hd]) (t % k) (Nat.mod_lt _ k0)
  have e : t / k * k + t % k = t := by have := Nat.div_add_mod t k; rw [Nat.mul_comm] at this; exact this
  rw [e] at hg
  have h2 : t % k < (enc d[t / k]!).length := by rw [hk]; exact Nat.mod_lt _ k0
  have h3 : t < (cls enc d.toList).length := by rw [cls_len hk]; simpa using ht'
  rw [List.getElem?_eq_getElem h2, List.getElem?_eq_getElem h3] at hg
  have hg' := Option.some.inj hg
  rw [getElem!_pos (enc d[t / k]!) (t % k) h2]
  simp [h3, hg']
/-- Behind a sort: the row holds other cells, as many. -/
theorem put_row {w : World} {base : Nat} {e : TypeId} {g n cap k : Nat} {xs ys : List Value} (h : w.ownsRow base e k (.slice (some ⟨g, 0, none⟩) n cap) n xs) (hy : ys.length = n * k) (m : Nat) (os : Array Obj) :
    (grow (putRow id (Sort.ahead w m) g 0 ys.toArray) os).ownsRow base e k (.slice (some ⟨g, 0, none⟩) n cap) n ys ∧ Upd (fun j => j = g) w (grow (putRow id (Sort.ahead w m) g 0 ys.toArray) os) := by
  rcases h.2 with ⟨e0, _⟩ | ⟨g', cap', cur, e0, hb, hg, hn, hm, hs, ht⟩
  · cases e0
  · injection e0 with e1 _ e3
    injection e1 with e1
    injection e1 with e1
    subst e1; subst e3
    have hgl : g < w.heap.size := (Array.getElem?_eq_some_iff.1 hg).1
    have hnk : n * k ≤ cap * k := Nat.mul_le_mul_right _ hn
    refine ⟨⟨hy, .inr ⟨g, cap, putCells id 0 ys.toArray cur, rfl, hb, ?_, hn, hm, by simpa [putCells] using hs, ?_⟩⟩, ⟨rfl, rfl, rfl, by simp [grow, putRow, mapBlock, Sort.ahead], fun j hj hne => ?_⟩⟩
    · rw [heap_grow_old _ _ (by simpa [putRow, mapBlock, Sort.ahead] using hgl)]
      simp [putRow, mapBlock, Sort.ahead, Array.getElem?_modify, hg, onCells]
    · apply List.ext_getElem?
      intro j
      rw [List.getElem?_take, Array.getElem?_toList]
      by_cases hj : j < n * k
      · have hjc : j < cur.size := by omega
        simp only [if_pos hj, putCells, Array.getElem?_mapIdx, Array.getElem?_eq_getElem hjc, Option.map_some]
        rw [if_pos (by simp; omega), List.getElem?_eq_getElem (by omega)]
        simp [getElem!_pos, show j < ys.length by omega]
      · rw [if_neg hj, List.getElem?_eq_none (by omega)]
    · rw [heap_grow_old _ _ (by simpa [putRow, mapBlock, Sort.ahead] using hj)]
      have hne' : ¬ g = j := fun e => hne e.symm
      simp [putRow, mapBlock, Sort.ahead, Array.getElem?_modify, hne']
theorem holds_row {w : World} {base : Nat} {e : TypeId} {g n cap k : Nat} {xs : List Value} (h : w.ownsRow base e k (.slice (some ⟨g, 0, none⟩) n cap) n xs) : Holds id w g 0 xs.toArray ∧ g < w.heap.size := by
  rcases h.2 with ⟨e0, _⟩ | ⟨g', cap', cur, e0, hb, hg, hn, hm, hs, ht⟩
  · cases e0
  · injection e0 with e1 _ e3
    injection e1 with e1
    injection e1 with e1
    subst e1; subst e3
    refine ⟨fun j hj => ⟨?_, by simp [World.frozen?, hg]⟩, (Array.getElem?_eq_some_iff.1 hg).1⟩
    have hl : xs.length = n * k := h.1
    have hj' : j < n * k := by simpa [hl] using hj
    have e1 : (cur.toList.take (n * k))[j]? = xs[j]? := by rw [ht]
    rw [List.getElem?_take, if_pos hj', Array.getElem?_toList, List.getElem?_eq_getElem (by omega)] at e1
    simp only [World.cell?, hg, Nat.zero_add]
    simp only [Option.isSome_none, Bool.false_eq_true, if_false]
    rw [e1]
    simp [getElem!_pos, show j < xs.length by omega]
theorem row_some {w : World} {base : Nat} {e : TypeId} {k : Nat} {v : Value} {n : Nat} {xs : List Value} (h : w.ownsRow base e k v n xs) (hn : n ≠ 0) : ∃ g cap, v = .slice (some ⟨g, 0, none⟩) n cap := by
  rcases h.2 with ⟨_, h0⟩ | ⟨g, cap, cur, rfl, _⟩
  · exact absurd h0 hn
  · exact ⟨g, cap, rfl⟩
theorem put_map {α : Type} [Inhabited α] (enc : α → Value) (w : World) (g : Nat) (ys : List α) : putRow enc w g 0 ys.toArray = putRow id w g 0 (ys.map enc).toArray := by
  unfold putRow
  congr 1
  funext cur
  unfold putCells
  apply Array.ext
  · simp
  · intro i h1 h2
    simp only [Array.getElem_mapIdx]
    by_cases hi : i < ys.length <;> simp [hi]
theorem lt_kl (how : Int) (x y : ByteArray) : ltOf (cmpH how) x y = kl how x y := rfl
theorem swo_kl (how : Int) : SWO (ltOf (cmpH how)) where
  irrefl x := (kl_sto how).irr x
  trans x y z h1 h2 := (kl_sto how).tr x y z h1 h2
  ntrans x y z h1 h2 := by
    have a : kle how y x = true := by rw [lt_kl] at h1; simp [kle, h1]
    have b : kle how z y = true := by rw [lt_kl] at h2; simp [kle, h2]
    have c := kle_tr b a
    rw [lt_kl]
    simpa [kle] using c
theorem perm_in {α : Type} [Inhabited α] {d d' : Array α} (h : PermIn 0 d.size d d') : d'.toList.Perm d.toList := by
  obtain ⟨h1, _, h2⟩ := h
  have e1 : (d'.extract 0 d.size).toList = d'.toList := by rw [Array.extract_eq_self_of_le (by omega)]
  have e2 : (d.extract 0 d.size).toList = d.toList := by rw [Array.extract_eq_self_of_le (by omega)]
  rw [e1, e2] at h2
  exact h2
theorem sorted_in {α : Type} [Inhabited α] {lt : α → α → Bool} {n : Nat} {d : Array α} (h : SortedIn lt 0 n d) (hn : d.size = n) : d.toList.Pairwise (fun x y => lt y x = false) := by
  rw [List.pairwise_iff_getElem]
  intro i j hi hj hij
  have hj' : j < d.size := by simpa using hj
  have := h i j (Nat.zero_le _) hij (by omega)
  rw [getElem!_pos d j hj', getElem!_pos d i (by omega)] at this
  simpa using this
set_option maxHeartbeats 800000 in
theorem sortS_any {w : World} {B : Nat} {how : Int} (hB : w.cell? ⟨B, 0, none⟩ = some (.int .i64 how)) {base : Nat} {v : Value} {ks : List ByteArray} (hr : RowS w base v ks) (hv : v.ownBlock ≠ some B) (hl : ks.length ≤ 10000) :
    Calls Try.prog 63 #[v, bkv B] w fun e w' => e = .returned (.tuple #[]) ∧ ∃ ks', ks'.Perm ks ∧ ks'.Pairwise (fun x y => kle how x y = true) ∧ RowS w' base v ks' ∧ Upd (fun k => v.ownBlock = some k) w w' := by
  by_cases hne : ks = []
  · subst hne
    obtain ⟨a, cap, rfl⟩ := row_slice hr
    have HS := AnyF.slices_SortFunc_none { Try.sortS with } a cap (bkv B) w
    change Calls Try.prog 63 _ _ _ at HS
    refine HS.mono ?_
    rintro e w' ⟨rfl, rfl⟩
    exact ⟨rfl, [], List.Perm.refl _, List.Pairwise.nil, hr, Upd.refl _ _⟩
  · obtain ⟨g, cap, rfl⟩ := row_some hr (by intro e; exact hne (List.eq_nil_of_length_eq_zero e))
    have hr' : w.ownsRow base 9 1 (.slice (some ⟨g, 0, none⟩) ks.length cap) ks.length (cls sc ks) := hr
    rw [cls_sc] at hr'
    obtain ⟨g', cap', hval, _, hgl, _, _, _, hH⟩ := holds_of_ownsRow hr' (by simp)
    cases hval
    have hgB : g ≠ B := fun e => hv (by rw [e]; rfl)
    have hcmp : CmpReads Try.prog 46 #[ptr B] Value.string (cmpH how) g 0 ks.toArray.size w := by
      intro k os dk hs x y
      have U : Upd (fun k => k = g) w (sortWorld Value.string w g 0 k dk os) := by
        unfold sortWorld
        refine ⟨rfl, rfl, rfl, by simp [Sort.ahead], fun k hk hne => ?_⟩
        rw [Sort.heap_grow_old _ _ (by simpa [Sort.ahead] using hk)]
        have : g ≠ k := fun e => hne e.symm
        simp [Sort.putRow, Sort.mapBlock, Sort.ahead, Array.getElem?_modify, this]
      exact (bykey_any (cell_upd U (fun e => hgB e.symm) hB) x y).mono fun e w' ⟨h1, h2⟩ => ⟨h1, 0, h2⟩
    have HS := Any.slices_SortFunc Try.sortS Value.string (fun _ => rfl) (cmpH how) (swo_kl how) 46 #[ptr B] g 0 cap ks.toArray w (fun args w => by kernel_rfl) hcmp.lays hH hgl (by simp; omega)
    change Calls Try.prog 63 _ _ _ at HS
    refine HS.mono ?_
    rintro e w' ⟨rfl, d', k, os, hp, hso, rfl⟩
    have hperm := perm_in hp
    have hds : d'.size = ks.length := by have := hperm.length_eq; simpa using this
    refine ⟨rfl, d'.toList, by simpa using hperm, ?_, ?_⟩
    · refine (sorted_in hso (by simpa using hp.1)).imp ?_
      intro x y h
      rw [lt_kl] at h
      simp [kle, h]
    · have hpl := put_row (ys := d'.toList.map Value.string) hr (by simp [hds]) k os
      have e : sortWorld Value.string w g 0 k d' os = grow (putRow id (Sort.ahead w k) g 0 (d'.toList.map Value.string).toArray) os := by
        unfold sortWorld
        rw [← put_map]
      rw [e]
      refine ⟨?_, hpl.2.mono (fun j _ hj => by rw [hj]; rfl)⟩
      have h1 := hpl.1
      rw [← cls_sc] at h1 ⊢
      show World.ownsRow _ _ _ _ _ d'.toList.length _
      rw [show d'.toList.length = ks.length by simpa using hds]
      exact h1
def cfT (a b : Tm) : Int := cmpI b.s a.s
theorem lt_cfT (x y : Tm) : ltOf cfT x y = decide (y.s < x.s) := by
  unfold ltOf cfT
  rw [decide_eq_decide]
  have := cmpI_neg1 y.s x.s
  have := cmpI_cases y.s x.s
  omega
theorem swo_cfT : SWO (ltOf cfT) where
  irrefl x := by rw [lt_cfT]; simp
  trans x y z h1 h2 := by rw [lt_cfT] at *; simp at *; omega
  ntrans x y z h1 h2 := by rw [lt_cfT] at *; simp at *; omega
theorem alloc2_grow (w : World) (a b : Obj) : (w.alloc a).alloc b = grow (w.drewN 0) #[a, b] := by
  rw [alloc_eq_grow, alloc_eq_grow, grow_grow]; rfl
set_option maxHeartbeats 800000 in
theorem sortT_any {w : World} {base : Nat} {v : Value} {l : List Tm} (hr : RowT w base v l) (hl : l.length ≤ 10000) :
    Calls Try.prog 49 #[v, .func (.func 50) #[] #[]] w fun e w' => e = .returned (.tuple #[]) ∧ ∃ l', l'.Perm l ∧ l'.Pairwise (fun x y => y.s ≤ x.s) ∧ RowT w' base v l' ∧ Upd (fun k => v.ownBlock = some k) w w' := by
  by_cases hne : l = []
  · subst hne
    obtain ⟨a, cap, rfl⟩ := row_slice hr
    have HS := AnyF.slices_SortFunc_none { Try.sortT with } a cap (.func (.func 50) #[] #[]) w
    change Calls Try.prog 49 _ _ _ at HS
    refine HS.mono ?_
    rintro e w' ⟨rfl, rfl⟩
    exact ⟨rfl, [], List.Perm.refl _, List.Pairwise.nil, hr, Upd.refl _ _⟩
  · obtain ⟨g, cap, rfl⟩ := row_some hr (by intro e; exact hne (List.eq_nil_of_length_eq_zero e))
    obtain ⟨hH, hgl⟩ := holds_row hr
    have hcmp : CmpLays Try.prog 50 #[] Tm.c 3 cfT g 0 l.toArray.size w := by
      intro k os dk hs x y
      exact (byseq_any _ x y).mono fun e w' ⟨h1, h2⟩ => ⟨h1, 0, _, h2.trans (alloc2_grow _ _ _)⟩
    have hH' : HoldsK Tm.c 3 w g 0 l.toArray := by
      unfold HoldsK
      rw [flat_cls tm_k]
      exact hH
    have HS := AnyQ.slices_SortFunc Try.sortT 3 Try.isAgg56 Try.sizeOf56 Tm.c tm_k tm_1 cfT swo_cfT 50 #[] g 0 cap l.toArray w (fun args w => by kernel_rfl) hcmp hH' hgl (by simp; omega)
    change Calls Try.prog 49 _ _ _ at HS
    refine HS.mono ?_
    rintro e w' ⟨rfl, d', k, os, hp, hso, rfl⟩
    have hperm := perm_in hp
    have hds : d'.size = l.length := by have := hperm.length_eq; simpa using this
    refine ⟨rfl, d'.toList, by simpa using hperm, ?_, ?_⟩
    · refine (sorted_in hso (by simpa using hp.1)).imp ?_
      intro x y h
      rw [lt_cfT] at h
      simp at h
      exact h
    · have hpl := put_row (ys := cls Tm.c d'.toList) hr (by rw [cls_len tm_k]; simp [hds]) k os
      unfold sortWorldK putRowK
      rw [flat_cls tm_k]
      refine ⟨?_, hpl.2.mono (fun j _ hj => by rw [hj]; rfl)⟩
      show World.ownsRow _ _ _ _ _ d'.toList.length _
      rw [show d'.toList.length = l.length by simpa using hds]
      exact hpl.1
theorem eql_strD (P : Program) (T : TypeId) : EqlAt P T Value.string (fun x y => decide (x = y)) := ⟨fun x y w => by
  rw [(EqlAt.string P T).1 x y w]
  congr 2
  rw [Bool.eq_iff_iff]
  simp only [beq_iff_eq, ByteArray.toList_eq, decide_eq_true_eq]
  exact ba_eq, (EqlAt.string P T).2⟩
theorem neq_strD (P : Program) (T : TypeId) : NeqAt P T Value.string (fun x y => decide (x = y)) := ⟨fun x y w => by
  rw [(NeqAt.string P T).1 x y w]
  congr 3
  rw [Bool.eq_iff_iff]
  simp only [beq_iff_eq, ByteArray.toList_eq, decide_eq_true_eq]
  exact ba_eq, (NeqAt.string P T).2⟩
theorem thin_mem {how : Int} (d : Array ByteArray) (hs : d.toList.Pairwise (fun x y => kle how x y = true)) : ∀ m, m ≤ d.size → Str (kl how) (compactUpTo d m) ∧ (∀ z, z ∈ compactUpTo d m ↔ ∃ j, j < m ∧ d[j]! = z) := by
  have hs' : ∀ i j, i ≤ j → j < d.size → kle how d[i]! d[j]! = true := by
    intro i j hij hj
    rcases Nat.lt_or_ge i j with h | h
    · have := List.pairwise_iff_getElem.1 hs i j (by simp; omega) (by simpa using hj) h
      rw [getElem!_pos d i (by omega), getElem!_pos d j hj]
      simpa using this
    · have : i = j := by omega
      subst this; exact kle_rfl
  intro m
  induction m with
  | zero => intro _; exact ⟨by simp [compactUpTo], fun z => by simp [compactUpTo]⟩
  | succ m ih =>
    intro hm
    obtain ⟨h1, h2⟩ := ih (by omega)
    rw [compactUpTo_succ]
    by_cases hk : keeps d m = true
    · rw [if_pos hk]
      have hlt : ∀ z ∈ compactUpTo d m, kl how z d[m]! = true := fun z hz => by
        obtain ⟨j, hj, rfl⟩ := (h2 z).1 hz
        have hne : d[m]! ≠ d[m - 1]! := by
          simp [keeps] at hk
          rcases hk with hk | hk
          · omega
          · exact hk
        have a := hs' j (m - 1) (by omega) (by omega)
        have b := hs' (m - 1) m (by omega) (by omega)
        have b' : kl how d[m - 1]! d[m]! = true := by
          cases e : kl how d[m - 1]! d[m]!
          · exact absurd ((kl_sto how).tri _ _ (by simpa [kle] using b) e) hne
          · rfl
        exact kle_kl a b'
      refine ⟨List.pairwise_append.2 ⟨h1, by simp, fun a ha b hb => by simp at hb; rw [hb]; exact hlt a ha⟩, fun z => ?_⟩
      rw [List.mem_append, h2 z]
      simp only [List.mem_singleton]
      constructor
      · rintro (⟨j, hj, e⟩ | rfl)
        · exact ⟨j, by omega, e⟩
        · exact ⟨m, by omega, rfl⟩
      · rintro ⟨j, hj, e⟩
        by_cases hjm : j = m
        · subst hjm; exact .inr e.symm
        · exact .inl ⟨j, by omega, e⟩
    · rw [if_neg hk]
      simp only [List.append_nil]
      refine ⟨h1, fun z => ?_⟩
      rw [h2 z]
      constructor
      · rintro ⟨j, hj, e⟩; exact ⟨j, by omega, e⟩
      · rintro ⟨j, hj, e⟩
        by_cases hjm : j = m
        · subst hjm
          simp [keeps] at hk
          exact ⟨j - 1, by omega, by rw [← hk.2]; exact e⟩
        · exact ⟨j, by omega, e⟩
set_option maxRecDepth 100000 in
theorem thin_any {w : World} {base : Nat} {v : Value} {ks : List ByteArray} {how : Int} (hr : RowS w base v ks) (hs : ks.Pairwise (fun x y => kle how x y = true)) (hl : ks.length ≤ 10000) :
    Calls Try.prog 64 #[v] w fun e w' => ∃ a cap K, e = .returned (.slice a K.length cap) ∧ Rd sc 1 w' a K ∧ Str (kl how) K ∧ (∀ z, z ∈ K ↔ z ∈ ks) ∧ K.length ≤ ks.length ∧ Upd (fun k => v.ownBlock = some k) w w' := by
  by_cases hne : ks = []
  · subst hne
    obtain ⟨a, cap, rfl⟩ := row_slice hr
    go_enter Try.func64, Try.ntmps64
    go_wp2
    go_ret
    exact ⟨a, cap, [], rfl, .inl rfl, List.Pairwise.nil, fun z => Iff.rfl, Nat.le_refl _, Upd.refl _ _⟩
  · obtain ⟨g, cap, rfl⟩ := row_some hr (by intro e; exact hne (List.eq_nil_of_length_eq_zero e))
    have hr' : w.ownsRow base 9 1 (.slice (some ⟨g, 0, none⟩) ks.length cap) ks.length (cls sc ks) := hr
    rw [cls_sc] at hr'
    obtain ⟨g', cap', hval, _, hgl, hnc, _, _, hH⟩ := holds_of_ownsRow hr' (by simp)
    cases hval
    have HS := AnyE.slices_Compact Try.cmS Value.string (fun _ => rfl) (eql_strD _ _) (neq_strD _ _) ⟨#[]⟩ Try.zeroValue9 g 0 cap ks.toArray w hH (by simp; omega) (by simpa using hnc)
    change Calls Try.prog 64 _ _ _ at HS
    obtain ⟨t1, t2⟩ := thin_mem ks.toArray (by simpa using hs) ks.toArray.size (Nat.le_refl _)
    have hlen : (compactUpTo ks.toArray ks.toArray.size).length ≤ ks.length := by
      unfold compactUpTo
      rw [List.length_map]
      exact Nat.le_trans (List.length_filter_le _ _) (by simp)
    refine HS.mono ?_
    rintro e w' ⟨rfl, q, rfl⟩
    generalize compactUpTo ks.toArray ks.toArray.size = K at *
    have hpl := put_row (ys := (K ++ List.replicate (ks.length - K.length) (⟨#[]⟩ : ByteArray)).map Value.string) hr (by simp; omega) q #[]
    have e : putRow Value.string (Sort.ahead w q) g 0 (K ++ List.replicate (ks.toArray.size - K.length) (⟨#[]⟩ : ByteArray)).toArray = grow (putRow id (Sort.ahead w q) g 0 ((K ++ List.replicate (ks.length - K.length) (⟨#[]⟩ : ByteArray)).map Value.string).toArray) #[] := by
      rw [grow_empty, ← put_map]
      rfl
    rw [e]
    refine ⟨some ⟨g, 0, none⟩, cap, K, rfl, ?_, t1, fun z => ?_, hlen, hpl.2.mono (fun j _ hj => by rw [hj]; rfl)⟩
    · refine .inr ⟨g, 0, rfl, fun j x hj i u hu => ?_⟩
      have hc := hpl.1.cells (g := g) rfl
      have hi : i = 0 := by have := (List.getElem?_eq_some_iff.1 hu).1; simp [sc] at this; exact this
      subst hi
      simp [sc] at hu
      subst hu
      have hjl : j < K.length := (List.getElem?_eq_some_iff.1 hj).1
      have := hc j (.string x) (by rw [List.getElem?_map, List.getElem?_append_left hjl, hj]; rfl)
      rw [add_at] at this
      simpa using this
    · rw [t2 z]
      constructor
      · rintro ⟨j, hj, rfl⟩
        simp at hj
        simp [hj]
      · intro h
        obtain ⟨j, hj, e⟩ := List.getElem_of_mem h
        exact ⟨j, by simpa using hj, by simp [hj, e]⟩
end Go.Proofs.Ytagnnocecfoggaa
