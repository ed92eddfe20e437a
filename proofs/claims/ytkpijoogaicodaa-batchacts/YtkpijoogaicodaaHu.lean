/-
  The program's Families.
  The program's Families, walked.
-/
import Derived.Test.YtkpijoogaicodaaHs
import Derived.Test.YtkpijoogaicodaaGr
import Derived.Test.YtkpijoogaicodaaBd
import Derived.Test.YtkpijoogaicodaaEb
namespace Go.Proofs.Ytkpijoogaicodaa
open Go.RowKit Go.Sort Go.Lib
set_option linter.unusedVariables false
set_option linter.unusedSimpArgs false
theorem uhold {w : World} {base g cap : Nat} {T : List Int} (h : w.ownsRow base 29 1 (.slice (some ⟨g, 0, none⟩) T.length cap) T.length (uc T)) : Holds (Value.int .u32) w g 0 T.toArray := by
  intro j hj
  simp at hj
  refine ⟨?_, by rw [Nat.zero_add]; exact h.frozenAt j⟩
  obtain ⟨g', cap', e, hc, _⟩ := urow_at h hj
  cases e
  rw [Nat.zero_add, hc]
  simp [hj]
/-- A row whose block was turned in place. -/
theorem uback {w w' : World} {base g cap : Nat} {n m : Nat} {xs : List Value} {d : Array Int} {T : List Int} (h : w.ownsRow base 29 1 (.slice (some ⟨g, 0, none⟩) n cap) n xs) (hs : Shaped w w' g) (hd : Holds (Value.int .u32) w' g 0 d) (hm : T.length = m) (hdn : d.size = n) (hmn : m ≤ n) (hT : ∀ j, j < m → d[j]! = T[j]!) :
    w'.ownsRow base 29 1 (.slice (some ⟨g, 0, none⟩) m cap) m (uc T) := by
  rcases h.2 with ⟨e, _⟩ | ⟨g', cap', cur, e, hb, hg, hnc, hcm, hsz, _⟩
  · cases e
  · cases e
    obtain ⟨cur', h1, h2⟩ := hs _ _ _ hg
    refine ⟨by simp [uc, hm], .inr ⟨g, cap, cur', rfl, hb, h1, by omega, hcm, by omega, ?_⟩⟩
    apply List.ext_getElem?
    intro j
    by_cases hj : j < m
    · rw [List.getElem?_take_of_lt (by omega)]
      have hc := (hd j (by omega)).1
      rw [Nat.zero_add] at hc
      have hc2 : w'.cell? ⟨g, j, none⟩ = cur'[j]? := by simp [World.cell?, h1]
      rw [Array.getElem?_toList, ← hc2, hc, hT j hj]
      simp [uc, hm, hj]
    · rw [List.getElem?_take_eq_none (by omega), List.getElem?_eq_none (by simp [uc]; omega)]
/-- append of one family. -/
theorem upush {w : World} {ops : Array Oper} {rest : List Oper} {o : Oper} {a : Act} {Q : Exit → Act → World → Prop} (hgd : o.guard = none) (s x : Operand)
    (ho : o.op = .call { callee := .builtin .append, args := #[s, x], argTypes := #[77, 77] }) {base : Nat} {v : Value} {T : List Int} (hs : a.eval s = v) {B : Nat} (hx : a.eval x = .slice (some ⟨B, 0, none⟩) 1 1) (u : Int) (hown : w.ownsRow base 29 1 v T.length (uc T)) (hcell : w.cell? ⟨B, 0, none⟩ = some (.int .u32 u)) (hn : T.length ≤ 1000000000) (hbase : base ≤ w.heap.size)
    (h : ∀ av cv w', w'.ownsRow base 29 1 (.slice av (T.length + 1) cv) (T.length + 1) (uc (T ++ [u])) → w.grownBy w' v.ownBlock → wpList Try.prog ops Q rest (a.put o.dst (.slice av (T.length + 1) cv)) w') :
    wpList Try.prog ops Q (o :: rest) a w := by
  obtain ⟨i0, hi, hz0, hz1, hz2⟩ := info_parts info29
  refine wpList_append_own_at _ hgd _ _ 77 ho base 29 i0 (.int .u32 0) 1 4 Try.underlying77 hi hz0 hz1 hz2 rfl (by decide) v T.length (uc T) hs hown ⟨B, 0, none⟩ 1 1 (uc [u]) hx rfl ?_ (by simp [uc, Value.oneCell']) (by unfold maxLen; omega) (by omega) hbase ?_
  · intro j v hj
    match j, hj with
    | 0, hj =>
      simp [uc] at hj
      subst hj
      simpa [Addr.add] using hcell
  · intro v' w' h1 h2 _ h4
    obtain ⟨av, cv, rfl, _⟩ := urow_form h1
    exact h av cv w' (by simpa [uc] using h1) h2
/-- Sorted and thinned: the families. -/
theorem ufam {W : World} {base : Nat} {v : Value} {rs : List Rec} (h : W.ownsRow base 29 1 v (rs.map (·.fam)).length (uc (rs.map (·.fam)))) (hl : rs.length ≤ 5000) :
    Calls Try.prog 67 #[v] W fun e w1 => e = .returned (.tuple #[]) ∧ (∃ row, W.grownBy w1 row ∧ (∀ k, row = some k → base ≤ k)) ∧ Calls Try.prog 68 #[v] w1 fun e w2 => ∃ fv, e = .returned fv ∧ w2.ownsRow base 29 1 fv (famI rs).length (uc (famI rs)) ∧ (∃ row, w1.grownBy w2 row ∧ (∀ k, row = some k → base ≤ k)) := by
  rcases h.2 with ⟨rfl, h0⟩ | ⟨g, cap, cur, rfl, hb, hg, hnc, hcm, hsz, _⟩
  · have hr : rs = [] := by cases rs with | nil => rfl | cons => simp at h0
    subst hr
    refine (sort_nil W).mono ?_
    rintro e w1 ⟨rfl, rfl⟩
    have hg0 : w1.grownBy w1 none := ⟨rfl, rfl, rfl, Nat.le_refl _, fun _ _ _ => rfl⟩
    refine ⟨rfl, ⟨none, hg0, by simp⟩, ?_⟩
    refine (thin_nil w1).mono ?_
    rintro e w2 ⟨rfl, rfl⟩
    exact ⟨_, rfl, World.ownsRow_nil _ _ _ _, ⟨none, hg0, by simp⟩⟩
  · obtain ⟨T, hT⟩ : ∃ T, T = rs.map (·.fam) := ⟨_, rfl⟩
    have hTl : T.length = rs.length := by rw [hT]; simp
    rw [← hT] at h hnc ⊢
    have hblk : g < W.heap.size := (Array.getElem?_eq_some_iff.1 hg).1
    have hs := sort_row g 0 cap T.toArray W (uhold h) hblk (by simp; omega)
    rw [sort_merge] at hs
    obtain ⟨zs, hz⟩ : ∃ zs, zs = T.mergeSort (fun x y => decide (x ≤ y)) := ⟨_, rfl⟩
    have hzl : zs.length = T.length := by rw [hz]; simp
    rw [← hz] at hs
    have e0 : T.toArray.size = T.length := by simp
    rw [e0] at hs
    refine hs.mono ?_
    rintro e w1 ⟨rfl, gw⟩
    refine ⟨rfl, ⟨some g, gw.grown, fun k hk => by cases hk; exact hb⟩, ?_⟩
    have ht := thin_row g 0 cap zs.toArray w1 gw.holds (by simp; omega) (by simp; omega)
    have e1 : zs.toArray.size = T.length := by simp [hzl]
    have e2 : compactUpTo zs.toArray zs.toArray.size = famI rs := by
      rw [show zs.toArray.size = zs.length by simp]
      exact thin_fam rs zs (by rw [hz, hT])
    rw [e2, e1] at ht
    refine ht.mono ?_
    rintro e w2 ⟨rfl, r2⟩
    have hfl := famI_len rs
    have gw2 := gw.rw r2
    refine ⟨_, rfl, uback h gw2.shape gw2.holds rfl gw2.size (by omega) (fun j hj => ?_), ⟨some g, r2.grown, fun k hk => by cases hk; exact hb⟩⟩
    simp [hj, List.getElem?_append_left hj]
end Go.Proofs.Ytkpijoogaicodaa
namespace Go.Proofs.Ytkpijoogaicodaa
open Go.RowKit Go.Sort Go.Lib
set_option linter.unusedVariables false
set_option linter.unusedSimpArgs false
theorem below_grown {B : Nat} {w w1 w2 : World} {row : Option Nat} (h : Go.RowKit.Below B w w1) (g : w1.grownBy w2 row) (hB : B ≤ w1.heap.size) (hr : ∀ k, row = some k → B ≤ k) : Go.RowKit.Below B w w2 := h.grown g hB hr
set_option maxRecDepth 100000 in
set_option maxHeartbeats 2000000 in
theorem fam_any {w : World} {b : Nat} {rv mv : Value} {rs : List Rec} {ms : List Nat} (h : Bt w b rv mv rs ms) (hl : rs.length ≤ 5000) :
    Calls Try.prog 50 #[ptr b] w fun e w' => ∃ fv, e = .returned fv ∧ w'.ownsRow w.heap.size 29 1 fv (famI rs).length (uc (famI rs)) ∧ Go.RowKit.Below w.heap.size w w' := by
  have c0 := h.blk.cell1 0 _ rfl
  have hrd := row_rd h.row
  obtain ⟨ra, rc, rfl⟩ := hrd.len
  go_enter Try.func50, Try.ntmps50
  go_wp2
  go_loopw [3, 11] (fun l i wr => ∃ k : Nat, k ≤ rs.length ∧ i = .int .i64 k ∧ wr.ownsRow w.heap.size 29 1 l ((rs.take k).map (·.fam)).length (uc ((rs.take k).map (·.fam))) ∧ Go.RowKit.Below w.heap.size w wr) (fun _ i _ => rs.length - (intOf i).toNat)
  case atStart => exact ⟨0, Nat.zero_le _, rfl, World.ownsRow_nil _ _ _ _, Go.RowKit.Below.refl _ _⟩
  case round =>
    obtain ⟨k, hk, rfl, hrow, hbel⟩ := hrel
    by_cases hlt : k < rs.length
    · obtain ⟨b2, off, cap, hv, hb, q0, q1, q2, q3⟩ := (hrd.below hbel).at hlt
      cases hv
      have HT : Hid ((rs.take (k + 1)).map (·.fam) = (rs.take k).map (·.fam) ++ [rs[k].fam]) := by show _ = _; rw [List.take_succ_eq_append_getElem hlt, List.map_append]; rfl
      generalize rs[k] = r at *
      obtain ⟨f, kd, key, val⟩ := r
      dsimp only at *
      have hTl : ((rs.take k).map (·.fam)).length ≤ 5000 := by simp; omega
      generalize (rs.take k).map (·.fam) = T at *
      obtain ⟨la, lc, rfl, _⟩ := urow_form hrow
      go_wp2_with
        (at_builtin
         refine upush rfl _ _ rfl rfl rfl f ((hrow.alloc _).alloc _) (by simp) (by omega) (by have := hbel.size; simp; omega) ?_
         intro oa oc w2 ho' hg
         have hB3 : Go.RowKit.Below w.heap.size w w2 := ((hbel.alloc hbel.size _).alloc (by have := hbel.size; simp; omega) _).grown hg (by have := hbel.size; simp; omega) (fun k hk => (hrow.lt k hk).1))
      go_roundw
      case rel => exact ⟨k + 1, by omega, by go_num, by rw [HT.out]; simpa using ho', hB3⟩
      case measure => simp [intOf]; omega
    · obtain rfl : k = rs.length := by omega
      rw [List.take_length] at hrow
      have HU := ufam hrow hl
      obtain ⟨la, lc, rfl, _⟩ := urow_form hrow
      have HB : Hid (Go.RowKit.Below w.heap.size w wr) := hbel
      generalize (rs.map (·.fam)).length = n at HU ⊢
      clear hrow hbel hrd c0 h
      go_wp2_with (first
        | (go_at_call 68; refine hc68.mono ?_; rintro e w2 ⟨fv, rfl, ho2, row2, hg2, hr2⟩)
        | (go_at_call 67; refine HU.mono ?_; rintro e w1 ⟨rfl, ⟨row1, hg1, hr1⟩, hc68⟩))
      go_ret
      have hB1 := HB.out.grown hg1 HB.out.size hr1
      exact ⟨fv, rfl, ho2, hB1.grown hg2 hB1.size hr2⟩
end Go.Proofs.Ytkpijoogaicodaa
