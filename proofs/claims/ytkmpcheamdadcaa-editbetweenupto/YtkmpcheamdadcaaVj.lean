/-
  Copies of versions.
  cloned; Copied.
  slices.IndexFunc over tables, with either closure; place.
-/
import Derived.Test.YtkmpcheamdadcaaVf
import Derived.Lib.AppendZeros
import Derived.Laws.EntriesVeiled
namespace Go.Proofs.Ytkmpcheamdadcaa
open Go.RowKit
set_option linter.unusedVariables false
set_option linter.unusedSimpArgs false
/-- What a slice of tables reads as, laid behind a row of one's own. -/
theorem fcopy_run {w : World} {base : Nat} {v : Value} {l0 l : List Fi} (ho : RowF w base v l0) (hb : base ≤ w.heap.size) {a : Option Addr} {cap : Nat} (h : RdF w a l) (hn : a = none → cap = 0) (hl : (l0.length + l.length) * 96 ≤ 140737488355328) :
    ∃ v' w', (Builtin.append_ #[38, 38] 38 #[v, .slice a l.length cap]).run Try.prog w = .ok v' w' ∧ RowF w' base v' (l0 ++ l) ∧ Upd (fun k => v.ownBlock = some k) w w' := by
  cases a with
  | none =>
    have hl0 : l = [] := by rcases h with h | ⟨_, _, h, _⟩; exact h; cases h
    subst hl0
    rw [hn rfl]
    refine ⟨v, w, ?_, by simpa using ho, Upd.refl _ _⟩
    obtain ⟨i0, hi, _⟩ := info_parts info50
    exact run_append_owned_none _ _ _ _ _ i0 _ Try.underlying38 hi _ _ _ ho
  | some ad =>
    have hs : ∀ j u, (cls Fi.c l)[j]? = some u → w.cell? (ad.add j) = some u := by
      rcases h with rfl | ⟨g, o, e, hc⟩
      · intro j u hu; simp [cls] at hu
      · cases e; exact rd_src fi_k (by decide) hc
    obtain ⟨v', w', hr, h2, h3, h4⟩ := pushes_g (P := Try.prog) fi_k fi_1 Try.underlying38 info50 rfl (by decide) (c := cap) ho hb hs 38 hl (by unfold maxLen; omega)
    exact ⟨v', w', hr, h2, h3⟩
set_option maxRecDepth 100000 in
set_option maxHeartbeats 1000000 in
theorem fclone_any {w : World} {a : Option Addr} {cap : Nat} {l : List Fi} (h : RdF w a l) (hn : a = none → cap = 0) (hl : l.length * 96 ≤ 140737488355328) :
    Calls Try.prog 85 #[.slice a l.length cap] w fun e w' => ∃ v, e = .returned v ∧ RowF w' w.heap.size v l ∧ Below w.heap.size w w' := by
  cases a with
  | none =>
    have hl0 : l = [] := by rcases h with h | ⟨_, _, h, _⟩; exact h; cases h
    subst hl0
    obtain rfl : cap = 0 := hn rfl
    clear hn
    have he := Lib.run_eql_slice_nil (P := Try.prog) w 38 50 none 0 0 0 0 Try.underlying38
    show Calls Try.prog 85 #[.slice none 0 0] w _
    go_enter Try.func85, Try.ntmps85
    go_wp2
    go_ret
    exact ⟨_, rfl, World.ownsRow_nil _ _ _ _, Below.refl _ _⟩
  | some ad =>
    have hb0 : Below w.heap.size w (w.alloc (.cells #[] 50)) := al1 _ _
    have ho : RowF (w.alloc (.cells #[] 50)) w.heap.size (.slice (some ⟨w.heap.size, 0, none⟩) 0 0) [] := World.ownsRow_made (base := w.heap.size) (e := 50) (size := 10) w #[] 0 (Nat.le_refl _) (by unfold maxLen; omega) rfl
    obtain ⟨v', w', hr, h2, h3⟩ := fcopy_run ho (by simp) (h.below hb0) hn (by simpa using hl)
    simp only [List.nil_append] at h2
    have HP : Hid (RowF w' w.heap.size v' l ∧ Below w.heap.size w w') := ⟨h2, hb0.trans (h3.below (fun k hk => Nat.lt_of_lt_of_le hk hb0.size) (fun j hj => by cases hj; exact Nat.le_refl _))⟩
    obtain ⟨va, vc, hv⟩ := row_slice h2
    obtain ⟨N, hN⟩ : ∃ N, Hid (l.length = N) := ⟨_, rfl⟩
    rw [hN.out] at hv hr ⊢
    subst hv
    have he : ∀ W, (binOp .eql 38 (.slice (some ad) N cap) (.slice none 0 0)).run Try.prog W = .ok (.bool false) W := fun W => Lib.run_eql_slice_nil W 38 50 (some ad) N cap _ _ Try.underlying38
    clear ho hb0 h2 h3 h
    go_enter Try.func85, Try.ntmps85
    go_wp2_with (at_builtin; refine Lib.wpList_append_run _ rfl _ _ _ _ rfl _ _ rfl rfl _ _ hr ?_)
    go_ret
    exact ⟨_, rfl, HP.out⟩
/-- Seven cells. -/
abbrev cells7 (f : Nat → Value) : List Value := [f 0, f 1, f 2, f 3, f 4, f 5, f 6]
theorem cells7_get (f : Nat → Value) (k : Nat) (hk : k < 7) : (cells7 f)[k]? = some (f k) := by
  have : k = 0 ∨ k = 1 ∨ k = 2 ∨ k = 3 ∨ k = 4 ∨ k = 5 ∨ k = 6 := by omega
  rcases this with rfl | rfl | rfl | rfl | rfl | rfl | rfl <;> rfl
theorem cells7_set (f : Nat → Value) (k : Nat) (hk : k < 7) (v : Value) : (cells7 f).set k v = cells7 (fun i => if i = k then v else f i) := by
  have : k = 0 ∨ k = 1 ∨ k = 2 ∨ k = 3 ∨ k = 4 ∨ k = 5 ∨ k = 6 := by omega
  rcases this with rfl | rfl | rfl | rfl | rfl | rfl | rfl <;> rfl
theorem cells7_congr {f g : Nat → Value} (h : ∀ i, i < 7 → f i = g i) : cells7 f = cells7 g := by
  simp only [cells7, h 0 (by decide), h 1 (by decide), h 2 (by decide), h 3 (by decide), h 4 (by decide), h 5 (by decide), h 6 (by decide)]
/-- A version whose lists lie in rows of one's own, each in another one. -/
structure OwnV (W : World) (base : Nat) (V : Vn) (L : Nat → List Fi) : Prop where
  rows : ∀ i, i < 7 → RowF W base (vsl V L i) (L i)
  apart : ∀ i j, i < 7 → j < 7 → i ≠ j → ∀ b, (vsl V L i).ownBlock = some b → (vsl V L j).ownBlock ≠ some b
theorem row_nilc {w : World} {base : Nat} {e : TypeId} {k n c m : Nat} {xs : List Value} (h : w.ownsRow base e k (.slice none m c) n xs) : c = 0 := by
  rcases h.2 with ⟨h, _⟩ | ⟨g, cap, cur, h, _⟩
  · cases h; rfl
  · cases h
theorem OwnV.rdv {W : World} {base : Nat} {V : Vn} {L : Nat → List Fi} (h : OwnV W base V L) (hl : ∀ i, i < 7 → (L i).length * 96 ≤ 140737488355328) (hok : ∀ i, i < 7 → ∀ f ∈ L i, FOk f) : RdV W V L := by
  refine ⟨fun i hi => ?_, fun i hi hn => ?_, hl, hok⟩
  · obtain ⟨a, c, e, _, hr, _⟩ := row_rd fi_k (h.rows i hi)
    have e' : V.a i = a := by injection e
    rw [e']; exact hr
  · have hr := h.rows i hi
    unfold vsl at hr
    rw [hn] at hr
    exact row_nilc hr
theorem OwnV.upd {S : Nat → Prop} {W W' : World} {base : Nat} {V : Vn} {L : Nat → List Fi} (h : OwnV W base V L) (u : Upd S W W') (hS : ∀ k, S k → k < base) : OwnV W' base V L :=
  ⟨fun i hi => row_upd (h.rows i hi) u (fun k hk hs => by have := (row_blk (h.rows i hi) k hk).1; have := hS k hs; omega), h.apart⟩
theorem OwnV.below {W W' : World} {base : Nat} {V : Vn} {L : Nat → List Fi} (h : OwnV W base V L) (hb : Below W.heap.size W W') : OwnV W' base V L := h.upd (S := Non) (Upd.ofBelow hb) (fun k hk => hk.elim)
/-- A copy under way: k of the seven are done; box B, the result's box behind it. -/
structure Cop (w W : World) (t : TypeId) (V : Vn) (L : Nat → List Fi) (k : Nat) (vs : Nat → Value) : Prop where
  bel : Below w.heap.size w W
  box : Blk W w.heap.size t (cells7 (fun i => if i < k then vs i else vsl V L i))
  res : Blk W (w.heap.size + 1) t (cells7 (fun _ => .slice none 0 0))
  rows : ∀ i, i < k → RowF W (w.heap.size + 2) (vs i) (L i)
  apart : ∀ i j, i < k → j < k → i ≠ j → ∀ b, (vs i).ownBlock = some b → (vs j).ownBlock ≠ some b
theorem Cop.start {w : World} {t : TypeId} {V : Vn} {L : Nat → List Fi} {vs : Nat → Value} : Cop w ((w.alloc (.cells (verA V L) t)).alloc (.cells #[.slice none 0 0, .slice none 0 0, .slice none 0 0, .slice none 0 0, .slice none 0 0, .slice none 0 0, .slice none 0 0] t)) t V L 0 vs := by
  have B0 := (Blk.new w t (cells7 (vsl V L))).alloc (.cells #[.slice none 0 0, .slice none 0 0, .slice none 0 0, .slice none 0 0, .slice none 0 0, .slice none 0 0, .slice none 0 0] t)
  have B1 := Blk.new (w.alloc (.cells (verA V L) t)) t (cells7 (fun _ => .slice none 0 0))
  rw [World.size_alloc] at B1
  exact ⟨bstep (al1 _ _) (al1 _ _), B0, B1, fun i hi => by omega, fun i j hi => by omega⟩
theorem Cop.below {w W W' : World} {t : TypeId} {V : Vn} {L : Nat → List Fi} {k : Nat} {vs : Nat → Value} (h : Cop w W t V L k vs) (hb : Below W.heap.size W W') : Cop w W' t V L k vs :=
  ⟨bstep h.bel hb, h.box.upd (S := Non) (Upd.ofBelow hb) (fun h => h), h.res.upd (S := Non) (Upd.ofBelow hb) (fun h => h), fun i hi => row_upd (S := Non) (h.rows i hi) (Upd.ofBelow hb) (fun _ _ h => h), h.apart⟩
theorem Cop.step {w W W' : World} {t : TypeId} (ht : (50 : TypeId) ≠ t) {V : Vn} {L : Nat → List Fi} {k : Nat} (hk : k < 7) {vs : Nat → Value} (h : Cop w W t V L k vs) (hb : Below W.heap.size W W') {v : Value} (hr : RowF W' W.heap.size v (L k)) :
    Cop w (W'.setCell ⟨w.heap.size, k, none⟩ v) t V L (k + 1) (fun i => if i = k then v else vs i) := by
  have h' := h.below hb
  have hs1 : w.heap.size + 1 < W.heap.size := h.res.lt
  have U : Upd (fun j => j = w.heap.size) W' (W'.setCell ⟨w.heap.size, k, none⟩ v) := Upd.setCell (p := ⟨w.heap.size, k, none⟩) (Upd.refl (fun j => j = w.heap.size) _) (fun _ => rfl) _
  refine ⟨?_, ?_, ?_, fun i hi => ?_, fun i j hi hj hij b hbi => ?_⟩
  · exact Upd.bel h'.bel U (fun j hj => by omega) h'.bel.size
  · have := h'.box.set k v
    rw [cells7_set _ k hk] at this
    rw [cells7_congr (g := fun i => if i = k then v else if i < k then vs i else vsl V L i)]
    · exact this
    · intro i hi
      by_cases e : i = k
      · subst e; simp
      · have : i < k + 1 ↔ i < k := by omega
        simp [e, this]
  · exact h'.res.upd U (by omega)
  · by_cases e : i = k
    · subst e
      simp only [if_pos rfl]
      refine row_upd (World.ownsRow.mono hr (by omega)) U (fun j hj e => ?_)
      have := (row_blk hr j hj).1
      omega
    · simp only [if_neg e]
      refine row_upd (h'.rows i (by omega)) U (fun j hj e => ?_)
      have := (row_blk (h'.rows i (by omega)) j hj).1
      omega
  · by_cases ei : i = k
    · subst ei
      rw [if_pos rfl] at hbi
      rw [if_neg (Ne.symm hij)]
      intro e
      have h1 := (row_blk hr b hbi).1
      have h2 := (row_blk (h.rows j (by omega)) b e).2
      omega
    · rw [if_neg ei] at hbi
      by_cases ej : j = k
      · subst ej
        rw [if_pos rfl]
        intro e
        have h1 := (row_blk hr b e).1
        have h2 := (row_blk (h.rows i (by omega)) b hbi).2
        omega
      · rw [if_neg ej]
        exact h.apart i j (by omega) (by omega) hij b hbi
/-- What stands at the end. -/
theorem Cop.own {w W : World} {t : TypeId} {V : Vn} {L : Nat → List Fi} {vs : Nat → Value} (h : Cop w W t V L 7 vs) : ∃ V', (∀ i, i < 7 → vs i = vsl V' L i) ∧ OwnV W (w.heap.size + 2) V' L := by
  have hv : ∀ i, i < 7 → vs i = .slice (match vs i with | .slice a _ _ => a | _ => none) (L i).length (match vs i with | .slice _ _ c => c | _ => 0) := fun i hi => by
    obtain ⟨a, c, e⟩ := row_slice (h.rows i hi)
    rw [e]
  refine ⟨⟨fun i => match vs i with | .slice a _ _ => a | _ => none, fun i => match vs i with | .slice _ _ c => c | _ => 0⟩, hv, fun i hi => ?_, fun i j hi hj hij b hb => ?_⟩
  · have := h.rows i hi
    rw [hv i hi] at this
    exact this
  · have hi' := h.apart i j hi hj hij b
    rw [hv i hi, hv j hj] at hi'
    exact hi' hb
end Go.Proofs.Ytkmpcheamdadcaa
namespace Go.Proofs.Ytkmpcheamdadcaa
open Go.RowKit
set_option linter.unusedVariables false
set_option linter.unusedSimpArgs false
theorem upd7 (W : World) (B : Nat) (a b c d e f g : Value) : Upd (fun j => j = B) W (((((((W.setCell ⟨B, 0, none⟩ a).setCell ⟨B, 1, none⟩ b).setCell ⟨B, 2, none⟩ c).setCell ⟨B, 3, none⟩ d).setCell ⟨B, 4, none⟩ e).setCell ⟨B, 5, none⟩ f).setCell ⟨B, 6, none⟩ g) :=
  (((((((Upd.refl (fun j => j = B) W).setCell (p := ⟨B, 0, none⟩) (fun _ => rfl) a).setCell (p := ⟨B, 1, none⟩) (fun _ => rfl) b).setCell (p := ⟨B, 2, none⟩) (fun _ => rfl) c).setCell (p := ⟨B, 3, none⟩) (fun _ => rfl) d).setCell (p := ⟨B, 4, none⟩) (fun _ => rfl) e).setCell (p := ⟨B, 5, none⟩) (fun _ => rfl) f).setCell (p := ⟨B, 6, none⟩) (fun _ => rfl) g
set_option maxRecDepth 100000 in
set_option maxHeartbeats 2000000 in
theorem cloned_any {w : World} {V : Vn} {L : Nat → List Fi} (h : RdV w V L) : Calls Try.prog 46 #[.agg (verA V L)] w fun e w' => ∃ V', e = .returned (.agg (verA V' L)) ∧ OwnV w' (w.heap.size + 2) V' L ∧ Below w.heap.size w w' := by
  have HV : Hid (RdV w V L) := h
  have HX : Hid (∀ k : Nat, k < 7 → ∀ w, (Instr.index 39 (.agg (verA V L)) (.int .i64 k)).run Try.prog w = .ok (vsl V L k) w) := fun k hk w => ver_index V L k hk w
  have C0 : Cop w _ 39 V L 0 (fun _ => .slice none 0 0) := Cop.start
  clear h
  go_enter Try.func46, Try.ntmps46
  go_wp2
  go_loopw [6] (fun i wr => ∃ (k : Nat) (vs : Nat → Value), k ≤ 7 ∧ i = .int .i64 k ∧ Hid (Cop w wr 39 V L k vs)) (fun i _ => 7 - (intOf i).toNat)
  case atStart => exact ⟨0, _, by omega, rfl, C0⟩
  case round =>
    clear C0
    obtain ⟨k, vs, hk, rfl, HC⟩ := hrel
    by_cases hlt : k < 7
    · have hx : ∀ w, (Instr.index 39 (.agg (verA V L)) (.int .i64 k)).run Try.prog w = .ok (.slice (V.a k) (L k).length (V.c k)) w := HX.out k hlt
      have hkz : (k : Int) < 7 := by omega
      have HCl : Hid (Calls Try.prog 85 #[.slice (V.a k) (L k).length (V.c k)] wr fun e w' => ∃ v, e = .returned v ∧ RowF w' wr.heap.size v (L k) ∧ Below wr.heap.size wr w') := fclone_any ((HV.out.rd k hlt).below HC.out.bel) (HV.out.nil k hlt) (HV.out.len k hlt)
      generalize (L k).length = n at hx HCl
      go_wp2_with (go_at_call 85; refine HCl.out.mono ?_; rintro e w2 ⟨v, rfl, hr, hb⟩
                   have c2 := (HC.out.below hb).box.cell1 k _ (cells7_get _ k hlt)
                   have f2 := (HC.out.below hb).box.frozen k
                   have l2 := (HC.out.below hb).box.lt
                   have HS : Hid (Cop w (w2.setCell ⟨w.heap.size, k, none⟩ v) 39 V L (k + 1) (fun i => if i = k then v else vs i)) := HC.out.step (by decide) hlt hb hr
                   obtain ⟨va, vc, hv⟩ := row_slice hr
                   subst hv
                   clear hr)
      go_roundw
      case rel => exact ⟨k + 1, _, by omega, by go_num, HS.out⟩
      case measure => simp [intOf]; omega
    · obtain rfl : k = 7 := by omega
      obtain ⟨V', hvs, HO⟩ := HC.out.own
      have hbx : Blk wr w.heap.size 39 (cells7 (vsl V' L)) := by
        have := HC.out.box
        rw [cells7_congr (g := vsl V' L) (fun i hi => by rw [if_pos hi, hvs i hi])] at this
        exact this
      have HB : Hid (Below w.heap.size w wr) := HC.out.bel
      have hrs := HC.out.res
      have hl2 := hrs.lt
      have b0 := hbx.cell1 0 _ rfl
      have b1 := hbx.cell1 1 _ rfl
      have b2 := hbx.cell1 2 _ rfl
      have b3 := hbx.cell1 3 _ rfl
      have b4 := hbx.cell1 4 _ rfl
      have b5 := hbx.cell1 5 _ rfl
      have b6 := hbx.cell1 6 _ rfl
      have r0 := hrs.cell1 0 _ rfl
      have r1 := hrs.cell1 1 _ rfl
      have r2 := hrs.cell1 2 _ rfl
      have r3 := hrs.cell1 3 _ rfl
      have r4 := hrs.cell1 4 _ rfl
      have r5 := hrs.cell1 5 _ rfl
      have r6 := hrs.cell1 6 _ rfl
      have f0 := hrs.frozen 0
      have f1 := hrs.frozen 1
      have f2 := hrs.frozen 2
      have f3 := hrs.frozen 3
      have f4 := hrs.frozen 4
      have f5 := hrs.frozen 5
      have f6 := hrs.frozen 6
      have HO' : Hid (OwnV wr (w.heap.size + 2) V' L) := HO
      clear HO hvs hbx hrs HC HX
      go_wp2
      refine bodyPost_ret (v := .agg (verA V' L)) (by simp [results, Try.results46, go_sem, *]) rfl ⟨V', rfl, ?_, ?_⟩
      · exact HO'.out.upd (upd7 _ _ _ _ _ _ _ _ _) (fun j hj => by omega)
      · exact Upd.bel HB.out (upd7 _ _ _ _ _ _ _ _ _) (fun j hj => by omega) HB.out.size
set_option maxRecDepth 100000 in
set_option maxHeartbeats 2000000 in
theorem copied_any {w : World} {V : Vn} {L : Nat → List Fi} (h : RdV w V L) : Calls Try.prog 17 #[.agg (verA V L)] w fun e w' => ∃ V', e = .returned (.agg (verA V' L)) ∧ OwnV w' (w.heap.size + 2) V' L ∧ Below w.heap.size w w' := by
  have HV : Hid (RdV w V L) := h
  have C0 : Cop w _ 41 V L 0 (fun _ => .slice none 0 0) := Cop.start
  clear h
  go_enter Try.func17, Try.ntmps17
  go_wp2
  go_loopw [3] (fun i wr => ∃ (k : Nat) (vs : Nat → Value), k ≤ 7 ∧ i = .int .i64 k ∧ Hid (Cop w wr 41 V L k vs)) (fun i _ => 7 - (intOf i).toNat)
  case atStart => exact ⟨0, _, by omega, rfl, C0⟩
  case round =>
    clear C0
    obtain ⟨k, vs, hk, rfl, HC⟩ := hrel
    by_cases hlt : k < 7
    · have hkz : (k : Int) < 7 := by omega
      have HC1 : Hid (Cop w (wr.alloc (.cells #[] 50)) 41 V L k vs) := HC.out.below (al1 _ _)
      have hb0 := HC1.out.bel
      have ho : RowF (wr.alloc (.cells #[] 50)) wr.heap.size (.slice (some ⟨wr.heap.size, 0, none⟩) 0 0) [] := World.ownsRow_made (base := wr.heap.size) (e := 50) (size := 10) wr #[] 0 (Nat.le_refl _) (by unfold maxLen; omega) rfl
      obtain ⟨v', w', hr, h2, h3⟩ := fcopy_run ho (by simp) ((HV.out.rd k hlt).below hb0) (HV.out.nil k hlt) (by simpa using HV.out.len k hlt)
      simp only [List.nil_append] at h2
      have hbn : Below wr.heap.size wr w' := (al1 wr (.cells #[] 50)).trans (h3.below (fun j hj => Nat.lt_of_lt_of_le hj (al1 wr (.cells #[] 50)).size) (fun j hj => by cases hj; exact Nat.le_refl _))
      have HS : Hid (Cop w (w'.setCell ⟨w.heap.size, k, none⟩ v') 41 V L (k + 1) (fun i => if i = k then v' else vs i)) := HC.out.step (by decide) hlt hbn h2
      have cx : (wr.alloc (.cells #[] 50)).cell? ⟨w.heap.size, k, none⟩ = some (.slice (V.a k) (L k).length (V.c k)) := by
        have := HC1.out.box.cell1 k _ (cells7_get _ k hlt)
        rw [if_neg (by omega)] at this
        exact this
      have lx := HC1.out.box.lt
      have c2 := (HC.out.below hbn).box.cell1 k _ (cells7_get _ k hlt)
      have f2 := (HC.out.below hbn).box.frozen k
      have l2 := (HC.out.below hbn).box.lt
      obtain ⟨va, vc, hv⟩ := row_slice h2
      subst hv
      generalize (L k).length = n at hr cx HS c2 f2
      clear ho h2 h3 hbn hb0
      go_wp2_with (at_builtin; refine Lib.wpList_append_run _ rfl _ _ _ _ rfl _ _ rfl rfl _ _ hr ?_)
      go_roundw
      case rel => exact ⟨k + 1, _, by omega, by go_num, HS.out⟩
      case measure => simp [intOf]; omega
    · obtain rfl : k = 7 := by omega
      obtain ⟨V', hvs, HO⟩ := HC.out.own
      have hbx : Blk wr w.heap.size 41 (cells7 (vsl V' L)) := by
        have := HC.out.box
        rw [cells7_congr (g := vsl V' L) (fun i hi => by rw [if_pos hi, hvs i hi])] at this
        exact this
      have HB : Hid (Below w.heap.size w wr) := HC.out.bel
      have hrs := HC.out.res
      have hl2 := hrs.lt
      have b0 := hbx.cell1 0 _ rfl
      have b1 := hbx.cell1 1 _ rfl
      have b2 := hbx.cell1 2 _ rfl
      have b3 := hbx.cell1 3 _ rfl
      have b4 := hbx.cell1 4 _ rfl
      have b5 := hbx.cell1 5 _ rfl
      have b6 := hbx.cell1 6 _ rfl
      have r0 := hrs.cell1 0 _ rfl
      have r1 := hrs.cell1 1 _ rfl
      have r2 := hrs.cell1 2 _ rfl
      have r3 := hrs.cell1 3 _ rfl
      have r4 := hrs.cell1 4 _ rfl
      have r5 := hrs.cell1 5 _ rfl
      have r6 := hrs.cell1 6 _ rfl
      have f0 := hrs.frozen 0
      have f1 := hrs.frozen 1
      have f2 := hrs.frozen 2
      have f3 := hrs.frozen 3
      have f4 := hrs.frozen 4
      have f5 := hrs.frozen 5
      have f6 := hrs.frozen 6
      have HO' : Hid (OwnV wr (w.heap.size + 2) V' L) := HO
      clear HO hvs hbx hrs HC
      go_wp2
      refine bodyPost_ret (v := .agg (verA V' L)) (by simp [results, Try.results17, go_sem, *]) rfl ⟨V', rfl, ?_, ?_⟩
      · exact HO'.out.upd (upd7 _ _ _ _ _ _ _ _ _) (fun j hj => by omega)
      · exact Upd.bel HB.out (upd7 _ _ _ _ _ _ _ _ _) (fun j hj => by omega) HB.out.size
end Go.Proofs.Ytkmpcheamdadcaa
namespace Go.Proofs.Ytkmpcheamdadcaa
open Go.RowKit
set_option linter.unusedVariables false
set_option linter.unusedSimpArgs false
/-- The first one that a test picks: its place, or -1. -/
def idxP (p : Fi → Bool) (l : List Fi) : Int := if l.findIdx p < l.length then (l.findIdx p : Int) else -1
def numB (n : Int) (f : Fi) : Bool := f.num == n
set_option maxRecDepth 100000 in
set_option maxHeartbeats 1000000 in
theorem num_any {w : World} {G : Nat} {n : Int} (h1 : w.cell? ⟨G, 1, none⟩ = some (.int .u64 n)) (f : Fi) :
    Calls Try.prog 48 #[f.v, ptr G] w fun e w' => e = .returned (.bool (numB n f)) ∧ Below w.heap.size w w' := by
  have hl := cell_lt h1
  unfold numB
  go_enter Try.func48, Try.ntmps48
  go_wp2
  go_ret
  exact ⟨rfl, al1 _ _⟩
/-- Whether a table stands behind one that is put in. -/
def behB (how : Int) (lv : Nat) (a : Fi) (f : Fi) : Bool := if lv = 0 then decide (f.num < a.num) else decide (0 < ordF how f.sm a.sm)
set_option maxRecDepth 100000 in
set_option maxHeartbeats 1000000 in
theorem beh_any {w : World} {A H : Nat} {how : Int} {lv : Nat} {a : Fi} (h0 : w.cell? ⟨A, 0, none⟩ = some (.int .i64 lv)) (h1 : w.cell? ⟨A, 1, none⟩ = some (.int .u64 a.num)) (h3 : w.cell? ⟨A, 3, none⟩ = some (.string a.sm.u)) (h4 : w.cell? ⟨A, 4, none⟩ = some (.int .u64 a.sm.s)) (h5 : w.cell? ⟨A, 5, none⟩ = some (.int .i64 a.sm.k))
    (hh : w.cell? ⟨H, 0, none⟩ = some (.int .i64 how)) (f : Fi) :
    Calls Try.prog 86 #[f.v, ptr A, ptr H] w fun e w' => e = .returned (.bool (behB how lv a f)) ∧ Below w.heap.size w w' := by
  have hl := cell_lt h1
  have hl2 := cell_lt hh
  unfold behB
  by_cases hz : lv = 0
  · have hb : ((lv : Int) == 0) = true := by simp [hz]
    rw [if_pos hz]
    clear hz
    go_enter Try.func86, Try.ntmps86
    go_wp2
    go_ret
    exact ⟨rfl, al1 _ _⟩
  · have hb : ((lv : Int) == 0) = false := by simp [hz]
    rw [if_neg hz]
    clear hz
    have HO := fun w => cord_any how f.sm.u f.sm.s f.sm.k a.sm.u a.sm.s a.sm.k w
    show Calls _ _ _ _ fun e w' => e = .returned (.bool (decide (0 < ordK how f.sm.u f.sm.s f.sm.k a.sm.u a.sm.s a.sm.k))) ∧ _
    generalize ordK how f.sm.u f.sm.s f.sm.k a.sm.u a.sm.s a.sm.k = O at *
    go_enter Try.func86, Try.ntmps86
    go_wp2_with (go_at_call 56; refine (HO _).mono ?_; rintro e w' ⟨rfl, rfl⟩)
    go_ret
    exact ⟨rfl, bstep (bstep (al1 _ _) (al1 _ _)) (al1 _ _)⟩
set_option maxRecDepth 100000 in
set_option maxHeartbeats 1000000 in
theorem findex48 {w : World} {a : Option Addr} {cap : Nat} {l : List Fi} (hr : RdF w a l) (hl : l.length * 96 ≤ 140737488355328) {G : Nat} {p : Fi → Bool} (hp : ∀ W, Below w.heap.size w W → ∀ t, Calls Try.prog 48 #[t.v, ptr G] W fun e w' => e = .returned (.bool (p t)) ∧ Below W.heap.size W w') :
    Calls Try.prog 47 #[.slice a l.length cap, .func (.func 48) #[] #[ptr G]] w fun e w' => e = .returned (.int .i64 (idxP p l)) ∧ Below w.heap.size w w' := by
  have HR : Hid (RdF w a l) := hr
  have HP : Hid (∀ W, Below w.heap.size w W → ∀ t, Calls Try.prog 48 #[t.v, ptr G] W fun e w' => e = .returned (.bool (p t)) ∧ Below W.heap.size W w') := hp
  obtain ⟨R, hR⟩ : ∃ R, Hid (idxP p l = R) := ⟨_, rfl⟩
  rw [hR.out]
  obtain ⟨N, hN⟩ : ∃ N, Hid (N = l.length) := ⟨_, rfl⟩
  rw [← hN.out] at hl ⊢
  clear hr hp
  go_enter Try.func47, Try.ntmps47
  go_wp2_with fail
  go_loopw [8] (fun i wr => ∃ k : Nat, k ≤ N ∧ i = .int .i64 k ∧ Hid (Below w.heap.size w wr ∧ ∀ j t, j < k → l[j]? = some t → p t = false)) (fun i _ => ((N : Int) - intOf i).toNat)
  case atStart => exact ⟨0, Nat.zero_le _, rfl, Below.refl _ _, fun j t h => absurd h (Nat.not_lt_zero _)⟩
  case round =>
    obtain ⟨k, hk, rfl, HB⟩ := hrel
    rcases Nat.lt_or_ge k N with hkN | hkN
    · have hkz : (k : Int) < N := by omega
      obtain ⟨t, ht⟩ : ∃ t, l[k]? = some t := ⟨l[k]'(by rw [← hN.out]; omega), List.getElem?_eq_getElem _⟩
      obtain ⟨g, o, rfl, hat⟩ := (HR.out.below HB.out.1).at_ ht
      obtain ⟨t0, t1, t2, t3, t4, t5, t6, t7, t8, t9⟩ := hat.f
      have HT : Hid (l[k]? = some t) := ht
      have HC : Hid (Calls Try.prog 48 #[t.v, ptr G] wr fun e w' => e = .returned (.bool (p t)) ∧ Below wr.heap.size wr w') := HP.out wr HB.out.1 t
      clear ht hat
      cases hp : p t
      · rw [hp] at HC
        go_wp2_with (go_at_call 48; refine HC.out.mono ?_; rintro e w1 ⟨rfl, hb1⟩; have HI2 : Hid (Below w.heap.size w w1) := bstep HB.out.1 hb1; clear hb1)
        go_roundw
        case rel =>
          refine ⟨k + 1, by omega, by go_num, HI2.out, fun j t' hj ht' => ?_⟩
          by_cases e : j = k
          · subst e; rw [HT.out] at ht'; cases ht'; exact hp
          · exact HB.out.2 j t' (by omega) ht'
        case measure => simp [intOf]; omega
      · rw [hp] at HC
        go_wp2_with (go_at_call 48; refine HC.out.mono ?_; rintro e w1 ⟨rfl, hb1⟩; have HI2 : Hid (Below w.heap.size w w1) := bstep HB.out.1 hb1; clear hb1)
        go_ret
        refine ⟨?_, HI2.out⟩
        rw [← hR.out]
        have hf : l.findIdx p = k := by
          rw [List.findIdx_eq (by rw [← hN.out]; exact hkN)]
          obtain ⟨h1, h2⟩ := List.getElem?_eq_some_iff.1 HT.out
          refine ⟨by rw [h2]; exact hp, fun j hj => ?_⟩
          exact HB.out.2 j _ hj (List.getElem?_eq_getElem (by rw [← hN.out]; omega))
        unfold idxP
        rw [hf, if_pos (by rw [← hN.out]; exact hkN)]
        rfl
    · obtain rfl : k = N := by omega
      have hz : ¬ ((k : Int) < k) := by omega
      go_wp2_with fail
      go_ret
      refine ⟨?_, HB.out.1⟩
      rw [← hR.out]
      unfold idxP
      rw [if_neg]
      · rfl
      · rw [List.findIdx_lt_length]
        rintro ⟨x, hx, hpx⟩
        obtain ⟨j, hj, rfl⟩ := List.getElem_of_mem hx
        have := HB.out.2 j _ (by rw [hN.out]; exact hj) (List.getElem?_eq_getElem hj)
        rw [this] at hpx; cases hpx
set_option maxRecDepth 100000 in
set_option maxHeartbeats 1000000 in
theorem findex86 {w : World} {a : Option Addr} {cap : Nat} {l : List Fi} (hr : RdF w a l) (hl : l.length * 96 ≤ 140737488355328) {A H : Nat} {p : Fi → Bool} (hp : ∀ W, Below w.heap.size w W → ∀ t, Calls Try.prog 86 #[t.v, ptr A, ptr H] W fun e w' => e = .returned (.bool (p t)) ∧ Below W.heap.size W w') :
    Calls Try.prog 47 #[.slice a l.length cap, .func (.func 86) #[] #[ptr A, ptr H]] w fun e w' => e = .returned (.int .i64 (idxP p l)) ∧ Below w.heap.size w w' := by
  have HR : Hid (RdF w a l) := hr
  have HP : Hid (∀ W, Below w.heap.size w W → ∀ t, Calls Try.prog 86 #[t.v, ptr A, ptr H] W fun e w' => e = .returned (.bool (p t)) ∧ Below W.heap.size W w') := hp
  obtain ⟨R, hR⟩ : ∃ R, Hid (idxP p l = R) := ⟨_, rfl⟩
  rw [hR.out]
  obtain ⟨N, hN⟩ : ∃ N, Hid (N = l.length) := ⟨_, rfl⟩
  rw [← hN.out] at hl ⊢
  clear hr hp
  go_enter Try.func47, Try.ntmps47
  go_wp2_with fail
  go_loopw [8] (fun i wr => ∃ k : Nat, k ≤ N ∧ i = .int .i64 k ∧ Hid (Below w.heap.size w wr ∧ ∀ j t, j < k → l[j]? = some t → p t = false)) (fun i _ => ((N : Int) - intOf i).toNat)
  case atStart => exact ⟨0, Nat.zero_le _, rfl, Below.refl _ _, fun j t h => absurd h (Nat.not_lt_zero _)⟩
  case round =>
    obtain ⟨k, hk, rfl, HB⟩ := hrel
    rcases Nat.lt_or_ge k N with hkN | hkN
    · have hkz : (k : Int) < N := by omega
      obtain ⟨t, ht⟩ : ∃ t, l[k]? = some t := ⟨l[k]'(by rw [← hN.out]; omega), List.getElem?_eq_getElem _⟩
      obtain ⟨g, o, rfl, hat⟩ := (HR.out.below HB.out.1).at_ ht
      obtain ⟨t0, t1, t2, t3, t4, t5, t6, t7, t8, t9⟩ := hat.f
      have HT : Hid (l[k]? = some t) := ht
      have HC : Hid (Calls Try.prog 86 #[t.v, ptr A, ptr H] wr fun e w' => e = .returned (.bool (p t)) ∧ Below wr.heap.size wr w') := HP.out wr HB.out.1 t
      clear ht hat
      cases hp : p t
      · rw [hp] at HC
        go_wp2_with (go_at_call 86; refine HC.out.mono ?_; rintro e w1 ⟨rfl, hb1⟩; have HI2 : Hid (Below w.heap.size w w1) := bstep HB.out.1 hb1; clear hb1)
        go_roundw
        case rel =>
          refine ⟨k + 1, by omega, by go_num, HI2.out, fun j t' hj ht' => ?_⟩
          by_cases e : j = k
          · subst e; rw [HT.out] at ht'; cases ht'; exact hp
          · exact HB.out.2 j t' (by omega) ht'
        case measure => simp [intOf]; omega
      · rw [hp] at HC
        go_wp2_with (go_at_call 86; refine HC.out.mono ?_; rintro e w1 ⟨rfl, hb1⟩; have HI2 : Hid (Below w.heap.size w w1) := bstep HB.out.1 hb1; clear hb1)
        go_ret
        refine ⟨?_, HI2.out⟩
        rw [← hR.out]
        have hf : l.findIdx p = k := by
          rw [List.findIdx_eq (by rw [← hN.out]; exact hkN)]
          obtain ⟨h1, h2⟩ := List.getElem?_eq_some_iff.1 HT.out
          refine ⟨by rw [h2]; exact hp, fun j hj => ?_⟩
          exact HB.out.2 j _ hj (List.getElem?_eq_getElem (by rw [← hN.out]; omega))
        unfold idxP
        rw [hf, if_pos (by rw [← hN.out]; exact hkN)]
        rfl
    · obtain rfl : k = N := by omega
      have hz : ¬ ((k : Int) < k) := by omega
      go_wp2_with fail
      go_ret
      refine ⟨?_, HB.out.1⟩
      rw [← hR.out]
      unfold idxP
      rw [if_neg]
      · rfl
      · rw [List.findIdx_lt_length]
        rintro ⟨x, hx, hpx⟩
        obtain ⟨j, hj, rfl⟩ := List.getElem_of_mem hx
        have := HB.out.2 j _ (by rw [hN.out]; exact hj) (List.getElem?_eq_getElem hj)
        rw [this] at hpx; cases hpx
set_option maxRecDepth 100000 in
set_option maxHeartbeats 1000000 in
theorem place_any {w : World} {x : Option Addr} {cap : Nat} {l : List Fi} (hr : RdF w x l) (hl : l.length * 96 ≤ 140737488355328) (how : Int) (lv : Nat) (a : Fi) :
    Calls Try.prog 50 #[.int .i64 how, .agg #[.int .i64 lv, .int .u64 a.num, .int .u64 a.size, .string a.sm.u, .int .u64 a.sm.s, .int .i64 a.sm.k, .string a.la.u, .int .u64 a.la.s, .int .i64 a.la.k, .int .u64 a.ents, .int .u64 a.rngs], .slice x l.length cap] w fun e w' => e = .returned (.int .i64 (l.findIdx (behB how lv a) : Nat)) ∧ Below w.heap.size w w' := by
  have hb0 : Below w.heap.size w ((w.alloc (.cells #[.int .i64 how] 3)).alloc (.cells #[.int .i64 lv, .int .u64 a.num, .int .u64 a.size, .string a.sm.u, .int .u64 a.sm.s, .int .i64 a.sm.k, .string a.la.u, .int .u64 a.la.s, .int .i64 a.la.k, .int .u64 a.ents, .int .u64 a.rngs] 64)) := bstep (al1 _ _) (al1 _ _)
  have B0 := (Blk.new w 3 [.int .i64 how]).alloc (.cells #[.int .i64 lv, .int .u64 a.num, .int .u64 a.size, .string a.sm.u, .int .u64 a.sm.s, .int .i64 a.sm.k, .string a.la.u, .int .u64 a.la.s, .int .i64 a.la.k, .int .u64 a.ents, .int .u64 a.rngs] 64)
  have B1 := Blk.new (w.alloc (.cells #[.int .i64 how] 3)) 64 [.int .i64 lv, .int .u64 a.num, .int .u64 a.size, .string a.sm.u, .int .u64 a.sm.s, .int .i64 a.sm.k, .string a.la.u, .int .u64 a.la.s, .int .i64 a.la.k, .int .u64 a.ents, .int .u64 a.rngs]
  rw [World.size_alloc] at B1
  have HI := findex86 (cap := cap) (hr.below hb0) hl (A := w.heap.size + 1) (H := w.heap.size) (p := behB how lv a) (fun W hW t => by
    have C0 := B0.upd (S := Non) (Upd.ofBelow hW) (fun h => h)
    have C1 := B1.upd (S := Non) (Upd.ofBelow hW) (fun h => h)
    exact beh_any (C1.cell1 0 _ rfl) (C1.cell1 1 _ rfl) (C1.cell1 3 _ rfl) (C1.cell1 4 _ rfl) (C1.cell1 5 _ rfl) (C0.cell1 0 _ rfl) t)
  have hm : Hid (l.findIdx (behB how lv a) ≤ l.length) := List.findIdx_le_length
  have HB0 : Hid (Below w.heap.size w ((w.alloc (.cells #[.int .i64 how] 3)).alloc (.cells #[.int .i64 lv, .int .u64 a.num, .int .u64 a.size, .string a.sm.u, .int .u64 a.sm.s, .int .i64 a.sm.k, .string a.la.u, .int .u64 a.la.s, .int .i64 a.la.k, .int .u64 a.ents, .int .u64 a.rngs] 64))) := hb0
  unfold idxP at HI
  generalize l.findIdx (behB how lv a) = I at *
  obtain ⟨N, hN⟩ : ∃ N, Hid (l.length = N) := ⟨_, rfl⟩
  rw [hN.out] at HI hl ⊢
  have hm' : Hid (I ≤ N) := by show I ≤ N; rw [← hN.out]; exact hm.out
  clear B0 B1 hb0 hr
  by_cases h : I < N
  · rw [if_pos h] at HI
    go_enter Try.func50, Try.ntmps50
    go_wp2_with (go_at_call 47; refine HI.mono ?_; rintro e w1 ⟨rfl, hb1⟩)
    go_ret
    exact ⟨rfl, bstep HB0.out hb1⟩
  · rw [if_neg h] at HI
    obtain rfl : I = N := by have := hm'.out; omega
    go_enter Try.func50, Try.ntmps50
    go_wp2_with (go_at_call 47; refine HI.mono ?_; rintro e w1 ⟨rfl, hb1⟩)
    go_ret
    exact ⟨rfl, bstep HB0.out hb1⟩
end Go.Proofs.Ytkmpcheamdadcaa
