/-
  Copies of versions.
-/
import Derived.Test.YtkmpcheamdadcaaVf
import Derived.Lib.AppendZeros
namespace Go.Proofs.Ytkmpcheamdadcaa
open Go.RowKit
set_option linter.unusedVariables false
set_option linter.unusedSimpArgs false
/-- What a slice of tables reads as, laid behind a row of one's own. -/
theorem fcopy_run {w : World} {base : Nat} {v : Value} {l0 l : List Fi} (ho : RowF w base v l0) (hb : base ≤ w.heap.size) {a : Option Addr} {cap : Nat} (h : RdF w a l) (hn : a = none → cap = 0) (hl : (l0.length + l.length) * 96 ≤ 140737488355328) :
    ∃ v' w', (Builtin.append_ #[38, 38] 38 #[v, .slice a l.length cap]).run Try.prog w = .ok v' w' ∧ RowF w' base v' (l0 ++ l) ∧ Upd (fun k => v.ownBlock = some k) w w' := by
  cases a with
  | none =>
    have hl0 : l = [] := by rcases h with h | ⟨_, _, h, _⟩; exact h; cases h
    subst hl0
    rw [hn rfl]
    refine ⟨v, w, ?_, by simpa using ho, Upd.refl _ _⟩
    obtain ⟨i0, hi, _⟩ := info_parts info50
    exact run_append_owned_none _ _ _ _ _ i0 _ Try.underlying38 hi _ _ _ ho
  | some ad =>
    have hs : ∀ j u, (cls Fi.c l)[j]? = some u → w.cell? (ad.add j) = some u := by
      rcases h with rfl | ⟨g, o, e, hc⟩
      · intro j u hu; simp [cls] at hu
      · cases e; exact rd_src fi_k (by decide) hc
    obtain ⟨v', w', hr, h2, h3, h4⟩ := pushes_g (P := Try.prog) fi_k fi_1 Try.underlying38 info50 rfl (by decide) (c := cap) ho hb hs 38 hl (by unfold maxLen; omega)
    exact ⟨v', w', hr, h2, h3⟩
set_option maxRecDepth 100000 in
set_option maxHeartbeats 1000000 in
theorem fclone_any {w : World} {a : Option Addr} {cap : Nat} {l : List Fi} (h : RdF w a l) (hn : a = none → cap = 0) (hl : l.length * 96 ≤ 140737488355328) :
    Calls Try.prog 85 #[.slice a l.length cap] w fun e w' => ∃ v, e = .returned v ∧ RowF w' w.heap.size v l ∧ Below w.heap.size w w' := by
  cases a with
  | none =>
    have hl0 : l = [] := by rcases h with h | ⟨_, _, h, _⟩; exact h; cases h
    subst hl0
    obtain rfl : cap = 0 := hn rfl
    clear hn
    have he := Lib.run_eql_slice_nil (P := Try.prog) w 38 50 none 0 0 0 0 Try.underlying38
    show Calls Try.prog 85 #[.slice none 0 0] w _
    go_enter Try.func85, Try.ntmps85
    go_wp2
    go_ret
    exact ⟨_, rfl, World.ownsRow_nil _ _ _ _, Below.refl _ _⟩
  | some ad =>
    have hb0 : Below w.heap.size w (w.alloc (.cells #[] 50)) := al1 _ _
    have ho : RowF (w.alloc (.cells #[] 50)) w.heap.size (.slice (some ⟨w.heap.size, 0, none⟩) 0 0) [] := World.ownsRow_made (base := w.heap.size) (e := 50) (size := 10) w #[] 0 (Nat.le_refl _) (by unfold maxLen; omega) rfl
    obtain ⟨v', w', hr, h2, h3⟩ := fcopy_run ho (by simp) (h.below hb0) hn (by simpa using hl)
    simp only [List.nil_append] at h2
    have HP : Hid (RowF w' w.heap.size v' l ∧ Below w.heap.size w w') := ⟨h2, hb0.trans (h3.below (fun k hk => Nat.lt_of_lt_of_le hk hb0.size) (fun j hj => by cases hj; exact Nat.le_refl _))⟩
    obtain ⟨va, vc, hv⟩ := row_slice h2
    obtain ⟨N, hN⟩ : ∃ N, Hid (l.length = N) := ⟨_, rfl⟩
    rw [hN.out] at hv hr ⊢
    subst hv
    have he : ∀ W, (binOp .eql 38 (.slice (some ad) N cap) (.slice none 0 0)).run Try.prog W = .ok (.bool false) W := fun W => Lib.run_eql_slice_nil W 38 50 (some ad) N cap _ _ Try.underlying38
    clear ho hb0 h2 h3 h
    go_enter Try.func85, Try.ntmps85
    go_wp2_with (at_builtin; refine Lib.wpList_append_run _ rfl _ _ _ _ rfl _ _ rfl rfl _ _ hr ?_)
    go_ret
    exact ⟨_, rfl, HP.out⟩
/-- Seven cells. -/
abbrev cells7 (f : Nat → Value) : List Value := [f 0, f 1, f 2, f 3, f 4, f 5, f 6]
theorem cells7_get (f : Nat → Value) (k : Nat) (hk : k < 7) : (cells7 f)[k]? = some (f k) := by
  have : k = 0 ∨ k = 1 ∨ k = 2 ∨ k = 3 ∨ k = 4 ∨ k = 5 ∨ k = 6 := by omega
  rcases this with rfl | rfl | rfl | rfl | rfl | rfl | rfl <;> rfl
theorem cells7_set (f : Nat → Value) (k : Nat) (hk : k < 7) (v : Value) : (cells7 f).set k v = cells7 (fun i => if i = k then v else f i) := by
  have : k = 0 ∨ k = 1 ∨ k = 2 ∨ k = 3 ∨ k = 4 ∨ k = 5 ∨ k = 6 := by omega
  rcases this with rfl | rfl | rfl | rfl | rfl | rfl | rfl <;> rfl
theorem cells7_congr {f g : Nat → Value} (h : ∀ i, i < 7 → f i = g i) : cells7 f = cells7 g := by
  simp only [cells7, h 0 (by decide), h 1 (by decide), h 2 (by decide), h 3 (by decide), h 4 (by decide), h 5 (by decide), h 6 (by decide)]
/-- A version whose lists lie in rows of one's own, each in another one. -/
structure OwnV (W : World) (base : Nat) (V : Vn) (L : Nat → List Fi) : Prop where
  rows : ∀ i, i < 7 → RowF W base (vsl V L i) (L i)
  apart : ∀ i j, i < 7 → j < 7 → i ≠ j → ∀ b, (vsl V L i).ownBlock = some b → (vsl V L j).ownBlock ≠ some b
theorem row_nilc {w : World} {base : Nat} {e : TypeId} {k n c m : Nat} {xs : List Value} (h : w.ownsRow base e k (.slice none m c) n xs) : c = 0 := by
  rcases h.2 with ⟨h, _⟩ | ⟨g, cap, cur, h, _⟩
  · cases h; rfl
  · cases h
theorem OwnV.rdv {W : World} {base : Nat} {V : Vn} {L : Nat → List Fi} (h : OwnV W base V L) (hl : ∀ i, i < 7 → (L i).length * 96 ≤ 140737488355328) (hok : ∀ i, i < 7 → ∀ f ∈ L i, FOk f) : RdV W V L := by
  refine ⟨fun i hi => ?_, fun i hi hn => ?_, hl, hok⟩
  · obtain ⟨a, c, e, _, hr, _⟩ := row_rd fi_k (h.rows i hi)
    have e' : V.a i = a := by injection e
    rw [e']; exact hr
  · have hr := h.rows i hi
    unfold vsl at hr
    rw [hn] at hr
    exact row_nilc hr
theorem OwnV.upd {S : Nat → Prop} {W W' : World} {base : Nat} {V : Vn} {L : Nat → List Fi} (h : OwnV W base V L) (u : Upd S W W') (hS : ∀ k, S k → k < base) : OwnV W' base V L :=
  ⟨fun i hi => row_upd (h.rows i hi) u (fun k hk hs => by have := (row_blk (h.rows i hi) k hk).1; have := hS k hs; omega), h.apart⟩
theorem OwnV.below {W W' : World} {base : Nat} {V : Vn} {L : Nat → List Fi} (h : OwnV W base V L) (hb : Below W.heap.size W W') : OwnV W' base V L := h.upd (S := Non) (Upd.ofBelow hb) (fun k hk => hk.elim)
/-- A copy under way: k of the seven are done; box B, the result's box behind it. -/
structure Cop (w W : World) (t : TypeId) (V : Vn) (L : Nat → List Fi) (k : Nat) (vs : Nat → Value) : Prop where
  bel : Below w.heap.size w W
  box : Blk W w.heap.size t (cells7 (fun i => if i < k then vs i else vsl V L i))
  res : Blk W (w.heap.size + 1) t (cells7 (fun _ => .slice none 0 0))
  rows : ∀ i, i < k → RowF W (w.heap.size + 2) (vs i) (L i)
  apart : ∀ i j, i < k → j < k → i ≠ j → ∀ b, (vs i).ownBlock = some b → (vs j).ownBlock ≠ some b
theorem Cop.start {w : World} {t : TypeId} {V : Vn} {L : Nat → List Fi} {vs : Nat → Value} : Cop w ((w.alloc (.cells (verA V L) t)).alloc (.cells #[.slice none 0 0, .slice none 0 0, .slice none 0 0, .slice none 0 0, .slice none 0 0, .slice none 0 0, .slice none 0 0] t)) t V L 0 vs := by
  have B0 := (Blk.new w t (cells7 (vsl V L))).alloc (.cells #[.slice none 0 0, .slice none 0 0, .slice none 0 0, .slice none 0 0, .slice none 0 0, .slice none 0 0, .slice none 0 0] t)
  have B1 := Blk.new (w.alloc (.cells (verA V L) t)) t (cells7 (fun _ => .slice none 0 0))
  rw [World.size_alloc] at B1
  exact ⟨bstep (al1 _ _) (al1 _ _), B0, B1, fun i hi => by omega, fun i j hi => by omega⟩
theorem Cop.below {w W W' : World} {t : TypeId} {V : Vn} {L : Nat → List Fi} {k : Nat} {vs : Nat → Value} (h : Cop w W t V L k vs) (hb : Below W.heap.size W W') : Cop w W' t V L k vs :=
  ⟨bstep h.bel hb, h.box.upd (S := Non) (Upd.ofBelow hb) (fun h => h), h.res.upd (S := Non) (Upd.ofBelow hb) (fun h => h), fun i hi => row_upd (S := Non) (h.rows i hi) (Upd.ofBelow hb) (fun _ _ h => h), h.apart⟩
theorem Cop.step {w W W' : World} {t : TypeId} (ht : (50 : TypeId) ≠ t) {V : Vn} {L : Nat → List Fi} {k : Nat} (hk : k < 7) {vs : Nat → Value} (h : Cop w W t V L k vs) (hb : Below W.heap.size W W') {v : Value} (hr : RowF W' W.heap.size v (L k)) :
    Cop w (W'.setCell ⟨w.heap.size, k, none⟩ v) t V L (k + 1) (fun i => if i = k then v else vs i) := by
  have h' := h.below hb
  have hs1 : w.heap.size + 1 < W.heap.size := h.res.lt
  have U : Upd (fun j => j = w.heap.size) W' (W'.setCell ⟨w.heap.size, k, none⟩ v) := Upd.setCell (p := ⟨w.heap.size, k, none⟩) (Upd.refl (fun j => j = w.heap.size) _) (fun _ => rfl) _
  refine ⟨?_, ?_, ?_, fun i hi => ?_, fun i j hi hj hij b hbi => ?_⟩
  · exact Upd.bel h'.bel U (fun j hj => by omega) h'.bel.size
  · have := h'.box.set k v
    rw [cells7_set _ k hk] at this
    rw [cells7_congr (g := fun i => if i = k then v else if i < k then vs i else vsl V L i)]
    · exact this
    · intro i hi
      by_cases e : i = k
      · subst e; simp
      · have : i < k + 1 ↔ i < k := by omega
        simp [e, this]
  · exact h'.res.upd U (by omega)
  · by_cases e : i = k
    · subst e
      simp only [if_pos rfl]
      refine row_upd (World.ownsRow.mono hr (by omega)) U (fun j hj e => ?_)
      have := (row_blk hr j hj).1
      omega
    · simp only [if_neg e]
      refine row_upd (h'.rows i (by omega)) U (fun j hj e => ?_)
      have := (row_blk (h'.rows i (by omega)) j hj).1
      omega
  · by_cases ei : i = k
    · subst ei
      rw [if_pos rfl] at hbi
      rw [if_neg (Ne.symm hij)]
      intro e
      have h1 := (row_blk hr b hbi).1
      have h2 := (row_blk (h.rows j (by omega)) b e).2
      omega
    · rw [if_neg ei] at hbi
      by_cases ej : j = k
      · subst ej
        rw [if_pos rfl]
        intro e
        have h1 := (row_blk hr b e).1
        have h2 := (row_blk (h.rows i (by omega)) b hbi).2
        omega
      · rw [if_neg ej]
        exact h.apart i j (by omega) (by omega) hij b hbi
/-- What stands at the end. -/
theorem Cop.own {w W : World} {t : TypeId} {V : Vn} {L : Nat → List Fi} {vs : Nat → Value} (h : Cop w W t V L 7 vs) : ∃ V', (∀ i, i < 7 → vs i = vsl V' L i) ∧ OwnV W (w.heap.size + 2) V' L := by
  have hv : ∀ i, i < 7 → vs i = .slice (match vs i with | .slice a _ _ => a | _ => none) (L i).length (match vs i with | .slice _ _ c => c | _ => 0) := fun i hi => by
    obtain ⟨a, c, e⟩ := row_slice (h.rows i hi)
    rw [e]
  refine ⟨⟨fun i => match vs i with | .slice a _ _ => a | _ => none, fun i => match vs i with | .slice _ _ c => c | _ => 0⟩, hv, fun i hi => ?_, fun i j hi hj hij b hb => ?_⟩
  · have := h.rows i hi
    rw [hv i hi] at this
    exact this
  · have hi' := h.apart i j hi hj hij b
    rw [hv i hi, hv j hj] at hi'
    exact hi' hb
end Go.Proofs.Ytkmpcheamdadcaa
