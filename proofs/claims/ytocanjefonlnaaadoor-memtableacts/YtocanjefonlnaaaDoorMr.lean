import Derived.Test.YtocanjefonlnaaaDoorZc
import Derived.Test.YtocanjefonlnaaaDoorSw
namespace Go.Proofs.YtocanjefonlnaaaDoor
open Go.RowKit
set_option linter.unusedVariables false
set_option linter.unusedSimpArgs false
/-- The cells of records. -/
def rcs : List Rec → List Value
  | [] => []
  | r :: l => r.c ++ rcs l
theorem rcs_len (l : List Rec) : (rcs l).length = l.length * 4 := by
  induction l with
  | nil => rfl
  | cons r l ih => simp [rcs, Rec.c, ih]; omega
theorem rcs_app (l m : List Rec) : rcs (l ++ m) = rcs l ++ rcs m := by
  induction l with
  | nil => rfl
  | cons r l ih => simp [rcs, ih]
theorem rcs_get (l : List Rec) (j : Nat) (r : Rec) (h : l[j]? = some r) (i : Nat) (hi : i < 4) : (rcs l)[j * 4 + i]? = (r.c)[i]? := by
  induction l generalizing j with
  | nil => simp at h
  | cons x l ih =>
    cases j with
    | zero =>
      simp at h; subst h
      simp only [rcs, Nat.zero_mul, Nat.zero_add]
      rw [List.getElem?_append_left (by simp [Rec.c]; omega)]
    | succ j =>
      simp only [rcs]
      rw [List.getElem?_append_right (by simp [Rec.c]; omega)]
      have := ih j (by simpa using h)
      rw [← this]
      congr 1
      simp [Rec.c]; omega
theorem row_rat {w : World} {g cap n : Nat} {l : List Rec} (h : w.ownsRow 0 36 4 (.slice (some ⟨g, 0, none⟩) n cap) l.length (rcs l)) (j : Nat) (r : Rec) (hj : l[j]? = some r) : RAt w g (j * 4) r := by
  have hc := h.cells (g := g) rfl
  have hg := fun i hi => rcs_get l j r hj i hi
  refine ⟨?_, ?_, ?_, ?_⟩
  · have := hc (j * 4 + 0) _ ((hg 0 (by decide)).trans rfl); rw [add_at] at this; simpa using this
  · have := hc (j * 4 + 1) _ ((hg 1 (by decide)).trans rfl); rw [add_at] at this; simpa using this
  · have := hc (j * 4 + 2) _ ((hg 2 (by decide)).trans rfl); rw [add_at] at this; simpa using this
  · have := hc (j * 4 + 3) _ ((hg 3 (by decide)).trans rfl); rw [add_at] at this; simpa using this
theorem info36 : (Tryd.prog.info? 36).map (fun i => (i.zero, i.size, i.bytes)) = some (some (.agg #[.int .u32 0, .int .i64 0, .string ⟨#[]⟩, .string ⟨#[]⟩]), 4, 48) := by kernel_rfl
/-- One record more onto a row. -/
theorem push_rec {w : World} {v : Value} {l : List Rec} (h : w.ownsRow 0 36 4 v l.length (rcs l)) {vb : Nat} {r : Rec} (hv : Blk w vb 36 r.c) (ty : TypeId) (hl : l.length ≤ 10000) :
    ∃ v' w', (Builtin.append_ #[43, 43] ty #[v, .slice (some ⟨vb, 0, none⟩) 1 1]).run Tryd.prog w = .ok v' w' ∧ w'.ownsRow 0 36 4 v' (l ++ [r]).length (rcs (l ++ [r])) ∧ Upd (fun k => v.ownBlock = some k) w w' ∧ (v'.ownBlock = v.ownBlock ∨ v'.ownBlock = some w.heap.size) := by
  obtain ⟨i0, hi, hz0, hz1, hz2⟩ := info_parts info36
  obtain ⟨v', w', hr, h2, h3, _, h5⟩ := run_append_own_at (P := Tryd.prog) w 0 43 ty 36 i0 _ 4 48 Tryd.underlying43 hi hz0 hz1 hz2 rfl (by decide) v l.length (rcs l) h ⟨vb, 0, none⟩ 1 1 r.c (by simp [Rec.c]) (fun j u hj => by rw [add_at, Nat.zero_add]; exact hv.cell1 j u hj) (fun u hu => by simp [Rec.c] at hu; rcases hu with rfl | rfl | rfl | rfl <;> rfl) (by unfold maxLen; omega) (by omega) (Nat.zero_le _)
  refine ⟨v', w', hr, ?_, (Upd.refl _ _).grown h3 (fun k hk _ => hk), h5⟩
  rw [rcs_app]
  simpa [rcs] using h2
/-- The table and the records that were done. -/
structure Md (w wr : World) (T : Nat) (how : Int) (st : Ms) (v : Value) (d : List Rec) : Prop where
  ex : ∃ B : Nat → Prop, Tb wr T B how st ∧ (∀ k, B k → w.heap.size ≤ k ∧ k < wr.heap.size) ∧ (∀ k, v.ownBlock = some k → w.heap.size ≤ k ∧ ¬ B k)
  row : wr.ownsRow 0 36 4 v d.length (rcs d)
  bel : Below w.heap.size w wr
theorem Md.step {w wr wr' : World} {T : Nat} {how : Int} {st : Ms} {v : Value} {d : List Rec} (h : Md w wr T how st v d) (hb : Below wr.heap.size wr wr') : Md w wr' T how st v d := by
  obtain ⟨B, h1, h2, h3⟩ := h.ex
  exact ⟨⟨B, h1.below hb, fun k hk => ⟨(h2 k hk).1, Nat.lt_of_lt_of_le (h2 k hk).2 hb.size⟩, h3⟩, row_upd h.row (S := Non) (Upd.ofBelow hb) (fun _ _ x => x), h.bel.trans (hb.mono h.bel.size)⟩
theorem Md.rlt {w wr : World} {T : Nat} {how : Int} {st : Ms} {v : Value} {d : List Rec} (h : Md w wr T how st v d) : ∀ k, v.ownBlock = some k → k < wr.heap.size := fun k hk => by
  rcases h.row.2 with ⟨rfl, _⟩ | ⟨g, cap, cur, rfl, _, hg, _⟩
  · cases hk
  · cases hk; exact (Array.getElem?_eq_some_iff.1 hg).1
theorem Md.add {w wr : World} (hz : Tz w) (h2 : 2 < w.heap.size) {T : Nat} {how : Int} {st : Ms} {v : Value} {d : List Rec} (h : Md w wr T how st v d) (hI : Inv how st) (seq f k : Int) (key val : ByteArray) :
    Calls Tryd.prog 12 #[ptr T, .int .u64 seq, recV f k key val] wr fun e w' => e = .returned (.int .i64 (addM how st seq k key val).1) ∧ Md w w' T how (addM how st seq k key val).2 v d := by
  obtain ⟨B, g1, g2, g3⟩ := h.ex
  have hl := h.rlt
  refine (add_any g1 hI (tz_keep hz h.bel h2) (fun k hk => (g2 k hk).2) seq f k key val).mono ?_
  rintro e w' ⟨rfl, t1, u1⟩
  refine ⟨rfl, ⟨grB B wr w', t1, ?_, ?_⟩, row_upd h.row u1 (fun k hk => (g3 k hk).2), up_bel h.bel u1 (fun k hk => (g2 k hk).1) h.bel.size⟩
  · rintro k (hk | hk)
    · exact ⟨(g2 k hk).1, Nat.lt_of_lt_of_le (g2 k hk).2 u1.size⟩
    · exact ⟨Nat.le_trans h.bel.size hk.1, hk.2⟩
  · intro k hk
    refine ⟨(g3 k hk).1, ?_⟩
    rintro (hk' | hk')
    · exact (g3 k hk).2 hk'
    · have := hl k hk; omega
theorem Md.get {w wr : World} {T : Nat} {how : Int} {st : Ms} {v : Value} {d : List Rec} (h : Md w wr T how st v d) (hI : Inv how st) (key : ByteArray) (seq : Int) :
    Calls Tryd.prog 13 #[ptr T, .string key, .int .u64 seq] wr fun e w' => e = .returned (gv (gV (look st.E key seq) (ovS how key seq st.R))) ∧ Md w w' T how st v d := by
  obtain ⟨B, g1, _⟩ := h.ex
  rw [← get_S hI]
  exact (get_tb g1 hI key seq).mono fun e w' hh => ⟨hh.1, h.step hh.2⟩
theorem Md.push {w wr : World} {T : Nat} {how : Int} {st : Ms} {v : Value} {d : List Rec} (h : Md w wr T how st v d) {vb : Nat} {r : Rec} (hv : Blk wr vb 36 r.c) (ty : TypeId) (hl : d.length ≤ 10000) :
    ∃ v' w', (Builtin.append_ #[43, 43] ty #[v, .slice (some ⟨vb, 0, none⟩) 1 1]).run Tryd.prog wr = .ok v' w' ∧ Md w w' T how st v' (d ++ [r]) := by
  obtain ⟨B, g1, g2, g3⟩ := h.ex
  obtain ⟨v', w', h1, h2, h3, h4⟩ := push_rec h.row hv ty hl
  refine ⟨v', w', h1, ⟨B, g1.upd h3 (fun k hk hk' => (g3 k hk').2 hk), fun k hk => ⟨(g2 k hk).1, Nat.lt_of_lt_of_le (g2 k hk).2 h3.size⟩, ?_⟩, h2, up_bel h.bel h3 (fun k hk => (g3 k hk).1) h.bel.size⟩
  intro k hk
  rcases h4 with e | e
  · exact g3 k (by rw [← e]; exact hk)
  · rw [e] at hk; cases hk
    exact ⟨h.bel.size, fun hB => by have := (g2 _ hB).2; omega⟩
/-- A slice whose strings are these. -/
def RdS (w : World) (a : Option Addr) (l : List ByteArray) : Prop := l = [] ∨ ∃ b off, a = some ⟨b, off, none⟩ ∧ b < w.heap.size ∧ ∀ (j : Nat) (s : ByteArray), l[j]? = some s → w.cell? ⟨b, off + j, none⟩ = some (.string s)
theorem RdS.at {w : World} {a : Option Addr} {l : List ByteArray} (h : RdS w a l) {k : Nat} (hk : k < l.length) : ∃ b off, a = some ⟨b, off, none⟩ ∧ ∀ W : World, Below w.heap.size w W → W.cell? ⟨b, off + k, none⟩ = some (.string l[k]) := by
  rcases h with rfl | ⟨b, off, rfl, hb, hc⟩
  · simp at hk
  · exact ⟨b, off, rfl, fun W hB => keepc hB (hc k l[k] (List.getElem?_eq_getElem hk))⟩
theorem rdb_21 (w : World) : RdB (w.alloc (.cells #[.int .u8 2, .int .u8 1] 5)) (.slice (some ⟨w.heap.size, 0, none⟩) 2 2) [2, 1] := by
  refine .inr ⟨w.heap.size, 0, 2, rfl, by simp, fun j u hj => ?_⟩
  rw [add_at, Nat.zero_add, World.cell?_alloc_at (w := w) _ _ w.heap.size j rfl]
  simpa [bc] using hj
end Go.Proofs.YtocanjefonlnaaaDoor
