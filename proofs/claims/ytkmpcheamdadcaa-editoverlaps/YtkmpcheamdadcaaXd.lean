/-
  Overlaps, walked.
-/
import Derived.Test.YtkmpcheamdadcaaXc
import Derived.Test.YtkmpcheamdadcaaXm
import Derived.Test.YtkmpcheamdadcaaVo
namespace Go.Proofs.Ytkmpcheamdadcaa
open Go.RowKit
set_option linter.unusedVariables false
set_option linter.unusedSimpArgs false
/-- Those that lie over the range. -/
def seeds (how : Int) (l : List Fi) (b en : ByteArray) : List Bool := l.map fun f => rchB how f b en
def ovT (how : Int) (lv : Nat) (l : List Fi) (b en : ByteArray) : List Bool := if lv = 0 then sprT how l (seeds how l b en) else seeds how l b en
def pickN (l : List Fi) (T : List Bool) (k : Nat) : List Fi := ((List.range k).filter fun i => T.getD i false).map fun i => l.getD i default
theorem info4 : (Try.prog.info? 4).map (fun i => (i.zero, i.size, i.bytes)) = some (some (.bool false), 1, 1) := by kernel_rfl
theorem pick_t {l : List Fi} {T : List Bool} {k : Nat} {f : Fi} (h : T.getD k false = true) (hf : l[k]? = some f) : pickN l T (k + 1) = pickN l T k ++ [f] := by
  unfold pickN
  rw [flt_snoc_t h, List.map_append]
  simp [List.getD_eq_getElem?_getD, hf]
theorem pick_f {l : List Fi} {T : List Bool} {k : Nat} (h : T.getD k false = false) : pickN l T (k + 1) = pickN l T k := by
  unfold pickN
  rw [flt_snoc_f h]
theorem pick_len (l : List Fi) (T : List Bool) (k : Nat) : (pickN l T k).length ≤ k := by
  unfold pickN
  rw [List.length_map]
  exact flt_len _ k
/-- The marks of the first k. -/
def fst (S : List Bool) (k : Nat) : List Bool := S.take k ++ List.replicate (S.length - k) false
theorem fst_len (S : List Bool) (k : Nat) : (fst S k).length = S.length := by unfold fst; simp; omega
theorem fst_set {S : List Bool} {k : Nat} {b : Bool} (h : S[k]? = some b) : (fst S k).set k b = fst S (k + 1) := by
  have hk := (List.getElem?_eq_some_iff.1 h).1
  apply List.ext_getElem?
  intro i
  unfold fst
  rw [List.getElem?_set]
  by_cases e : k = i
  · subst e
    simp only [if_true]
    rw [if_pos (by simp; omega), List.getElem?_append_left (by simp; omega), List.getElem?_take_of_lt (by omega), h]
  · rw [if_neg e]
    rcases Nat.lt_or_ge i k with h1 | h1
    · rw [List.getElem?_append_left (by simp; omega), List.getElem?_append_left (by simp; omega), List.getElem?_take_of_lt h1, List.getElem?_take_of_lt (by omega)]
    · rw [List.getElem?_append_right (by simp; omega), List.getElem?_append_right (by simp; omega)]
      simp only [List.length_take, Nat.min_eq_left (Nat.le_of_lt hk), Nat.min_eq_left (show k + 1 ≤ S.length by omega), List.getElem?_replicate]
      by_cases h2 : i < S.length
      · rw [if_pos (by omega), if_pos (by omega)]
      · rw [if_neg (by omega), if_neg (by omega)]
theorem fst_all (S : List Bool) : fst S S.length = S := by unfold fst; simp
theorem made_bls (n : Nat) (S : List Bool) (h : S.length = n) : (madeCells (Value.bool false).cells (n * 1)).toList = bls (fst S 0) := by
  subst h
  unfold fst madeCells
  apply List.ext_getElem?
  intro i
  simp [Value.cells, List.getElem?_replicate, List.getElem?_range]
  by_cases h : i < S.length
  · simp [h, Nat.mod_one]
  · simp [h]
/-- While the marks are set. -/
structure Mk (w : World) (TB : Nat) (S : List Bool) (k : Nat) (wr : World) : Prop where
  told : Blk wr TB 4 (bls (fst S k))
  bel : Below w.heap.size w wr
theorem Mk.set {w : World} {TB : Nat} {S : List Bool} {k : Nat} {wr : World} (h : Mk w TB S k wr) (hTB : w.heap.size ≤ TB) {b : Bool} (hb : S[k]? = some b) : Mk w TB S (k + 1) (wr.setCell ⟨TB, k, none⟩ (.bool b)) := by
  refine ⟨?_, Upd.bel h.bel ((Upd.refl (fun x => x = TB) wr).setCell (p := ⟨TB, k, none⟩) (fun _ => rfl) _) (fun x hx => by subst hx; exact hTB) h.bel.size⟩
  have := h.told.set k (.bool b)
  rw [show (bls (fst S k)).set k (Value.bool b) = bls ((fst S k).set k b) by simp [bls, List.map_set], fst_set hb] at this
  exact this
theorem Mk.alloc {w : World} {TB : Nat} {S : List Bool} {k : Nat} {wr : World} (h : Mk w TB S k wr) (o : Obj) : Mk w TB S k (wr.alloc o) := ⟨h.told.alloc o, h.bel.alloc h.bel.size o⟩
/-- While the picked ones are put in a row. -/
structure Pk (w : World) (TB : Nat) (l : List Fi) (T : List Bool) (k : Nat) (wr : World) (v : Value) : Prop where
  told : Blk wr TB 4 (bls T)
  bel : Below w.heap.size w wr
  row : RowF wr w.heap.size v (pickN l T k)
theorem Pk.push {w : World} {TB : Nat} {l : List Fi} {T : List Bool} {k : Nat} {wr : World} {v : Value} (h : Pk w TB l T k wr v) {f : Fi} (hT : T.getD k false = true) (hf : l[k]? = some f) {v' : Value} {w' : World} (hq : RowF w' w.heap.size v' (pickN l T k ++ [f])) (hu : Upd (fun b => v.ownBlock = some b) wr w') : Pk w TB l T (k + 1) w' v' :=
  ⟨h.told.upd hu (fun e => row_ne h.row h.told (by decide) _ e rfl), Upd.bel h.bel hu (fun b hb => (row_blk h.row b hb).1) h.bel.size, by rw [pick_t hT hf]; exact hq⟩
theorem Pk.alloc {w : World} {TB : Nat} {l : List Fi} {T : List Bool} {k : Nat} {wr : World} {v : Value} (h : Pk w TB l T k wr v) (o : Obj) : Pk w TB l T k (wr.alloc o) v :=
  ⟨h.told.alloc o, h.bel.alloc h.bel.size o, row_upd h.row ((Upd.refl Non wr).alloc o) (fun _ _ h => h)⟩
theorem Pk.skip {w : World} {TB : Nat} {l : List Fi} {T : List Bool} {k : Nat} {wr : World} {v : Value} (h : Pk w TB l T k wr v) (hT : T.getD k false = false) : Pk w TB l T (k + 1) wr v := ⟨h.told, h.bel, by rw [pick_f hT]; exact h.row⟩
/-- What Overlaps leaves. -/
def OvPost (w : World) (how : Int) (lv : Nat) (l : List Fi) (b en : ByteArray) (e : Ending) (w' : World) : Prop :=
  ∃ v, e = .returned (.tuple #[v, .int .i64 0]) ∧ Below w.heap.size w w' ∧ RowF w' w.heap.size v (pickN l (ovT how lv l b en) l.length)
end Go.Proofs.Ytkmpcheamdadcaa
