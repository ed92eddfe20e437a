/-
  The law EditApplies: what stands behind both copies, in whatever order their boxes were made.
-/
import Derived.Test.YtkmpcheamdadcaaYf
import Derived.Test.YtkmpcheamdadcaaYd
import Derived.Test.YtkmpcheamdadcaaYk
import Derived.Test.YtkmpcheamdadcaaWc
namespace Go.Proofs.Ytkmpcheamdadcaa
open Go.RowKit
set_option linter.unusedVariables false
set_option linter.unusedSimpArgs false
abbrev zV : Obj := .cells #[.slice none 0 0, .slice none 0 0, .slice none 0 0, .slice none 0 0, .slice none 0 0, .slice none 0 0, .slice none 0 0] 41
abbrev zEc : List Value := [.int .u32 0, .bool false, .bool false, .string ⟨#[]⟩, .int .i64 0, .bool false, .bool false, .bool false, .int .u64 0, .int .u64 0, .int .u64 0, .slice none 0 0, .slice none 0 0]
abbrev zE : Obj := .cells #[.int .u32 0, .bool false, .bool false, .string ⟨#[]⟩, .int .i64 0, .bool false, .bool false, .bool false, .int .u64 0, .int .u64 0, .int .u64 0, .slice none 0 0, .slice none 0 0] 27
theorem blk_new1 (w : World) (o : Obj) (t : TypeId) (cs : List Value) : Blk ((w.alloc o).alloc (.cells cs.toArray t)) (w.heap.size + 1) t cs := by
  have := Blk.new (w.alloc o) t cs
  rw [World.size_alloc] at this
  exact this
theorem zv0 (w : World) : Blk (w.alloc zV) w.heap.size 41 (cells7 nil7) := Blk.new w 41 (cells7 nil7)
theorem zv1 (w : World) (o : Obj) : Blk ((w.alloc o).alloc zV) (w.heap.size + 1) 41 (cells7 nil7) := blk_new1 w o 41 (cells7 nil7)
theorem ze0 (w : World) : Blk (w.alloc zE) w.heap.size 27 zEc := Blk.new w 27 zEc
theorem ze1 (w : World) (o : Obj) : Blk ((w.alloc o).alloc zE) (w.heap.size + 1) 27 zEc := blk_new1 w o 27 zEc
theorem bset {a w : World} {p : Addr} {v : Value} (h : Below a.heap.size a w) (hp : a.heap.size ≤ p.block) : Below a.heap.size a (w.setCell p v) := Upd.bel h (Upd.setCell (p := p) (Upd.refl (fun k => k = p.block) _) (fun _ => rfl) v) (fun j hj => by omega) h.size
theorem bal {a w : World} {o : Obj} (h : Below a.heap.size a w) : Below a.heap.size a (w.alloc o) := bstep h (al1 _ _)
theorem OwnE.box {W W' : World} {base R : Nat} {t : TypeId} {cs : List Value} {P : En} {e : Ed} (h : OwnE W base P e) (hR : Blk W R t cs) (h1 : (66 : TypeId) ≠ t) (h2 : (64 : TypeId) ≠ t) (u : Upd (fun k => k = R) W W') : OwnE W' base P e :=
  ⟨row_upd h.g u (fun k hk e => row_ne h.g hR h1 k hk e), row_upd h.a u (fun k hk e => row_ne h.a hR h2 k hk e)⟩
/-- Both copies, each in its box. -/
structure Cq (w W : World) (X Y : Nat) (V : Vn) (L : Nat → List Fi) (P : En) (e : Ed) : Prop where
  x : Blk W X 41 (cells7 (vsl V L))
  y : Blk W Y 27 (edA P e).toList
  ov : OwnV W w.heap.size V L
  oe : OwnE W w.heap.size P e
  b : Below w.heap.size w W
theorem set7v {W : World} {X : Nat} {V : Vn} {L : Nat → List Fi} (hZ : Blk W X 41 (cells7 nil7)) : Blk (((((((W.setCell ⟨X, 0, none⟩ (vsl V L 0)).setCell ⟨X, 1, none⟩ (vsl V L 1)).setCell ⟨X, 2, none⟩ (vsl V L 2)).setCell ⟨X, 3, none⟩ (vsl V L 3)).setCell ⟨X, 4, none⟩ (vsl V L 4)).setCell ⟨X, 5, none⟩ (vsl V L 5)).setCell ⟨X, 6, none⟩ (vsl V L 6)) X 41 (cells7 (vsl V L)) := (((((((hZ.set 0 _).set 1 _).set 2 _).set 3 _).set 4 _).set 5 _).set 6 _)
theorem set13e {W : World} {Y : Nat} {P : En} {e : Ed} (hY : Blk W Y 27 zEc) : Blk (((((((((((((W.setCell ⟨Y, 0, none⟩ (.int .u32 e.fam)).setCell ⟨Y, 1, none⟩ (.bool e.ma)).setCell ⟨Y, 2, none⟩ (.bool e.dr)).setCell ⟨Y, 3, none⟩ (.string e.name)).setCell ⟨Y, 4, none⟩ (.int .i64 e.how)).setCell ⟨Y, 5, none⟩ (.bool e.hl)).setCell ⟨Y, 6, none⟩ (.bool e.hn)).setCell ⟨Y, 7, none⟩ (.bool e.hs)).setCell ⟨Y, 8, none⟩ (.int .u64 e.log)).setCell ⟨Y, 9, none⟩ (.int .u64 e.next)).setCell ⟨Y, 10, none⟩ (.int .u64 e.seq)).setCell ⟨Y, 11, none⟩ (.slice P.ga e.gone.length P.gc)).setCell ⟨Y, 12, none⟩ (.slice P.aa e.added.length P.ac)) Y 27 (edA P e).toList := set13 hY (.int .u32 e.fam) (.bool e.ma) (.bool e.dr) (.string e.name) (.int .i64 e.how) (.bool e.hl) (.bool e.hn) (.bool e.hs) (.int .u64 e.log) (.int .u64 e.next) (.int .u64 e.seq) (.slice P.ga e.gone.length P.gc) (.slice P.aa e.added.length P.ac)
theorem leaf_ee {w W : World} {V : Vn} {L : Nat → List Fi} {P : En} {e : Ed} (hv : OwnV W w.heap.size V L) (he : OwnE W w.heap.size P e) (hb : Below w.heap.size w W) {X : Nat} (hZ : Blk W X 41 (cells7 nil7)) (hX : w.heap.size ≤ X) {Y : Nat} (hY : Blk W Y 27 zEc) (hYl : w.heap.size ≤ Y) : Cq w ((((((((((((((((((((W.setCell ⟨X, 0, none⟩ (vsl V L 0)).setCell ⟨X, 1, none⟩ (vsl V L 1)).setCell ⟨X, 2, none⟩ (vsl V L 2)).setCell ⟨X, 3, none⟩ (vsl V L 3)).setCell ⟨X, 4, none⟩ (vsl V L 4)).setCell ⟨X, 5, none⟩ (vsl V L 5)).setCell ⟨X, 6, none⟩ (vsl V L 6)).setCell ⟨Y, 0, none⟩ (.int .u32 e.fam)).setCell ⟨Y, 1, none⟩ (.bool e.ma)).setCell ⟨Y, 2, none⟩ (.bool e.dr)).setCell ⟨Y, 3, none⟩ (.string e.name)).setCell ⟨Y, 4, none⟩ (.int .i64 e.how)).setCell ⟨Y, 5, none⟩ (.bool e.hl)).setCell ⟨Y, 6, none⟩ (.bool e.hn)).setCell ⟨Y, 7, none⟩ (.bool e.hs)).setCell ⟨Y, 8, none⟩ (.int .u64 e.log)).setCell ⟨Y, 9, none⟩ (.int .u64 e.next)).setCell ⟨Y, 10, none⟩ (.int .u64 e.seq)).setCell ⟨Y, 11, none⟩ (.slice P.ga e.gone.length P.gc)).setCell ⟨Y, 12, none⟩ (.slice P.aa e.added.length P.ac)) X Y V L P e := by
  have U1 := upd7 W X (vsl V L 0) (vsl V L 1) (vsl V L 2) (vsl V L 3) (vsl V L 4) (vsl V L 5) (vsl V L 6)
  have hne : Y ≠ X := hY.ne hZ (by decide)
  have Y1 := hY.upd U1 hne
  have U2 := upd13 (((((((W.setCell ⟨X, 0, none⟩ (vsl V L 0)).setCell ⟨X, 1, none⟩ (vsl V L 1)).setCell ⟨X, 2, none⟩ (vsl V L 2)).setCell ⟨X, 3, none⟩ (vsl V L 3)).setCell ⟨X, 4, none⟩ (vsl V L 4)).setCell ⟨X, 5, none⟩ (vsl V L 5)).setCell ⟨X, 6, none⟩ (vsl V L 6)) Y (.int .u32 e.fam) (.bool e.ma) (.bool e.dr) (.string e.name) (.int .i64 e.how) (.bool e.hl) (.bool e.hn) (.bool e.hs) (.int .u64 e.log) (.int .u64 e.next) (.int .u64 e.seq) (.slice P.ga e.gone.length P.gc) (.slice P.aa e.added.length P.ac)
  have v1 := hv.box hZ (by decide) U1
  have e1 := he.box hZ (by decide) (by decide) U1
  have b1 := Upd.bel hb U1 (fun j hj => by omega) hb.size
  exact ⟨(set7v hZ).upd U2 (Ne.symm hne), set13e Y1, v1.box Y1 (by decide) U2, e1.box Y1 (by decide) (by decide) U2, Upd.bel b1 U2 (fun j hj => by omega) b1.size⟩
theorem leaf_el {w W : World} {V : Vn} {L : Nat → List Fi} {P : En} {e : Ed} (hv : OwnV W w.heap.size V L) (he : OwnE W w.heap.size P e) (hb : Below w.heap.size w W) {X : Nat} (hZ : Blk W X 41 (cells7 nil7)) (hX : w.heap.size ≤ X) : Cq w ((((((((W.setCell ⟨X, 0, none⟩ (vsl V L 0)).setCell ⟨X, 1, none⟩ (vsl V L 1)).setCell ⟨X, 2, none⟩ (vsl V L 2)).setCell ⟨X, 3, none⟩ (vsl V L 3)).setCell ⟨X, 4, none⟩ (vsl V L 4)).setCell ⟨X, 5, none⟩ (vsl V L 5)).setCell ⟨X, 6, none⟩ (vsl V L 6)).alloc (.cells (edA P e) 27)) X W.heap.size V L P e := by
  have U1 := upd7 W X (vsl V L 0) (vsl V L 1) (vsl V L 2) (vsl V L 3) (vsl V L 4) (vsl V L 5) (vsl V L 6)
  have v1 := hv.box hZ (by decide) U1
  have e1 := he.box hZ (by decide) (by decide) U1
  have b1 := Upd.bel hb U1 (fun j hj => by omega) hb.size
  have hs : (((((((W.setCell ⟨X, 0, none⟩ (vsl V L 0)).setCell ⟨X, 1, none⟩ (vsl V L 1)).setCell ⟨X, 2, none⟩ (vsl V L 2)).setCell ⟨X, 3, none⟩ (vsl V L 3)).setCell ⟨X, 4, none⟩ (vsl V L 4)).setCell ⟨X, 5, none⟩ (vsl V L 5)).setCell ⟨X, 6, none⟩ (vsl V L 6)).heap.size = W.heap.size := by simp
  have y1 := Blk.new (((((((W.setCell ⟨X, 0, none⟩ (vsl V L 0)).setCell ⟨X, 1, none⟩ (vsl V L 1)).setCell ⟨X, 2, none⟩ (vsl V L 2)).setCell ⟨X, 3, none⟩ (vsl V L 3)).setCell ⟨X, 4, none⟩ (vsl V L 4)).setCell ⟨X, 5, none⟩ (vsl V L 5)).setCell ⟨X, 6, none⟩ (vsl V L 6)) 27 (edA P e).toList
  rw [hs] at y1
  exact ⟨(set7v hZ).alloc _, y1, v1.below (al1 _ _), e1.below (al1 _ _), bal b1⟩
theorem leaf_le {w W : World} {V : Vn} {L : Nat → List Fi} {P : En} {e : Ed} (hv : OwnV W w.heap.size V L) (he : OwnE W w.heap.size P e) (hb : Below w.heap.size w W) {Y : Nat} (hY : Blk W Y 27 zEc) (hYl : w.heap.size ≤ Y) : Cq w ((((((((((((((W.setCell ⟨Y, 0, none⟩ (.int .u32 e.fam)).setCell ⟨Y, 1, none⟩ (.bool e.ma)).setCell ⟨Y, 2, none⟩ (.bool e.dr)).setCell ⟨Y, 3, none⟩ (.string e.name)).setCell ⟨Y, 4, none⟩ (.int .i64 e.how)).setCell ⟨Y, 5, none⟩ (.bool e.hl)).setCell ⟨Y, 6, none⟩ (.bool e.hn)).setCell ⟨Y, 7, none⟩ (.bool e.hs)).setCell ⟨Y, 8, none⟩ (.int .u64 e.log)).setCell ⟨Y, 9, none⟩ (.int .u64 e.next)).setCell ⟨Y, 10, none⟩ (.int .u64 e.seq)).setCell ⟨Y, 11, none⟩ (.slice P.ga e.gone.length P.gc)).setCell ⟨Y, 12, none⟩ (.slice P.aa e.added.length P.ac)).alloc (.cells (verA V L) 41)) W.heap.size Y V L P e := by
  have U1 := upd13 W Y (.int .u32 e.fam) (.bool e.ma) (.bool e.dr) (.string e.name) (.int .i64 e.how) (.bool e.hl) (.bool e.hn) (.bool e.hs) (.int .u64 e.log) (.int .u64 e.next) (.int .u64 e.seq) (.slice P.ga e.gone.length P.gc) (.slice P.aa e.added.length P.ac)
  have v1 := hv.box hY (by decide) U1
  have e1 := he.box hY (by decide) (by decide) U1
  have b1 := Upd.bel hb U1 (fun j hj => by omega) hb.size
  have hs : (((((((((((((W.setCell ⟨Y, 0, none⟩ (.int .u32 e.fam)).setCell ⟨Y, 1, none⟩ (.bool e.ma)).setCell ⟨Y, 2, none⟩ (.bool e.dr)).setCell ⟨Y, 3, none⟩ (.string e.name)).setCell ⟨Y, 4, none⟩ (.int .i64 e.how)).setCell ⟨Y, 5, none⟩ (.bool e.hl)).setCell ⟨Y, 6, none⟩ (.bool e.hn)).setCell ⟨Y, 7, none⟩ (.bool e.hs)).setCell ⟨Y, 8, none⟩ (.int .u64 e.log)).setCell ⟨Y, 9, none⟩ (.int .u64 e.next)).setCell ⟨Y, 10, none⟩ (.int .u64 e.seq)).setCell ⟨Y, 11, none⟩ (.slice P.ga e.gone.length P.gc)).setCell ⟨Y, 12, none⟩ (.slice P.aa e.added.length P.ac)).heap.size = W.heap.size := by simp
  have x1 := Blk.new (((((((((((((W.setCell ⟨Y, 0, none⟩ (.int .u32 e.fam)).setCell ⟨Y, 1, none⟩ (.bool e.ma)).setCell ⟨Y, 2, none⟩ (.bool e.dr)).setCell ⟨Y, 3, none⟩ (.string e.name)).setCell ⟨Y, 4, none⟩ (.int .i64 e.how)).setCell ⟨Y, 5, none⟩ (.bool e.hl)).setCell ⟨Y, 6, none⟩ (.bool e.hn)).setCell ⟨Y, 7, none⟩ (.bool e.hs)).setCell ⟨Y, 8, none⟩ (.int .u64 e.log)).setCell ⟨Y, 9, none⟩ (.int .u64 e.next)).setCell ⟨Y, 10, none⟩ (.int .u64 e.seq)).setCell ⟨Y, 11, none⟩ (.slice P.ga e.gone.length P.gc)).setCell ⟨Y, 12, none⟩ (.slice P.aa e.added.length P.ac)) 41 (cells7 (vsl V L))
  rw [hs] at x1
  exact ⟨x1, (set13e hY).alloc _, v1.below (al1 _ _), e1.below (al1 _ _), bal b1⟩
theorem leaf_l1 {w W : World} {V : Vn} {L : Nat → List Fi} {P : En} {e : Ed} (hv : OwnV W w.heap.size V L) (he : OwnE W w.heap.size P e) (hb : Below w.heap.size w W) : Cq w ((W.alloc (.cells (verA V L) 41)).alloc (.cells (edA P e) 27)) W.heap.size (W.heap.size + 1) V L P e :=
  ⟨(Blk.new W 41 (cells7 (vsl V L))).alloc _, blk_new1 W _ 27 (edA P e).toList, (hv.below (al1 _ _)).below (al1 _ _), (he.below (al1 _ _)).below (al1 _ _), bal (bal hb)⟩
theorem leaf_l2 {w W : World} {V : Vn} {L : Nat → List Fi} {P : En} {e : Ed} (hv : OwnV W w.heap.size V L) (he : OwnE W w.heap.size P e) (hb : Below w.heap.size w W) : Cq w ((W.alloc (.cells (edA P e) 27)).alloc (.cells (verA V L) 41)) (W.heap.size + 1) W.heap.size V L P e :=
  ⟨blk_new1 W _ 41 (cells7 (vsl V L)), (Blk.new W 27 (edA P e).toList).alloc _, (hv.below (al1 _ _)).below (al1 _ _), (he.below (al1 _ _)).below (al1 _ _), bal (bal hb)⟩
end Go.Proofs.Ytkmpcheamdadcaa
