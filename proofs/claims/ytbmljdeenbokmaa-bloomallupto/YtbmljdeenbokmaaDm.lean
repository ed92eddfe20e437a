/-
  Build: what stands while the keys' bits are set; how marks are left behind.
-/
import Derived.Test.YtbmljdeenbokmaaC
import Derived.Test.YtbmljdeenbokmaaOb
import Derived.Deep.OwnRows
namespace Go.Proofs.Ytbmljdeenbokmaa
open Go.RowKit Go.Shelf
set_option linter.unusedVariables false
set_option linter.unusedSimpArgs false
/-- A row of bytes, whole. -/
def Row (w : World) (b : Nat) (l : List Int) : Prop := w.heap[b]? = some (.cells (bc l).toArray 5 (0, 0))
theorem Row.cell {w : World} {b : Nat} {l : List Int} (h : Row w b l) (j : Nat) (hj : j < l.length) : w.cell? ⟨b, j, none⟩ = some (.int .u8 (l.getD j 0)) := by
  unfold Row at h; simp [World.cell?, h, bc, hj]
theorem Row.frozen {w : World} {b : Nat} {l : List Int} (h : Row w b l) (j : Nat) : w.frozen? ⟨b, j, none⟩ = false := by
  unfold Row at h; simp [World.frozen?, h]
theorem Row.lt {w : World} {b : Nat} {l : List Int} (h : Row w b l) : b < w.heap.size := (Array.getElem?_eq_some_iff.1 h).1
theorem Row.set {w : World} {b : Nat} {l : List Int} (h : Row w b l) (i : Nat) (x : Int) : Row (w.setCell ⟨b, i, none⟩ (.int .u8 x)) b (l.set i x) := by
  unfold Row at *
  simp [World.setCell, Array.getElem?_modify, h, bc, List.map_set]
theorem Row.below {w w' : World} {b : Nat} {l : List Int} (h : Row w b l) (hb : Below w.heap.size w w') : Row w' b l := by
  have := h.lt
  unfold Row at *
  rw [hb.block b this]; exact h
def zer (n : Nat) : Array Value := (bc (List.replicate n 0)).toArray
theorem zer_get (n i : Nat) (h : i < n) : (zer n)[i]? = some (.int .u8 0) := by simp [zer, bc, h]
theorem zer_size (n : Nat) : (zer n).size = n := by simp [zer, bc]
theorem info5 : (Try.prog.info? 5).map (fun i => (i.zero, i.size, i.bytes)) = some (some (.int .u8 0), 1, 1) := by kernel_rfl
theorem made_zer (n : Nat) : madeCells #[Value.int .u8 0] n = zer n := by
  refine Array.ext_getElem? fun i => ?_
  by_cases hi : i < n
  · rw [zer_get n i hi]; simp [madeCells, hi, Nat.mod_one]
  · rw [Array.getElem?_eq_none (by rw [size_madeCells]; omega), Array.getElem?_eq_none (by rw [zer_size]; omega)]
theorem run_mkB (n : Nat) (hn : n ≤ 20000000) (w : World) : (Instr.makeSlice 23 (.int .i64 ((n : Int) + 1)) (.int .i64 ((n : Int) + 1))).run Try.prog w = .ok (.slice (some ⟨w.heap.size, 0, none⟩) (n + 1) (n + 1)) (w.alloc (.cells (zer (n + 1)) 5)) := by
  have h := run_make_row' (P := Try.prog) 23 5 (.int .u8 0) 1 Try.underlying23 info5 rfl .i64 .i64 (n + 1) (by omega) (by omega) w
  rw [made_zer, show (((n + 1 : Nat) : Int)) = (n : Int) + 1 by omega] at h
  exact h

/-- A slice of strings that reads as ks. -/
def Strs (w : World) (a : Option Addr) (ks : List ByteArray) : Prop :=
  (∀ k ∈ ks, k.size ≤ maxLen) ∧ (ks = [] ∨ ∃ b off, a = some ⟨b, off, none⟩ ∧ b < w.heap.size ∧ ∀ j, (h : j < ks.length) → w.cell? ⟨b, off + j, none⟩ = some (.string ks[j]))
theorem fsz_bd (n : Nat) (h : n ≤ 64 * 1048576) : 8 ≤ fsz n ∧ fsz n ≤ 8388608 := by unfold fsz; split <;> omega


/-- The bits of keys are set. -/
def bldF (f : List Int) (N n : Nat) (ks : List ByteArray) : List Int := ks.foldl (fun f k => sets f (prbs (hsh k) ((N : Int) * 8) n)) f
theorem bldF_snoc (f : List Int) (N n : Nat) (ks : List ByteArray) (k : ByteArray) : bldF f N n (ks ++ [k]) = sets (bldF f N n ks) (prbs (hsh k) ((N : Int) * 8) n) := by simp [bldF]
theorem bldF_length (f : List Int) (N n : Nat) (ks : List ByteArray) : (bldF f N n ks).length = f.length := by
  induction ks generalizing f with
  | nil => rfl
  | cons k ks ih => exact (ih _).trans (sets_length _ _)
theorem bldF_byt {f : List Int} (h : Byt f) (N n : Nat) (ks : List ByteArray) : Byt (bldF f N n ks) := by
  induction ks generalizing f with
  | nil => exact h
  | cons k ks ih => exact ih (sets_byt h _)
/-- A filter in which nothing is set. -/
def ini (N : Nat) (x : Int) : List Int := List.replicate N 0 ++ [x]
theorem ini_length (N : Nat) (x : Int) : (ini N x).length = N + 1 := by simp [ini]
theorem ini_byt (N : Nat) {x : Int} (h0 : 0 ≤ x) (h1 : x < 256) : Byt (ini N x) := by
  intro y hy
  simp [ini] at hy
  rcases hy with ⟨_, rfl⟩ | rfl <;> omega
theorem zer_ini (N : Nat) (x : Int) : (zer (N + 1)).setIfInBounds N (.int .u8 x) = (bc (ini N x)).toArray := by
  unfold zer ini bc
  simp [List.replicate_succ']

theorem sets_last (N : Nat) (f : List Int) (hf : f.length = N + 1) (ps : List Int) (hp : ∀ p ∈ ps, (p / 8).toNat < N) : (sets f ps).getD N 0 = f.getD N 0 := by
  induction ps generalizing f with
  | nil => rfl
  | cons p ps ih =>
    show (sets (setb f p) ps).getD N 0 = _
    rw [ih (setb f p) (by rw [setb_length]; exact hf) (fun q hq => hp q (by simp [hq])), setb_get f p N (by omega), if_neg]
    have := hp p (by simp)
    omega
theorem prbs_lt (h : Int) (N : Nat) (hN : 0 < N) (n : Nat) : ∀ p ∈ prbs h ((N : Int) * 8) n, 0 ≤ p ∧ (p / 8).toNat < N := by
  intro p hp
  simp only [prbs, List.mem_map, List.mem_range] at hp
  obtain ⟨k, _, rfl⟩ := hp
  have := prb_bd h (m := (N : Int) * 8) (by omega) k
  omega
theorem bldF_lastF (N n : Nat) (hN : 0 < N) (ks : List ByteArray) (f : List Int) (hf : f.length = N + 1) : (bldF f N n ks).getD N 0 = f.getD N 0 := by
  induction ks generalizing f with
  | nil => rfl
  | cons k ks ih =>
    show (bldF (sets f _) N n ks).getD N 0 = _
    rw [ih _ (by rw [sets_length]; exact hf), sets_last N f hf _ (fun p hp => (prbs_lt _ N hN n p hp).2)]
theorem bldF_last (N : Nat) (x : Int) (n : Nat) (ks : List ByteArray) (hN : 0 < N) : (bldF (ini N x) N n ks).getD N 0 = x := by
  rw [bldF_lastF N n hN ks _ (ini_length N x)]; simp [ini]

/-- What stands: the row, its box, all that is old, the marks. -/
structure St (w : World) (N : Nat) (f : List Int) (Ds : List Nat) (W : World) : Prop where
  row : Row W w.heap.size f
  box : W.heap[w.heap.size + 1]? = some (.cells #[.slice (some ⟨w.heap.size, 0, none⟩) (N + 1) (N + 1)] 23 (0, 0))
  below : Below w.heap.size w W
  marks : ∀ D ∈ Ds, W.heap[D]? = some (.deferred (some []))
  old : ∀ D ∈ Ds, w.heap.size ≤ D
theorem St.grown {w W W' : World} {N : Nat} {f : List Int} {Ds : List Nat} (h : St w N f Ds W) {row : Option Nat} (hg : W.grownBy W' row) (hr : ∀ r, row = some r → w.heap.size ≤ r ∧ r ≠ w.heap.size ∧ r ≠ w.heap.size + 1 ∧ r ∉ Ds) : St w N f Ds W' := by
  have keep : ∀ (k : Nat) (o : Obj), W.heap[k]? = some o → row ≠ some k → W'.heap[k]? = some o := fun k o hk hne => (hg.block k (Array.getElem?_eq_some_iff.1 hk).1 (fun e => hne e.symm)).trans hk
  refine ⟨keep _ _ h.row (fun e => (hr _ e).2.1 rfl), keep _ _ h.box (fun e => (hr _ e).2.2.1 rfl), ?_, fun D hD => keep _ _ (h.marks D hD) (fun e => (hr _ e).2.2.2 hD), h.old⟩
  exact h.below.grown hg h.below.size (by intro k hk; exact (hr k hk).1)
theorem St.heap {w W W' : World} {N : Nat} {f : List Int} {Ds : List Nat} (h : St w N f Ds W) (he : W'.heap = W.heap) (h1 : W'.os = W.os) (h2 : W'.tape = W.tape) (h3 : W'.output = W.output) : St w N f Ds W' :=
  ⟨by have := h.row; unfold Row at *; rw [he]; exact this, by rw [he]; exact h.box, h.below.trans ⟨h1, h2, h3, by rw [he]; exact Nat.le_refl _, fun k _ => by rw [he]⟩, fun D hD => by rw [he]; exact h.marks D hD, h.old⟩
theorem St.alloc {w W : World} {N : Nat} {f : List Int} {Ds : List Nat} (h : St w N f Ds W) (o : Obj) : St w N f Ds (W.alloc o) := by
  have keep : ∀ k o', W.heap[k]? = some o' → (W.alloc o).heap[k]? = some o' := fun k o' hk => (Below.heap_alloc _ _ _ (Array.getElem?_eq_some_iff.1 hk).1).trans hk
  exact ⟨keep _ _ h.row, keep _ _ h.box, h.below.alloc h.below.size _, fun D hD => keep _ _ (h.marks D hD), h.old⟩
theorem St.set {w W : World} {N : Nat} {f : List Int} {Ds : List Nat} (h : St w N f Ds W) (i : Nat) (x : Int) : St w N (f.set i x) Ds (W.setCell ⟨w.heap.size, i, none⟩ (.int .u8 x)) := by
  have ne : ∀ (k : Nat) (o : Obj), W.heap[k]? = some o → (∀ cs, o ≠ Obj.cells cs 5 (0, 0)) → k ≠ w.heap.size := fun k (o : Obj) hk ho e => by
    subst e; have := h.row; unfold Row at this; rw [hk] at this; cases this; exact ho _ rfl
  have keep : ∀ (k : Nat) (o : Obj), W.heap[k]? = some o → (∀ cs, o ≠ Obj.cells cs 5 (0, 0)) → (W.setCell ⟨w.heap.size, i, none⟩ (.int .u8 x)).heap[k]? = some o := fun k o hk ho => (Below.heap_setCell _ _ _ _ (ne k o hk ho)).trans hk
  exact ⟨h.row.set i x, keep _ _ h.box (fun cs e => by cases e), h.below.setCell (p := ⟨w.heap.size, i, none⟩) (Nat.le_refl _) _, fun D hD => keep _ _ (h.marks D hD) (fun cs e => by cases e), h.old⟩
theorem St.boxCell {w W : World} {N : Nat} {f : List Int} {Ds : List Nat} (h : St w N f Ds W) : W.cell? ⟨w.heap.size + 1, 0, none⟩ = some (.slice (some ⟨w.heap.size, 0, none⟩) (N + 1) (N + 1)) := by
  have := h.box; simp [World.cell?, this]
theorem St.mark {w W : World} {N : Nat} {f : List Int} {Ds : List Nat} (h : St w N f Ds W) {D : Nat} (hD : W.heap[D]? = some (.deferred (some []))) (hw : w.heap.size ≤ D) : St w N f (D :: Ds) W :=
  ⟨h.row, h.box, h.below, fun E hE => (List.mem_cons.1 hE).elim (fun e => e ▸ hD) (h.marks E), fun E hE => (List.mem_cons.1 hE).elim (fun e => e ▸ hw) (h.old E)⟩
theorem St.left {w W W' : World} {N : Nat} {f : List Int} {Ds : List Nat} (h : St w N f Ds W) (h1 : W'.os = W.os) (h2 : W'.tape = W.tape) (h3 : W'.output = W.output) (h4 : W'.heap.size = W.heap.size) (h5 : ∀ k, k ∉ Ds → W'.heap[k]? = W.heap[k]?) : St w N f [] W' := by
  have n1 : w.heap.size ∉ Ds := fun hD => by have a := h.marks _ hD; have b := h.row; unfold Row at b; rw [a] at b; cases b
  have n2 : w.heap.size + 1 ∉ Ds := fun hD => by have a := h.marks _ hD; have b := h.box; rw [a] at b; cases b
  refine ⟨(h5 _ n1).trans h.row, (h5 _ n2).trans h.box, ⟨h1.trans h.below.os, h2.trans h.below.tape, h3.trans h.below.output, by rw [h4]; exact h.below.size, fun k hk => ?_⟩, by simp, by simp⟩
  exact (h5 k (fun hD => by have := h.old k hD; omega)).trans (h.below.block k hk)
def mrk (D : Nat) : Deferred := { target := .collected D, args := #[] }
/-- Marks are left behind, one by one. -/
theorem leaves_marks {F : Fence} {n : Nat} {P : Program} {fn : Func} {tmps : Array Value} {R : Ending → World → Prop} : ∀ (Ds : List Nat) (W : World), Ds.Nodup → (∀ D ∈ Ds, W.heap[D]? = some (.deferred (some []))) →
    (∀ W', W'.os = W.os → W'.tape = W.tape → W'.output = W.output → W'.heap.size = W.heap.size → (∀ k, k ∉ Ds → W'.heap[k]? = W.heap[k]?) → LeavesIn F n P fn tmps R [] .returning W') → LeavesInM F n P fn tmps R (Ds.map mrk) .returning W
  | [], W, _, _, h => h W rfl rfl rfl rfl (fun _ _ => rfl)
  | D :: Ds, W, hnd, hm, h => by
    refine ⟨by simp, .inl ⟨D, _, rfl, run_takeDeferred (hm D (by simp)), ?_⟩⟩
    have hlt : D < W.heap.size := (Array.getElem?_eq_some_iff.1 (hm D (by simp))).1
    obtain ⟨hn1, hn2⟩ := List.nodup_cons.1 hnd
    refine leaves_marks Ds _ hn2 (fun E hE => ?_) (fun W' h1 h2 h3 h4 h5 => h W' h1 h2 h3 (by rw [h4]; simp [World.putObj]) (fun k hk => ?_))
    · rw [World.putObj_heap_other (by rintro rfl; exact hn1 hE)]; exact hm E (by simp [hE])
    · rw [h5 k (fun h => hk (by simp [h])), World.putObj_heap_other (by rintro rfl; exact hk (by simp))]
end Go.Proofs.Ytbmljdeenbokmaa
