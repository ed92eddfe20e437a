import Derived.Test.YtocanjefonlnaaaDoorS
import Derived.Maps.AppendAt
import Derived.Below
import Derived.Lib.SliceRun
namespace Go.Proofs.YtocanjefonlnaaaDoor
open Go.RowKit
set_option linter.unusedVariables false
set_option linter.unusedSimpArgs false

/-- A block of cells that nothing marks. -/
def Blk (w : World) (b : Nat) (t : TypeId) (cs : List Value) : Prop := w.heap[b]? = some (.cells cs.toArray t (0, 0))
theorem Blk.cell {w : World} {b : Nat} {t : TypeId} {cs : List Value} (h : Blk w b t cs) (i : Nat) : w.cell? ⟨b, i, none⟩ = cs[i]? := by
  unfold Blk at h; simp [World.cell?, h]
theorem Blk.cell1 {w : World} {b : Nat} {t : TypeId} {cs : List Value} (h : Blk w b t cs) (i : Nat) (v : Value) (hv : cs[i]? = some v) : w.cell? ⟨b, i, none⟩ = some v := (h.cell i).trans hv
theorem Blk.frozen {w : World} {b : Nat} {t : TypeId} {cs : List Value} (h : Blk w b t cs) (i : Nat) : w.frozen? ⟨b, i, none⟩ = false := by
  unfold Blk at h; simp [World.frozen?, h]
theorem Blk.lt {w : World} {b : Nat} {t : TypeId} {cs : List Value} (h : Blk w b t cs) : b < w.heap.size := (Array.getElem?_eq_some_iff.1 h).1
theorem Blk.ne {w : World} {b b' : Nat} {t t' : TypeId} {cs cs' : List Value} (h : Blk w b t cs) (h' : Blk w b' t' cs') (ht : t ≠ t') : b ≠ b' := by
  rintro rfl
  unfold Blk at h h'
  rw [h] at h'
  simp at h'
  exact ht h'.2
theorem Blk.inj {w : World} {b : Nat} {t t' : TypeId} {cs cs' : List Value} (h : Blk w b t cs) (h' : Blk w b t' cs') : cs = cs' := by
  unfold Blk at h h'
  rw [h] at h'
  simp at h'
  exact h'.1
theorem Blk.set {w : World} {b : Nat} {t : TypeId} {cs : List Value} (h : Blk w b t cs) (i : Nat) (v : Value) : Blk (w.setCell ⟨b, i, none⟩ v) b t (cs.set i v) := by
  unfold Blk at *
  simp [World.setCell, Array.getElem?_modify, h]
theorem Blk.other {w : World} {b : Nat} {t : TypeId} {cs : List Value} (h : Blk w b t cs) {a : Addr} (ha : b ≠ a.block) (v : Value) : Blk (w.setCell a v) b t cs := by
  unfold Blk at *
  rw [Below.heap_setCell _ _ _ _ ha]; exact h
theorem Blk.drew {w : World} {b : Nat} {t : TypeId} {cs : List Value} (h : Blk w b t cs) : Blk w.drew b t cs := h
theorem Blk.alloc {w : World} {b : Nat} {t : TypeId} {cs : List Value} (h : Blk w b t cs) (o : Obj) : Blk (w.alloc o) b t cs := by
  have := h.lt
  unfold Blk at *
  rw [Below.heap_alloc _ _ _ this]; exact h
theorem Blk.new (w : World) (t : TypeId) (cs : List Value) : Blk (w.alloc (.cells cs.toArray t)) w.heap.size t cs := by
  unfold Blk; exact heap_alloc_new w _

/-- w' is w but for the blocks of S, and new ones. -/
structure Upd (S : Nat → Prop) (w w' : World) : Prop where
  os : w'.os = w.os
  tape : w'.tape = w.tape
  output : w'.output = w.output
  size : w.heap.size ≤ w'.heap.size
  block : ∀ k, k < w.heap.size → ¬ S k → w'.heap[k]? = w.heap[k]?
def Non : Nat → Prop := fun _ => False
theorem Upd.refl (S : Nat → Prop) (w : World) : Upd S w w := ⟨rfl, rfl, rfl, Nat.le_refl _, fun _ _ _ => rfl⟩
theorem Upd.trans {S : Nat → Prop} {a b c : World} (h : Upd S a b) (k : Upd S b c) : Upd S a c :=
  ⟨k.os.trans h.os, k.tape.trans h.tape, k.output.trans h.output, Nat.le_trans h.size k.size, fun i hi hs => (k.block i (Nat.lt_of_lt_of_le hi h.size) hs).trans (h.block i hi hs)⟩
theorem Upd.mono {S S' : Nat → Prop} {a b : World} (h : Upd S a b) (hS : ∀ k, k < a.heap.size → S k → S' k) : Upd S' a b :=
  ⟨h.os, h.tape, h.output, h.size, fun i hi hs => h.block i hi (fun hh => hs (hS i hi hh))⟩
/-- the second step's blocks may be new ones. -/
theorem Upd.then {S S' : Nat → Prop} {a b c : World} (h : Upd S a b) (k : Upd S' b c) (hS : ∀ i, i < a.heap.size → S' i → S i) : Upd S a c :=
  ⟨k.os.trans h.os, k.tape.trans h.tape, k.output.trans h.output, Nat.le_trans h.size k.size, fun i hi hs => (k.block i (Nat.lt_of_lt_of_le hi h.size) (fun hh => hs (hS i hi hh))).trans (h.block i hi hs)⟩
theorem Upd.drew {S : Nat → Prop} {a w : World} (h : Upd S a w) : Upd S a w.drew := ⟨h.os, h.tape, h.output, h.size, h.block⟩
theorem Upd.alloc {S : Nat → Prop} {a w : World} (h : Upd S a w) (o : Obj) : Upd S a (w.alloc o) :=
  ⟨h.os, h.tape, h.output, Nat.le_trans h.size (by simp), fun i hi hs => (Below.heap_alloc _ _ _ (Nat.lt_of_lt_of_le hi h.size)).trans (h.block i hi hs)⟩
theorem Upd.setCell {S : Nat → Prop} {a w : World} (h : Upd S a w) {p : Addr} (hp : p.block < a.heap.size → S p.block) (u : Value) : Upd S a (w.setCell p u) :=
  ⟨h.os, h.tape, h.output, Nat.le_trans h.size (by simp [World.setCell]), fun i hi hs => (Below.heap_setCell _ _ _ _ (fun e => by subst e; exact hs (hp hi))).trans (h.block i hi hs)⟩
theorem Upd.grown {S : Nat → Prop} {a w w' : World} {row : Option Nat} (h : Upd S a w) (hg : w.grownBy w' row) (hr : ∀ k, row = some k → k < a.heap.size → S k) : Upd S a w' :=
  ⟨hg.os.trans h.os, hg.tape.trans h.tape, hg.output.trans h.output, Nat.le_trans h.size hg.size, fun i hi hs => (hg.block i (Nat.lt_of_lt_of_le hi h.size) (fun e => hs (hr i e.symm hi))).trans (h.block i hi hs)⟩
theorem Upd.below {S : Nat → Prop} {a b : World} (h : Upd S a b) {n : Nat} (hn : ∀ k, k < n → k < a.heap.size) (hS : ∀ k, S k → n ≤ k) : Below n a b :=
  ⟨h.os, h.tape, h.output, h.size, fun k hk => h.block k (hn k hk) (fun hs => by have := hS k hs; omega)⟩
theorem Upd.ofBelow {S : Nat → Prop} {a b : World} (h : Below a.heap.size a b) : Upd S a b := ⟨h.os, h.tape, h.output, h.size, fun k hk _ => h.block k hk⟩
theorem Blk.upd {S : Nat → Prop} {w w' : World} {b : Nat} {t : TypeId} {cs : List Value} (h : Blk w b t cs) (u : Upd S w w') (hb : ¬ S b) : Blk w' b t cs := by
  have := h.lt
  unfold Blk at *
  rw [u.block b this hb]; exact h

theorem row_upd {S : Nat → Prop} {w w' : World} {base : Nat} {e : TypeId} {size : Nat} {v : Value} {n : Nat} {xs : List Value} (h : w.ownsRow base e size v n xs) (u : Upd S w w') (hS : ∀ k, v.ownBlock = some k → ¬ S k) : w'.ownsRow base e size v n xs := by
  refine ⟨h.1, ?_⟩
  rcases h.2 with hn | ⟨g, cap, cur, rfl, hb, hgg, rest⟩
  · exact .inl hn
  · refine .inr ⟨g, cap, cur, rfl, hb, ?_, rest⟩
    rw [u.block g (Array.getElem?_eq_some_iff.1 hgg).1 (hS g rfl)]
    exact hgg
/-- A row's block is no block of another type. -/
theorem row_ne {w : World} {base : Nat} {e : TypeId} {size : Nat} {v : Value} {n : Nat} {xs : List Value} (h : w.ownsRow base e size v n xs) {b : Nat} {t : TypeId} {cs : List Value} (hb : Blk w b t cs) (ht : e ≠ t) : ∀ k, v.ownBlock = some k → k ≠ b := by
  rintro k hk rfl
  rcases h.2 with ⟨rfl, _⟩ | ⟨g, cap, cur, rfl, _, hgg, _⟩
  · simp [Value.ownBlock] at hk
  · simp [Value.ownBlock] at hk
    subst hk
    unfold Blk at hb
    rw [hgg] at hb
    simp at hb
    exact ht hb.2
/-- Rows of two types lie in two blocks. -/
theorem row_row_ne {w : World} {b b' : Nat} {e e' : TypeId} {z z' : Nat} {v v' : Value} {n n' : Nat} {xs xs' : List Value} (h : w.ownsRow b e z v n xs) (h' : w.ownsRow b' e' z' v' n' xs') (he : e ≠ e') : ∀ k, v.ownBlock = some k → v'.ownBlock ≠ some k := by
  intro k hk hk'
  rcases h.2 with ⟨rfl, _⟩ | ⟨g, cap, cur, rfl, _, hg, _⟩
  · cases hk
  · rcases h'.2 with ⟨rfl, _⟩ | ⟨g', cap', cur', rfl, _, hg', _⟩
    · cases hk'
    · simp [Value.ownBlock] at hk hk'
      subst hk
      subst hk'
      rw [hg] at hg'
      simp at hg'
      exact he hg'.2


abbrev ptr (b : Nat) : Value := .pointer (some ⟨b, 0, none⟩)
/-- A pointer to a node. -/
def pa : Option Nd → Option Addr
  | none => none
  | some n => some ⟨n.b, 0, none⟩
abbrev pv (o : Option Nd) : Value := .pointer (pa o)
/-- What a table's block holds beside the heads of its list. -/
structure Tc where
  how : Int
  hv : Value
  cnt : Int
  rv : Value
  sz : Int
  fi : Int
  la : Int
def tbC (C : Tc) (f : Nat → Value) : List Value := [.int .i64 C.how, C.hv, f 0, f 1, f 2, f 3, f 4, f 5, f 6, f 7, f 8, f 9, f 10, f 11, f 12, f 13, .int .i64 C.cnt, .int .i64 C.how, C.rv, .int .i64 C.sz, .int .u64 C.fi, .int .u64 C.la]
def ndC (n : Nd) (back : Value) : List Value := [.string n.e.u, .int .u64 n.e.s, .int .i64 n.e.k, .string n.e.v, .int .i64 n.born, back, .slice (some ⟨n.x, 0, none⟩) n.h n.h]
/-- A list in memory: ln: what stands behind a place on a level; pr: what stands ahead of a node. -/
structure Sk (w : World) (T : Nat) (C : Tc) (L : List Nd) (ln : Nat → Nat → Option Nd) (pr : Nat → Option Nd) : Prop where
  tab : Blk w T 72 (tbC C (fun j => pv (ln 0 j)))
  nod : ∀ i n, L[i]? = some n → Blk w n.b 88 (ndC n (pv (pr i)))
  lnk : ∀ i n, L[i]? = some n → Blk w n.x 64 ((List.range n.h).map fun j => pv (ln (i + 1) j))
  hgt : ∀ n ∈ L, 1 ≤ n.h ∧ n.h ≤ 14
  injb : ∀ (i j : Nat) (m n : Nd), L[i]? = some m → L[j]? = some n → m.b = n.b → i = j
  injx : ∀ (i j : Nat) (m n : Nd), L[i]? = some m → L[j]? = some n → m.x = n.x → i = j
  brn : ∀ n ∈ L, n.born < C.cnt
theorem tbC_at (C : Tc) (f : Nat → Value) (j : Nat) (h : j < 14) : (tbC C f)[2 + j]? = some (f j) := by
  have : j = 0 ∨ j = 1 ∨ j = 2 ∨ j = 3 ∨ j = 4 ∨ j = 5 ∨ j = 6 ∨ j = 7 ∨ j = 8 ∨ j = 9 ∨ j = 10 ∨ j = 11 ∨ j = 12 ∨ j = 13 := by omega
  rcases this with h | h | h | h | h | h | h | h | h | h | h | h | h | h <;> subst h <;> rfl
theorem Sk.upd {S : Nat → Prop} {w w' : World} {T : Nat} {C : Tc} {L : List Nd} {ln : Nat → Nat → Option Nd} {pr : Nat → Option Nd} (h : Sk w T C L ln pr) (u : Upd S w w') (hT : ¬ S T) (hb : ∀ n ∈ L, ¬ S n.b ∧ ¬ S n.x) : Sk w' T C L ln pr :=
  ⟨h.tab.upd u hT, fun i n hn => (h.nod i n hn).upd u (hb n (List.mem_of_getElem? hn)).1, fun i n hn => (h.lnk i n hn).upd u (hb n (List.mem_of_getElem? hn)).2, h.hgt, h.injb, h.injx, h.brn⟩
theorem Sk.below {w w' : World} {T : Nat} {C : Tc} {L : List Nd} {ln : Nat → Nat → Option Nd} {pr : Nat → Option Nd} (h : Sk w T C L ln pr) (u : Below w.heap.size w w') : Sk w' T C L ln pr :=
  h.upd (S := Non) (Upd.ofBelow u) (fun x => x) (fun _ _ => ⟨fun x => x, fun x => x⟩)
/-- Where the links of a place lie. -/
def lb (T : Nat) (L : List Nd) (q : Nat) : Nat := match atq L q with | none => T | some n => n.x
def lo (L : List Nd) (q : Nat) : Nat := match atq L q with | none => 2 | some _ => 0
def lh (L : List Nd) (q : Nat) : Nat := match atq L q with | none => 14 | some n => n.h
def lv (T : Nat) (L : List Nd) (q : Nat) : Value := .slice (some ⟨lb T L q, lo L q, none⟩) (lh L q) (lh L q)
theorem Sk.cell {w : World} {T : Nat} {C : Tc} {L : List Nd} {ln : Nat → Nat → Option Nd} {pr : Nat → Option Nd} (h : Sk w T C L ln pr) (q : Nat) (hq : q ≤ L.length) (j : Nat) (hj : j < lh L q) : w.cell? ⟨lb T L q, lo L q + j, none⟩ = some (pv (ln q j)) := by
  unfold lb lo
  unfold lh at hj
  cases e : atq L q with
  | none =>
    rw [e] at hj
    cases q with
    | zero => exact h.tab.cell1 _ _ (tbC_at C _ j hj)
    | succ q =>
      have : L.length ≤ q := List.getElem?_eq_none_iff.1 e
      omega
  | some n =>
    rw [e] at hj
    cases q with
    | zero => cases e
    | succ q =>
      refine (h.lnk q n e).cell1 _ _ ?_
      simp [List.getElem?_map, List.getElem?_range hj]
theorem Sk.froz {w : World} {T : Nat} {C : Tc} {L : List Nd} {ln : Nat → Nat → Option Nd} {pr : Nat → Option Nd} (h : Sk w T C L ln pr) (q : Nat) (hq : q ≤ L.length) (j : Nat) : w.frozen? ⟨lb T L q, j, none⟩ = false := by
  unfold lb
  cases e : atq L q with
  | none => exact h.tab.frozen _
  | some n =>
    cases q with
    | zero => cases e
    | succ q => exact (h.lnk q n e).frozen _
theorem rch_lh {L : List Nd} {q j : Nat} (h : Rch L q j) (hj : j < 14) : j < lh L q := by
  rcases h with rfl | ⟨n, h1, h2, h3⟩
  · exact hj
  · obtain ⟨q, rfl⟩ : ∃ q', q = q' + 1 := ⟨q - 1, by omega⟩
    have : atq L (q + 1) = some n := h2
    unfold lh; rw [this]; exact h3
set_option maxRecDepth 100000 in
set_option maxHeartbeats 400000 in
theorem links0 (T : Nat) (w : World) (hT : T < w.heap.size) : Calls Tryd.prog 49 #[ptr T, .pointer none] w fun e w' => e = .returned (.slice (some ⟨T, 2, none⟩) 14 14) ∧ w' = w := by
  go_enter Tryd.func49, Tryd.ntmps49
  go_wp2
  go_ret
  exact ⟨rfl, rfl⟩
set_option maxRecDepth 100000 in
set_option maxHeartbeats 400000 in
theorem links1 (T : Nat) (w : World) (b : Nat) (v : Value) (h : w.cell? ⟨b, 6, none⟩ = some v) : Calls Tryd.prog 49 #[ptr T, ptr b] w fun e w' => e = .returned v ∧ w' = w := by
  go_enter Tryd.func49, Tryd.ntmps49
  go_wp2
  go_ret
  exact ⟨rfl, rfl⟩
theorem Sk.links {w : World} {T : Nat} {C : Tc} {L : List Nd} {ln : Nat → Nat → Option Nd} {pr : Nat → Option Nd} (h : Sk w T C L ln pr) (q : Nat) (hq : q ≤ L.length) :
    Calls Tryd.prog 49 #[ptr T, pv (atq L q)] w fun e w' => e = .returned (lv T L q) ∧ w' = w := by
  unfold lv lb lo lh
  cases e : atq L q with
  | none => exact links0 T w h.tab.lt
  | some n =>
    cases q with
    | zero => cases e
    | succ q => exact links1 T w n.b _ ((h.nod q n e).cell1 6 _ rfl)
end Go.Proofs.YtocanjefonlnaaaDoor
