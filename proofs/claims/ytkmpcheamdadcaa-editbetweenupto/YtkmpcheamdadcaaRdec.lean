/-
  Rows whose elements have k cells each, whatever they are.
-/
import Derived.Test.YtkmpcheamdadcaaRv
import Derived.Test.YtkmpcheamdadcaaCmp
import Derived.Maps.AppendAt
import Derived.Below
import Derived.Lib.SliceRun
import Derived.OwnWalk
import Derived.WalkKit
import Derived.WalkSpells
import Derived.WalkLawsBesides
import Derived.Deep.QuietTactic
import Derived.BigQuiet
namespace Go.Proofs.Ytkmpcheamdadcaa
open Go.RowKit
set_option linter.unusedVariables false
set_option linter.unusedSimpArgs false
/-- A block of cells that nothing marks. -/
def Blk (w : World) (b : Nat) (t : TypeId) (cs : List Value) : Prop := w.heap[b]? = some (.cells cs.toArray t (0, 0))
theorem Blk.cell {w : World} {b : Nat} {t : TypeId} {cs : List Value} (h : Blk w b t cs) (i : Nat) : w.cell? ⟨b, i, none⟩ = cs[i]? := by
  unfold Blk at h; simp [World.cell?, h]
theorem Blk.cell1 {w : World} {b : Nat} {t : TypeId} {cs : List Value} (h : Blk w b t cs) (i : Nat) (v : Value) (hv : cs[i]? = some v) : w.cell? ⟨b, i, none⟩ = some v := (h.cell i).trans hv
theorem Blk.frozen {w : World} {b : Nat} {t : TypeId} {cs : List Value} (h : Blk w b t cs) (i : Nat) : w.frozen? ⟨b, i, none⟩ = false := by
  unfold Blk at h; simp [World.frozen?, h]
theorem Blk.lt {w : World} {b : Nat} {t : TypeId} {cs : List Value} (h : Blk w b t cs) : b < w.heap.size := (Array.getElem?_eq_some_iff.1 h).1
theorem Blk.ne {w : World} {b b' : Nat} {t t' : TypeId} {cs cs' : List Value} (h : Blk w b t cs) (h' : Blk w b' t' cs') (ht : t ≠ t') : b ≠ b' := by
  rintro rfl
  unfold Blk at h h'
  rw [h] at h'
  simp at h'
  exact ht h'.2
theorem Blk.inj {w : World} {b : Nat} {t t' : TypeId} {cs cs' : List Value} (h : Blk w b t cs) (h' : Blk w b t' cs') : cs = cs' := by
  unfold Blk at h h'
  rw [h] at h'
  simp at h'
  exact h'.1
theorem Blk.set {w : World} {b : Nat} {t : TypeId} {cs : List Value} (h : Blk w b t cs) (i : Nat) (v : Value) : Blk (w.setCell ⟨b, i, none⟩ v) b t (cs.set i v) := by
  unfold Blk at *
  simp [World.setCell, Array.getElem?_modify, h]
theorem Blk.other {w : World} {b : Nat} {t : TypeId} {cs : List Value} (h : Blk w b t cs) {a : Addr} (ha : b ≠ a.block) (v : Value) : Blk (w.setCell a v) b t cs := by
  unfold Blk at *
  rw [Below.heap_setCell _ _ _ _ ha]; exact h
theorem Blk.drew {w : World} {b : Nat} {t : TypeId} {cs : List Value} (h : Blk w b t cs) : Blk w.drew b t cs := h
theorem Blk.alloc {w : World} {b : Nat} {t : TypeId} {cs : List Value} (h : Blk w b t cs) (o : Obj) : Blk (w.alloc o) b t cs := by
  have := h.lt
  unfold Blk at *
  rw [Below.heap_alloc _ _ _ this]; exact h
theorem Blk.new (w : World) (t : TypeId) (cs : List Value) : Blk (w.alloc (.cells cs.toArray t)) w.heap.size t cs := by
  unfold Blk; exact heap_alloc_new w _

/-- w' is w but for the blocks of S, and new ones. -/
structure Upd (S : Nat → Prop) (w w' : World) : Prop where
  os : w'.os = w.os
  tape : w'.tape = w.tape
  output : w'.output = w.output
  size : w.heap.size ≤ w'.heap.size
  block : ∀ k, k < w.heap.size → ¬ S k → w'.heap[k]? = w.heap[k]?
def Non : Nat → Prop := fun _ => False
theorem Upd.refl (S : Nat → Prop) (w : World) : Upd S w w := ⟨rfl, rfl, rfl, Nat.le_refl _, fun _ _ _ => rfl⟩
theorem Upd.trans {S : Nat → Prop} {a b c : World} (h : Upd S a b) (k : Upd S b c) : Upd S a c :=
  ⟨k.os.trans h.os, k.tape.trans h.tape, k.output.trans h.output, Nat.le_trans h.size k.size, fun i hi hs => (k.block i (Nat.lt_of_lt_of_le hi h.size) hs).trans (h.block i hi hs)⟩
theorem Upd.mono {S S' : Nat → Prop} {a b : World} (h : Upd S a b) (hS : ∀ k, k < a.heap.size → S k → S' k) : Upd S' a b :=
  ⟨h.os, h.tape, h.output, h.size, fun i hi hs => h.block i hi (fun hh => hs (hS i hi hh))⟩
/-- the second step's blocks may be new ones. -/
theorem Upd.then {S S' : Nat → Prop} {a b c : World} (h : Upd S a b) (k : Upd S' b c) (hS : ∀ i, i < a.heap.size → S' i → S i) : Upd S a c :=
  ⟨k.os.trans h.os, k.tape.trans h.tape, k.output.trans h.output, Nat.le_trans h.size k.size, fun i hi hs => (k.block i (Nat.lt_of_lt_of_le hi h.size) (fun hh => hs (hS i hi hh))).trans (h.block i hi hs)⟩
theorem Upd.drew {S : Nat → Prop} {a w : World} (h : Upd S a w) : Upd S a w.drew := ⟨h.os, h.tape, h.output, h.size, h.block⟩
theorem Upd.alloc {S : Nat → Prop} {a w : World} (h : Upd S a w) (o : Obj) : Upd S a (w.alloc o) :=
  ⟨h.os, h.tape, h.output, Nat.le_trans h.size (by simp), fun i hi hs => (Below.heap_alloc _ _ _ (Nat.lt_of_lt_of_le hi h.size)).trans (h.block i hi hs)⟩
theorem Upd.setCell {S : Nat → Prop} {a w : World} (h : Upd S a w) {p : Addr} (hp : p.block < a.heap.size → S p.block) (u : Value) : Upd S a (w.setCell p u) :=
  ⟨h.os, h.tape, h.output, Nat.le_trans h.size (by simp [World.setCell]), fun i hi hs => (Below.heap_setCell _ _ _ _ (fun e => by subst e; exact hs (hp hi))).trans (h.block i hi hs)⟩
theorem Upd.grown {S : Nat → Prop} {a w w' : World} {row : Option Nat} (h : Upd S a w) (hg : w.grownBy w' row) (hr : ∀ k, row = some k → k < a.heap.size → S k) : Upd S a w' :=
  ⟨hg.os.trans h.os, hg.tape.trans h.tape, hg.output.trans h.output, Nat.le_trans h.size hg.size, fun i hi hs => (hg.block i (Nat.lt_of_lt_of_le hi h.size) (fun e => hs (hr i e.symm hi))).trans (h.block i hi hs)⟩
theorem Upd.below {S : Nat → Prop} {a b : World} (h : Upd S a b) {n : Nat} (hn : ∀ k, k < n → k < a.heap.size) (hS : ∀ k, S k → n ≤ k) : Below n a b :=
  ⟨h.os, h.tape, h.output, h.size, fun k hk => h.block k (hn k hk) (fun hs => by have := hS k hs; omega)⟩
theorem Upd.ofBelow {S : Nat → Prop} {a b : World} (h : Below a.heap.size a b) : Upd S a b := ⟨h.os, h.tape, h.output, h.size, fun k hk _ => h.block k hk⟩
theorem Blk.upd {S : Nat → Prop} {w w' : World} {b : Nat} {t : TypeId} {cs : List Value} (h : Blk w b t cs) (u : Upd S w w') (hb : ¬ S b) : Blk w' b t cs := by
  have := h.lt
  unfold Blk at *
  rw [u.block b this hb]; exact h

theorem row_upd {S : Nat → Prop} {w w' : World} {base : Nat} {e : TypeId} {size : Nat} {v : Value} {n : Nat} {xs : List Value} (h : w.ownsRow base e size v n xs) (u : Upd S w w') (hS : ∀ k, v.ownBlock = some k → ¬ S k) : w'.ownsRow base e size v n xs := by
  refine ⟨h.1, ?_⟩
  rcases h.2 with hn | ⟨g, cap, cur, rfl, hb, hgg, rest⟩
  · exact .inl hn
  · refine .inr ⟨g, cap, cur, rfl, hb, ?_, rest⟩
    rw [u.block g (Array.getElem?_eq_some_iff.1 hgg).1 (hS g rfl)]
    exact hgg
theorem upd_cell {S : Nat → Prop} {w w' : World} (u : Upd S w w') {p : Addr} (hl : p.block < w.heap.size) (hs : ¬ S p.block) : w'.cell? p = w.cell? p := by
  unfold World.cell?; rw [u.block _ hl hs]
theorem OwnB.upd {S : Nat → Prop} {w w' : World} {base : Nat} {v : Value} {l : List Int} (h : OwnB w base v l) (u : Upd S w w') (hS : ∀ k, v.ownBlock = some k → ¬ S k) : OwnB w' base v l :=
  h.same u.size fun k hk => u.block k (h.lt k hk).2 (hS k hk)
theorem Arg.upd {S : Nat → Prop} {w w' : World} {a : Option Addr} {len cap : Nat} {l : List Int} (h : Arg w a len cap l) (u : Upd S w w') (hS : ∀ b off, a = some ⟨b, off, none⟩ → ¬ S b) : Arg w' a len cap l := by
  obtain ⟨h1, h2, h3, h4⟩ := h
  refine ⟨h1, h2, h3, ?_⟩
  rcases h4 with h4 | ⟨b, off, ha, hlt, hc⟩
  · exact .inl h4
  · refine .inr ⟨b, off, ha, Nat.lt_of_lt_of_le hlt u.size, fun j hj => ?_⟩
    rw [upd_cell u (p := ⟨b, off + j, none⟩) hlt (hS b off ha)]; exact hc j hj
end Go.Proofs.Ytkmpcheamdadcaa
namespace Go.Proofs.Ytkmpcheamdadcaa
open Go.RowKit
set_option linter.unusedVariables false
set_option linter.unusedSimpArgs false
/-- A row's block is no block of another type. -/
theorem row_ne {w : World} {base : Nat} {e : TypeId} {size : Nat} {v : Value} {n : Nat} {xs : List Value} (h : w.ownsRow base e size v n xs) {b : Nat} {t : TypeId} {cs : List Value} (hb : Blk w b t cs) (ht : e ≠ t) : ∀ k, v.ownBlock = some k → k ≠ b := by
  rintro k hk rfl
  rcases h.2 with ⟨rfl, _⟩ | ⟨g, cap, cur, rfl, _, hgg, _⟩
  · simp [Value.ownBlock] at hk
  · simp [Value.ownBlock] at hk
    subst hk
    unfold Blk at hb
    rw [hgg] at hb
    simp at hb
    exact ht hb.2
/-- Rows of two types lie in two blocks. -/
theorem row_row_ne {w : World} {b b' : Nat} {e e' : TypeId} {z z' : Nat} {v v' : Value} {n n' : Nat} {xs xs' : List Value} (h : w.ownsRow b e z v n xs) (h' : w.ownsRow b' e' z' v' n' xs') (he : e ≠ e') : ∀ k, v.ownBlock = some k → v'.ownBlock ≠ some k := by
  intro k hk hk'
  rcases h.2 with ⟨rfl, _⟩ | ⟨g, cap, cur, rfl, _, hg, _⟩
  · cases hk
  · rcases h'.2 with ⟨rfl, _⟩ | ⟨g', cap', cur', rfl, _, hg', _⟩
    · cases hk'
    · simp [Value.ownBlock] at hk hk'
      subst hk
      subst hk'
      rw [hg] at hg'
      simp at hg'
      exact he hg'.2


abbrev ptr (b : Nat) : Value := .pointer (some ⟨b, 0, none⟩)
theorem add_at (b off j : Nat) : (⟨b, off, none⟩ : Addr).add j = ⟨b, off + j, none⟩ := by unfold Addr.add; split <;> simp_all
section
variable {α : Type} (enc : α → List Value) {k : Nat}
def cls (l : List α) : List Value := (l.map enc).flatten
variable {enc}
theorem cls_nil : cls enc ([] : List α) = [] := rfl
theorem cls_cons (x : α) (l : List α) : cls enc (x :: l) = enc x ++ cls enc l := by simp [cls]
theorem cls_app (l m : List α) : cls enc (l ++ m) = cls enc l ++ cls enc m := by simp [cls]
theorem cls_one (x : α) : cls enc [x] = enc x := by simp [cls]
theorem cls_len (hk : ∀ x, (enc x).length = k) (l : List α) : (cls enc l).length = l.length * k := by
  induction l with
  | nil => simp [cls]
  | cons x l ih => rw [cls_cons, List.length_append, ih, hk, List.length_cons, Nat.add_mul]; omega
theorem cls_oc (h1 : ∀ x, ∀ u ∈ enc x, u.oneCell' = true) (l : List α) : ∀ u ∈ cls enc l, u.oneCell' = true := by
  intro u hu
  simp only [cls, List.mem_flatten, List.mem_map] at hu
  obtain ⟨_, ⟨x, _, rfl⟩, hx⟩ := hu
  exact h1 x u hx
theorem cls_get (hk : ∀ x, (enc x).length = k) : ∀ (l : List α) (j : Nat) (x : α), l[j]? = some x → ∀ i, i < k → (cls enc l)[j * k + i]? = (enc x)[i]? := by
  intro l
  induction l with
  | nil => intro j x h; simp at h
  | cons y l ih =>
    intro j x h i hi
    rw [cls_cons]
    cases j with
    | zero =>
      simp at h; subst h
      rw [Nat.zero_mul, Nat.zero_add, List.getElem?_append_left (by rw [hk]; omega)]
    | succ j =>
      rw [List.getElem?_append_right (by rw [hk, Nat.add_mul]; omega), hk]
      rw [← ih j x (by simpa using h) i hi]
      congr 1
      rw [Nat.add_mul]; omega
theorem cls_take (hk : ∀ x, (enc x).length = k) : ∀ (l : List α) (i : Nat), cls enc (l.take i) = (cls enc l).take (i * k) := by
  intro l
  induction l with
  | nil => intro i; simp [cls]
  | cons x l ih =>
    intro i
    cases i with
    | zero => simp [cls]
    | succ i =>
      rw [List.take_succ_cons, cls_cons, cls_cons, ih, show (i + 1) * k = (enc x).length + i * k by rw [hk, Nat.add_mul]; omega, List.take_length_add_append]
theorem cls_drop (hk : ∀ x, (enc x).length = k) : ∀ (l : List α) (i : Nat), cls enc (l.drop i) = (cls enc l).drop (i * k) := by
  intro l
  induction l with
  | nil => intro i; simp [cls]
  | cons x l ih =>
    intro i
    cases i with
    | zero => simp [cls]
    | succ i =>
      rw [List.drop_succ_cons, cls_cons, ih, show (i + 1) * k = (enc x).length + i * k by rw [hk, Nat.add_mul]; omega, List.drop_length_add_append]
/-- An element at a place. -/
def At (enc : α → List Value) (w : World) (g o : Nat) (x : α) : Prop := ∀ i v, (enc x)[i]? = some v → w.cell? ⟨g, o + i, none⟩ = some v
/-- A slice that reads as l. -/
def Rd (enc : α → List Value) (k : Nat) (w : World) (a : Option Addr) (l : List α) : Prop := l = [] ∨ ∃ g o, a = some ⟨g, o, none⟩ ∧ ∀ j x, l[j]? = some x → At enc w g (o + j * k) x
theorem row_rd (hk : ∀ x, (enc x).length = k) {w : World} {base : Nat} {e : TypeId} {v : Value} {l : List α} (h : w.ownsRow base e k v l.length (cls enc l)) : ∃ a cap, v = .slice a l.length cap ∧ l.length ≤ cap ∧ Rd enc k w a l ∧ ∀ g o, a = some ⟨g, o, none⟩ → o = 0 ∧ v.ownBlock = some g := by
  have h0 := h
  rcases h.2 with ⟨e, h1⟩ | ⟨g, cap, cur, e, _, hg, hn, _⟩
  · cases l with
    | nil => exact ⟨none, 0, e, Nat.le_refl _, .inl rfl, fun g o h => by cases h⟩
    | cons x l => simp at h1
  · subst e
    refine ⟨some ⟨g, 0, none⟩, cap, rfl, hn, .inr ⟨g, 0, rfl, fun j x hj i v hv => ?_⟩, fun g' o hh => by cases hh; exact ⟨rfl, rfl⟩⟩
    have hc := h0.cells (g := g) rfl
    have hi : i < k := by rw [← hk x]; exact (List.getElem?_eq_some_iff.1 hv).1
    have := hc (j * k + i) v (by rw [cls_get hk l j x hj i hi]; exact hv)
    rw [add_at] at this
    rw [Nat.zero_add]; rw [Nat.zero_add] at this; exact this
theorem At.keep {w w' : World} {g o : Nat} {x : α} (h : At enc w g o x) (hh : ∀ i v, w.cell? ⟨g, i, none⟩ = some v → w'.cell? ⟨g, i, none⟩ = some v) : At enc w' g o x := fun i v hv => hh _ _ (h i v hv)
theorem cell_lt {w : World} {a : Addr} {v : Value} (h : w.cell? a = some v) : a.block < w.heap.size := by
  unfold World.cell? at h
  cases hb : w.heap[a.block]? with
  | none => rw [hb] at h; simp at h
  | some o => exact (Array.getElem?_eq_some_iff.1 hb).1
theorem cell_upd {S : Nat → Prop} {w w' : World} (u : Upd S w w') {g i : Nat} {v : Value} (hs : ¬ S g) (h : w.cell? ⟨g, i, none⟩ = some v) : w'.cell? ⟨g, i, none⟩ = some v := by
  rw [upd_cell u (cell_lt h) hs]; exact h
theorem cell_below {w w' : World} (hb : Below w.heap.size w w') {g i : Nat} {v : Value} (h : w.cell? ⟨g, i, none⟩ = some v) : w'.cell? ⟨g, i, none⟩ = some v := cell_upd (S := Non) (Upd.ofBelow hb) (fun h => h) h
theorem Rd.below {w w' : World} {a : Option Addr} {l : List α} (h : Rd enc k w a l) (hb : Below w.heap.size w w') : Rd enc k w' a l := by
  rcases h with h | ⟨g, o, rfl, hc⟩
  · exact .inl h
  · exact .inr ⟨g, o, rfl, fun j x hj => (hc j x hj).keep fun i v hv => cell_below hb hv⟩
theorem Rd.upd {S : Nat → Prop} {w w' : World} {a : Option Addr} {l : List α} (h : Rd enc k w a l) (u : Upd S w w') (hS : ∀ g o, a = some ⟨g, o, none⟩ → ¬ S g) : Rd enc k w' a l := by
  rcases h with h | ⟨g, o, rfl, hc⟩
  · exact .inl h
  · exact .inr ⟨g, o, rfl, fun j x hj => (hc j x hj).keep fun i v hv => cell_upd u (hS g o rfl) hv⟩
theorem Rd.at_ {w : World} {a : Option Addr} {l : List α} (h : Rd enc k w a l) {j : Nat} {x : α} (hj : l[j]? = some x) : ∃ g o, a = some ⟨g, o, none⟩ ∧ At enc w g (o + j * k) x := by
  rcases h with rfl | ⟨g, o, rfl, hc⟩
  · simp at hj
  · exact ⟨g, o, rfl, hc j x hj⟩
/-- What is read, as a source of cells. -/
theorem rd_src (hk : ∀ x, (enc x).length = k) (hk0 : 0 < k) {w : World} {g o : Nat} {l : List α} (h : ∀ j x, l[j]? = some x → At enc w g (o + j * k) x) : ∀ j u, (cls enc l)[j]? = some u → w.cell? ((⟨g, o, none⟩ : Addr).add j) = some u := by
  intro j u hu
  have hj : j < l.length * k := by rw [← cls_len hk]; exact (List.getElem?_eq_some_iff.1 hu).1
  have hd : j / k < l.length := Nat.div_lt_of_lt_mul (by rw [Nat.mul_comm]; exact hj)
  have e : j = j / k * k + j % k := by have := Nat.div_add_mod j k; rw [Nat.mul_comm] at this; exact this.symm
  have ht : l[j / k]? = some l[j / k] := List.getElem?_eq_getElem hd
  have hg := cls_get hk l (j / k) l[j / k] ht (j % k) (Nat.mod_lt _ hk0)
  rw [← e, hu] at hg
  rw [add_at]
  have := h (j / k) _ ht (j % k) u hg.symm
  rw [Nat.add_assoc, ← e] at this
  exact this
/-- One more onto a row. -/
theorem push_g {P : Program} (hk : ∀ x, (enc x).length = k) (h1 : ∀ x, ∀ u ∈ enc x, u.oneCell' = true) {t e : TypeId} {z : Value} {by_ : Nat} (ht : P.underlying t = some (.slice e)) (hinf : (P.info? e).map (fun i => (i.zero, i.size, i.bytes)) = some (some z, k, by_)) (hzs : z.cells.size = k) (hk0 : 0 < k)
    {w : World} {base : Nat} {v : Value} {l : List α} (h : w.ownsRow base e k v l.length (cls enc l)) (hb : base ≤ w.heap.size) {vb : Nat} {tb : TypeId} {x : α} (hv : Blk w vb tb (enc x)) (ty : TypeId) (hl : (l.length + 1) * by_ ≤ 140737488355328) (hm : l.length + 1 ≤ maxLen) :
    ∃ v' w', (Builtin.append_ #[t, t] ty #[v, .slice (some ⟨vb, 0, none⟩) 1 1]).run P w = .ok v' w' ∧ w'.ownsRow base e k v' (l ++ [x]).length (cls enc (l ++ [x])) ∧ Upd (fun k => v.ownBlock = some k) w w' ∧ (v'.ownBlock = v.ownBlock ∨ v'.ownBlock = some w.heap.size) ∧ v' ≠ .slice none 0 0 := by
  obtain ⟨i0, hi, hz0, hz1, hz2⟩ := info_parts hinf
  obtain ⟨v', w', hr, h2, h3, h4, h5⟩ := run_append_own_at (P := P) w base t ty e i0 _ k by_ ht hi hz0 hz1 hz2 hzs hk0 v l.length (cls enc l) h ⟨vb, 0, none⟩ 1 1 (enc x) (by rw [hk]; omega) (fun j u hj => by rw [add_at, Nat.zero_add]; exact hv.cell1 j u hj) (h1 x) hm hl hb
  refine ⟨v', w', hr, ?_, (Upd.refl _ _).grown h3 (fun k hk _ => hk), h5, fun e => by have := (h4.1 e).2; omega⟩
  rw [cls_app, cls_one]
  simpa using h2
/-- Many more onto a row, out of what reads. -/
theorem pushes_g {P : Program} (hk : ∀ x, (enc x).length = k) (h1 : ∀ x, ∀ u ∈ enc x, u.oneCell' = true) {t e : TypeId} {z : Value} {by_ : Nat} (ht : P.underlying t = some (.slice e)) (hinf : (P.info? e).map (fun i => (i.zero, i.size, i.bytes)) = some (some z, k, by_)) (hzs : z.cells.size = k) (hk0 : 0 < k)
    {w : World} {base : Nat} {v : Value} {l m : List α} (h : w.ownsRow base e k v l.length (cls enc l)) (hb : base ≤ w.heap.size) {a : Addr} {c : Nat} (hs : ∀ j u, (cls enc m)[j]? = some u → w.cell? (a.add j) = some u) (ty : TypeId) (hl : (l.length + m.length) * by_ ≤ 140737488355328) (hm : l.length + m.length ≤ maxLen) :
    ∃ v' w', (Builtin.append_ #[t, t] ty #[v, .slice (some a) m.length c]).run P w = .ok v' w' ∧ w'.ownsRow base e k v' (l ++ m).length (cls enc (l ++ m)) ∧ Upd (fun k => v.ownBlock = some k) w w' ∧ (v'.ownBlock = v.ownBlock ∨ v'.ownBlock = some w.heap.size) := by
  obtain ⟨i0, hi, hz0, hz1, hz2⟩ := info_parts hinf
  obtain ⟨v', w', hr, h2, h3, h4, h5⟩ := run_append_own_at (P := P) w base t ty e i0 _ k by_ ht hi hz0 hz1 hz2 hzs hk0 v l.length (cls enc l) h a m.length c (cls enc m) (cls_len hk m) hs (cls_oc h1 m) hm hl hb
  refine ⟨v', w', hr, ?_, (Upd.refl _ _).grown h3 (fun k hk _ => hk), h5⟩
  rw [cls_app]
  simpa using h2
end
theorem row_slice {w : World} {base : Nat} {e : TypeId} {k : Nat} {v : Value} {n : Nat} {xs : List Value} (h : w.ownsRow base e k v n xs) : ∃ a cap, v = .slice a n cap := by
  rcases h.2 with ⟨rfl, rfl⟩ | ⟨g, cap, cur, rfl, _⟩
  · exact ⟨none, 0, rfl⟩
  · exact ⟨_, _, rfl⟩
theorem row_blk {w : World} {base : Nat} {e : TypeId} {k : Nat} {v : Value} {n : Nat} {xs : List Value} (h : w.ownsRow base e k v n xs) : ∀ j, v.ownBlock = some j → base ≤ j ∧ j < w.heap.size := fun j hj => by
  rcases h.2 with ⟨rfl, rfl⟩ | ⟨g, cap, cur, rfl, hb, hg, _⟩
  · cases hj
  · cases hj; exact ⟨hb, (Array.getElem?_eq_some_iff.1 hg).1⟩
end Go.Proofs.Ytkmpcheamdadcaa
namespace Go.Proofs.Ytkmpcheamdadcaa
open Go.RowKit
set_option linter.unusedVariables false
set_option linter.unusedSimpArgs false

/-- Decode's answer. -/
def decU (m : Nat) (l : List Int) : ByteArray := bstr (l.take m)
def decN (m : Nat) (l : List Int) : Int := leV (l.drop m)
theorem decN_bd (m : Nat) (l : List Int) (hl : l.length = m + 8) (hbd : ∀ n ∈ l, 0 ≤ n ∧ n < 256) : 0 ≤ decN m l ∧ decN m l < 18446744073709551616 := by
  have := leV_bd (l.drop m) (fun n hn => hbd n (List.mem_of_mem_drop hn))
  have e : (l.drop m).length = 8 := by simp; omega
  rw [e] at this
  exact ⟨this.1, by have h2 := this.2; unfold decN; simpa using h2⟩
/-- readFixed of the last eight bytes. -/
theorem readFixed_tail (b off m cap : Nat) (l : List Int) (w : World) (hl : l.length = m + 8) (hbd : ∀ n ∈ l, 0 ≤ n ∧ n < 256) (hb : b < w.heap.size) (hI : ∀ j, (h : j < l.length) → w.cell? ⟨b, off + j, none⟩ = some (.int .u8 l[j])) :
    Calls Try.prog 137 #[.slice (some ⟨b, off + m, none⟩) 8 cap] w fun e W' => e = .returned (.int .u64 (decN m l)) ∧ Below w.heap.size w W' := by
  have e : (l.drop m).length = 8 := by simp; omega
  have h := readFixed_calls b (off + m) cap (l.drop m) (by omega) w hb (by
    intro j hj
    have hj' : m + j < l.length := by omega
    rw [Nat.add_assoc, hI (m + j) hj', List.getElem?_eq_getElem hj]
    simp)
  rw [rd_le _ (by omega) (fun n hn => hbd n (List.mem_of_mem_drop hn)), e] at h
  exact h

theorem zero_box (w : World) (n : Nat) : w.heap.size < ((w.alloc (.cells #[.string ⟨#[]⟩, .int .u64 0, .int .i64 0] 48)).drewN n).heap.size ∧
    ((w.alloc (.cells #[.string ⟨#[]⟩, .int .u64 0, .int .i64 0] 48)).drewN n).cell? ⟨w.heap.size, 0, none⟩ = some (.string ⟨#[]⟩) ∧ ((w.alloc (.cells #[.string ⟨#[]⟩, .int .u64 0, .int .i64 0] 48)).drewN n).cell? ⟨w.heap.size, 1, none⟩ = some (.int .u64 0) ∧ ((w.alloc (.cells #[.string ⟨#[]⟩, .int .u64 0, .int .i64 0] 48)).drewN n).cell? ⟨w.heap.size, 2, none⟩ = some (.int .i64 0) ∧
    ((w.alloc (.cells #[.string ⟨#[]⟩, .int .u64 0, .int .i64 0] 48)).drewN n).frozen? ⟨w.heap.size, 0, none⟩ = false ∧ ((w.alloc (.cells #[.string ⟨#[]⟩, .int .u64 0, .int .i64 0] 48)).drewN n).frozen? ⟨w.heap.size, 1, none⟩ = false ∧ ((w.alloc (.cells #[.string ⟨#[]⟩, .int .u64 0, .int .i64 0] 48)).drewN n).frozen? ⟨w.heap.size, 2, none⟩ = false := by
  have hD : Below (w.heap.size + 1) (w.alloc (.cells #[.string ⟨#[]⟩, .int .u64 0, .int .i64 0] 48)) ((w.alloc (.cells #[.string ⟨#[]⟩, .int .u64 0, .int .i64 0] 48)).drewN n) := below_drewN (Below.refl _ _) _
  have hs := hD.size
  rw [World.size_alloc] at hs
  refine ⟨by omega, ?_, ?_, ?_, ?_, ?_, ?_⟩
  · rw [hD.cell (p := ⟨w.heap.size, 0, none⟩) (by simp)]; exact World.cell?_alloc_new w _ 48 0
  · rw [hD.cell (p := ⟨w.heap.size, 1, none⟩) (by simp)]; exact World.cell?_alloc_new w _ 48 1
  · rw [hD.cell (p := ⟨w.heap.size, 2, none⟩) (by simp)]; exact World.cell?_alloc_new w _ 48 2
  · rw [hD.frozen (p := ⟨w.heap.size, 0, none⟩) (by simp)]; exact World.frozen?_alloc_new w _ 48 0
  · rw [hD.frozen (p := ⟨w.heap.size, 1, none⟩) (by simp)]; exact World.frozen?_alloc_new w _ 48 1
  · rw [hD.frozen (p := ⟨w.heap.size, 2, none⟩) (by simp)]; exact World.frozen?_alloc_new w _ 48 2

set_option maxRecDepth 100000 in
set_option maxHeartbeats 2000000 in
theorem cdecode_long (b off m cap : Nat) (l : List Int) (w : World) (hl : l.length = m + 8) (hbd : ∀ n ∈ l, 0 ≤ n ∧ n < 256) (hm : m + 8 ≤ 140737488351232) (hcap : m + 8 ≤ cap) (hb : b < w.heap.size) (hI : ∀ j, (h : j < l.length) → w.cell? ⟨b, off + j, none⟩ = some (.int .u8 l[j])) :
    Calls Try.prog 134 #[.slice (some ⟨b, off, none⟩) (m + 8) cap] w fun e w' => e = .returned (if checkV (decU m l) (decN m l / 256) (decN m l % 256) = 0 then .tuple #[.agg #[.string (decU m l), .int .u64 (decN m l / 256), .int .i64 (decN m l % 256)], .int .i64 0] else .tuple #[.agg #[.string ⟨#[]⟩, .int .u64 0, .int .i64 0], .int .i64 3]) ∧ Below w.heap.size w w' := by
  have n4 : ¬ cap = m := by omega
  have hmc : (m : Int) ≤ (cap : Int) := by omega
  have hmc2 : (m : Int) + 8 ≤ (cap : Int) := by omega
  have hm0 : (0 : Int) ≤ (m : Int) := Int.natCast_nonneg _
  obtain ⟨N0, N1⟩ := decN_bd m l hl hbd
  have HT : Hid (∀ w : World, b < w.heap.size → (∀ j, (h : j < l.length) → w.cell? ⟨b, off + j, none⟩ = some (.int .u8 l[j])) → Calls Try.prog 137 #[.slice (some ⟨b, off + m, none⟩) 8 (cap - m)] w fun e W' => e = .returned (.int .u64 (decN m l)) ∧ Below w.heap.size w W') := fun w hb hI => readFixed_tail b off m (cap - m) l w hl hbd hb hI
  have HS : Hid (∀ w : World, (∀ j, (h : j < l.length) → w.cell? ⟨b, off + j, none⟩ = some (.int .u8 l[j])) → (convert 28 9 (.slice (some ⟨b, off, none⟩) m cap)).run Try.prog w = .ok (.string (decU m l)) w) := fun w hI => by
    have e : (l.take m).length = m := by simp; omega
    have := run_string_at (P := Try.prog) w 28 9 Try.underlying28 Try.underlying5 Try.underlying9 b off cap (l.take m) (by
      intro j hj
      rw [hI j (by omega)]; simp)
    rw [e] at this
    exact this
  have HI : Hid (∀ j, (h : j < l.length) → w.cell? ⟨b, off + j, none⟩ = some (.int .u8 l[j])) := hI
  clear hI hl hbd
  generalize decN m l = N at *
  generalize decU m l = U at *
  obtain ⟨RES, hRES⟩ : ∃ RES, (if checkV U (N / 256) (N % 256) = 0 then Value.tuple #[.agg #[.string U, .int .u64 (N / 256), .int .i64 (N % 256)], .int .i64 0] else Value.tuple #[.agg #[.string ⟨#[]⟩, .int .u64 0, .int .i64 0], .int .i64 3]) = RES := ⟨_, rfl⟩
  rw [hRES]
  have HE : Hid ((if checkV U (N / 256) (N % 256) = 0 then Value.tuple #[.agg #[.string U, .int .u64 (N / 256), .int .i64 (N % 256)], .int .i64 0] else Value.tuple #[.agg #[.string ⟨#[]⟩, .int .u64 0, .int .i64 0], .int .i64 3]) = RES) := hRES
  clear hRES
  go_enter Try.func134, Try.ntmps134
  go_wp2
  go_quiet (fail)
  have bel0 : Below w.heap.size w ((w.alloc (.cells #[.string ⟨#[]⟩, .int .u64 0, .int .i64 0] 48)).drewN nq) := below_drewN ((Below.refl _ _).alloc (Nat.le_refl _) _) _
  obtain ⟨hz0, a0, a1, a2, f0, f1, f2⟩ := zero_box w nq
  generalize ((w.alloc (.cells #[.string ⟨#[]⟩, .int .u64 0, .int .i64 0] 48)).drewN nq) = W0 at *
  go_wp2_with fail
  refine (HT.out _ ?_ ?_).mono ?_
  · exact Nat.lt_of_lt_of_le hb bel0.size
  · exact fun j hj => (bel0.cell (p := ⟨b, off + j, none⟩) hb).trans (HI.out j hj)
  rintro e w2 ⟨rfl, hbel⟩
  have bel2 : Below w.heap.size w w2 := bel0.trans (hbel.mono bel0.size)
  have hstr := HS.out w2 (fun j hj => (bel2.cell (p := ⟨b, off + j, none⟩) hb).trans (HI.out j hj))
  have hz2 : w.heap.size < w2.heap.size := Nat.lt_of_lt_of_le hz0 hbel.size
  have c0 := (hbel.cell (p := ⟨w.heap.size, 0, none⟩) hz0).trans a0
  have c1 := (hbel.cell (p := ⟨w.heap.size, 1, none⟩) hz0).trans a1
  have c2 := (hbel.cell (p := ⟨w.heap.size, 2, none⟩) hz0).trans a2
  have g0 := (hbel.frozen (p := ⟨w.heap.size, 0, none⟩) hz0).trans f0
  have g1 := (hbel.frozen (p := ⟨w.heap.size, 1, none⟩) hz0).trans f1
  have g2 := (hbel.frozen (p := ⟨w.heap.size, 2, none⟩) hz0).trans f2
  clear a0 a1 a2 f0 f1 f2 hbel bel0 hz0
  by_cases hck : checkV U (N / 256) (N % 256) = 0
  · have t : (checkV U (N / 256) (N % 256) != 0) = false := by simpa using hck
    have HV := HE.out
    rw [if_pos hck] at HV
    have HV' : Hid (Value.tuple #[.agg #[.string U, .int .u64 (N / 256), .int .i64 (N % 256)], .int .i64 0] = RES) := HV
    clear hck HV HE
    go_wp2_with (go_at_call 89; refine (ccheck_any _ _ _ _).mono ?_; rintro e w' ⟨rfl, rfl⟩)
    refine bodyPost_ret (v := .tuple #[.agg #[.string U, .int .u64 (N / 256), .int .i64 (N % 256)], .int .i64 0]) (by simp [results, Try.results134, go_sem, *]) rfl ⟨by rw [HV'.out], ?_⟩
    repeat' (first | exact bel2 | apply Below.alloc | apply Below.setCell | exact Nat.le_refl _ | (have := bel2.size; simp only [World.size_setCell, World.size_alloc]; omega))
  · have t : (checkV U (N / 256) (N % 256) != 0) = true := by simpa using hck
    have HV := HE.out
    rw [if_neg hck] at HV
    have HV' : Hid (Value.tuple #[.agg #[.string ⟨#[]⟩, .int .u64 0, .int .i64 0], .int .i64 3] = RES) := HV
    clear hck HV HE
    go_wp2_with (go_at_call 89; refine (ccheck_any _ _ _ _).mono ?_; rintro e w' ⟨rfl, rfl⟩)
    refine bodyPost_ret (v := .tuple #[.agg #[.string ⟨#[]⟩, .int .u64 0, .int .i64 0], .int .i64 3]) (by simp [results, Try.results134, go_sem, *]) rfl ⟨by rw [HV'.out], ?_⟩
    repeat' (first | exact bel2 | apply Below.alloc | apply Below.setCell | exact Nat.le_refl _ | (have := bel2.size; simp only [World.size_setCell, World.size_alloc]; omega))

set_option maxHeartbeats 1000000 in
theorem cdecode_short (a : Option Addr) (len cap : Nat) (w : World) (h : len < 8) :
    Calls Try.prog 134 #[.slice a len cap] w fun e w' => e = .returned (.tuple #[.agg #[.string ⟨#[]⟩, .int .u64 0, .int .i64 0], .int .i64 4]) ∧ Below w.heap.size w w' := by
  have h' : (len : Int) < 8 := by omega
  go_enter Try.func134, Try.ntmps134
  go_wp2
  exact bodyPost_ret (v := .tuple #[.agg #[.string ⟨#[]⟩, .int .u64 0, .int .i64 0], .int .i64 4]) (by simp [results, Try.results134, go_sem]) rfl ⟨rfl, (Below.refl _ _).alloc (Nat.le_refl _) _⟩
set_option maxHeartbeats 1000000 in
theorem rdecode_short (a : Option Addr) (len cap : Nat) (w : World) (h : len < 8) :
    Calls Try.prog 107 #[.slice a len cap] w fun e w' => e = .returned (.tuple #[.agg #[.string ⟨#[]⟩, .int .u64 0, .int .i64 0], .int .i64 4]) ∧ Below w.heap.size w w' := by
  have h' : (len : Int) < 8 := by omega
  have h'' : (len : Int) - 8 < 0 := by omega
  go_enter Try.func107, Try.ntmps107
  go_wp2
  exact bodyPost_ret (v := .tuple #[.agg #[.string ⟨#[]⟩, .int .u64 0, .int .i64 0], .int .i64 4]) (by simp [results, Try.results107, go_sem]) rfl ⟨rfl, (Below.refl _ _).alloc (Nat.le_refl _) _⟩

theorem rrf_tail (b off m cap : Nat) (l : List Int) (w : World) (hl : l.length = m + 8) (hbd : ∀ n ∈ l, 0 ≤ n ∧ n < 256) (hb : b < w.heap.size) (hI : ∀ j, (h : j < l.length) → w.cell? ⟨b, off + j, none⟩ = some (.int .u8 l[j])) :
    Calls Try.prog 125 #[.slice (some ⟨b, off + m, none⟩) 8 cap, .int .i64 8] w fun e W' => e = .returned (.tuple #[.int .u64 (decN m l), .int .i64 0]) ∧ W' = w := by
  have e : (l.drop m).length = 8 := by simp; omega
  have hA : Arg w (some ⟨b, off + m, none⟩) 8 cap (l.drop m) := by
    refine ⟨e, fun n hn => hbd n (List.mem_of_mem_drop hn), by decide, .inr ⟨b, off + m, rfl, hb, fun j hj => ?_⟩⟩
    rw [Nat.add_assoc, hI (m + j) (by omega)]; simp
  have h := rrf_any 8 (Nat.le_refl _) _ _ _ _ w hA
  have e1 : rfV 8 (l.drop m) = decN m l := by unfold rfV decN; rw [if_neg (by omega), List.take_of_length_le (by omega)]
  have e2 : rfE 8 (l.drop m) = 0 := by unfold rfE; rw [if_neg (by omega)]
  rw [e1, e2] at h
  exact h
theorem and255 (m : Int) (h0 : 0 ≤ m) (h1 : m < 18446744073709551616) : bits .and .u64 m 255 = m % 256 :=
  bits_mask .u64 64 (by decide) wraps_u64 8 (by decide) m h0 (by omega)
end Go.Proofs.Ytkmpcheamdadcaa
namespace Go.Proofs.Ytkmpcheamdadcaa
open Go.RowKit
set_option linter.unusedVariables false
set_option linter.unusedSimpArgs false

set_option maxRecDepth 100000 in
set_option maxHeartbeats 2000000 in
theorem rdecode_long (b off m cap : Nat) (l : List Int) (w : World) (hl : l.length = m + 8) (hbd : ∀ n ∈ l, 0 ≤ n ∧ n < 256) (hm : m + 8 ≤ 140737488351232) (hcap : m + 8 ≤ cap) (hb : b < w.heap.size) (hI : ∀ j, (h : j < l.length) → w.cell? ⟨b, off + j, none⟩ = some (.int .u8 l[j])) :
    Calls Try.prog 107 #[.slice (some ⟨b, off, none⟩) (m + 8) cap] w fun e w' => e = .returned (if checkV (decU m l) (decN m l / 256) (decN m l % 256) = 0 then .tuple #[.agg #[.string (decU m l), .int .u64 (decN m l / 256), .int .i64 (decN m l % 256)], .int .i64 0] else .tuple #[.agg #[.string ⟨#[]⟩, .int .u64 0, .int .i64 0], .int .i64 3]) ∧ Below w.heap.size w w' := by
  have n4 : ¬ cap = m := by omega
  have hmc : (m : Int) ≤ (cap : Int) := by omega
  have hmc2 : (m : Int) + 8 ≤ (cap : Int) := by omega
  have hm0 : (0 : Int) ≤ (m : Int) := Int.natCast_nonneg _
  obtain ⟨N0, N1⟩ := decN_bd m l hl hbd
  have HT : Hid (∀ w : World, b < w.heap.size → (∀ j, (h : j < l.length) → w.cell? ⟨b, off + j, none⟩ = some (.int .u8 l[j])) → Calls Try.prog 125 #[.slice (some ⟨b, off + m, none⟩) 8 (cap - m), .int .i64 8] w fun e W' => e = .returned (.tuple #[.int .u64 (decN m l), .int .i64 0]) ∧ W' = w) := fun w hb hI => rrf_tail b off m (cap - m) l w hl hbd hb hI
  have HS : Hid (∀ w : World, (∀ j, (h : j < l.length) → w.cell? ⟨b, off + j, none⟩ = some (.int .u8 l[j])) → (convert 28 9 (.slice (some ⟨b, off, none⟩) m cap)).run Try.prog w = .ok (.string (decU m l)) w) := fun w hI => by
    have e : (l.take m).length = m := by simp; omega
    have := run_string_at (P := Try.prog) w 28 9 Try.underlying28 Try.underlying5 Try.underlying9 b off cap (l.take m) (by
      intro j hj
      rw [hI j (by omega)]; simp)
    rw [e] at this
    exact this
  have HI : Hid (∀ j, (h : j < l.length) → w.cell? ⟨b, off + j, none⟩ = some (.int .u8 l[j])) := hI
  clear hI hl hbd
  generalize decN m l = N at *
  generalize decU m l = U at *
  obtain ⟨RES, hRES⟩ : ∃ RES, (if checkV U (N / 256) (N % 256) = 0 then Value.tuple #[.agg #[.string U, .int .u64 (N / 256), .int .i64 (N % 256)], .int .i64 0] else Value.tuple #[.agg #[.string ⟨#[]⟩, .int .u64 0, .int .i64 0], .int .i64 3]) = RES := ⟨_, rfl⟩
  rw [hRES]
  have HE : Hid ((if checkV U (N / 256) (N % 256) = 0 then Value.tuple #[.agg #[.string U, .int .u64 (N / 256), .int .i64 (N % 256)], .int .i64 0] else Value.tuple #[.agg #[.string ⟨#[]⟩, .int .u64 0, .int .i64 0], .int .i64 3]) = RES) := hRES
  clear hRES
  have hand : bits .and .u64 N 255 = N % 256 := and255 N N0 N1
  have hzb := zero_box w 0
  have bel0 : Below w.heap.size w (w.alloc (.cells #[.string ⟨#[]⟩, .int .u64 0, .int .i64 0] 48)) := (Below.refl _ _).alloc (Nat.le_refl _) _
  obtain ⟨hz2, c0, c1, c2, g0, g1, g2⟩ : _ ∧ _ := hzb
  have hstr := HS.out (w.alloc (.cells #[.string ⟨#[]⟩, .int .u64 0, .int .i64 0] 48)) (fun j hj => (bel0.cell (p := ⟨b, off + j, none⟩) hb).trans (HI.out j hj))
  have HT2 := HT.out (w.alloc (.cells #[.string ⟨#[]⟩, .int .u64 0, .int .i64 0] 48)) (Nat.lt_of_lt_of_le hb bel0.size) (fun j hj => (bel0.cell (p := ⟨b, off + j, none⟩) hb).trans (HI.out j hj))
  have HT3 : Hid (Calls Try.prog 125 #[.slice (some ⟨b, off + m, none⟩) 8 (cap - m), .int .i64 8] (w.alloc (.cells #[.string ⟨#[]⟩, .int .u64 0, .int .i64 0] 48)) fun e W' => e = .returned (.tuple #[.int .u64 N, .int .i64 0]) ∧ W' = (w.alloc (.cells #[.string ⟨#[]⟩, .int .u64 0, .int .i64 0] 48))) := HT2
  clear HT2 hz2 c0 c1 c2 g0 g1 g2
  by_cases hck : checkV U (N / 256) (N % 256) = 0
  · have t : (checkV U (N / 256) (N % 256) != 0) = false := by simpa using hck
    have HV := HE.out
    rw [if_pos hck] at HV
    have HV' : Hid (Value.tuple #[.agg #[.string U, .int .u64 (N / 256), .int .i64 (N % 256)], .int .i64 0] = RES) := HV
    clear hck HV HE HS HT HI
    go_enter Try.func107, Try.ntmps107
    go_wp2_with (first | (go_at_call 125; refine HT3.out.mono ?_; rintro e w' ⟨rfl, rfl⟩) | (go_at_call 94; refine (rcheck_any _ _ _ _).mono ?_; rintro e w' ⟨rfl, rfl⟩))
    refine bodyPost_ret (v := .tuple #[.agg #[.string U, .int .u64 (N / 256), .int .i64 (N % 256)], .int .i64 0]) (by simp [results, Try.results107, go_sem, *]) rfl ⟨by rw [HV'.out], ?_⟩
    repeat' (first | exact bel0 | exact Below.refl _ _ | apply Below.alloc | apply Below.setCell | exact Nat.le_refl _ | (have := bel0.size; simp only [World.size_setCell, World.size_alloc]; omega))
  · have t : (checkV U (N / 256) (N % 256) != 0) = true := by simpa using hck
    have HV := HE.out
    rw [if_neg hck] at HV
    have HV' : Hid (Value.tuple #[.agg #[.string ⟨#[]⟩, .int .u64 0, .int .i64 0], .int .i64 3] = RES) := HV
    clear hck HV HE HS HT HI
    go_enter Try.func107, Try.ntmps107
    go_wp2_with (first | (go_at_call 125; refine HT3.out.mono ?_; rintro e w' ⟨rfl, rfl⟩) | (go_at_call 94; refine (rcheck_any _ _ _ _).mono ?_; rintro e w' ⟨rfl, rfl⟩))
    refine bodyPost_ret (v := .tuple #[.agg #[.string ⟨#[]⟩, .int .u64 0, .int .i64 0], .int .i64 3]) (by simp [results, Try.results107, go_sem, *]) rfl ⟨by rw [HV'.out], ?_⟩
    repeat' (first | exact bel0 | exact Below.refl _ _ | apply Below.alloc | apply Below.setCell | exact Nat.le_refl _ | (have := bel0.size; simp only [World.size_setCell, World.size_alloc]; omega))

end Go.Proofs.Ytkmpcheamdadcaa
