/-
  Rows whose elements have k cells each, whatever they are.
-/
import Derived.Test.YtkmpcheamdadcaaBk
import Derived.OwnWalk
import Derived.Lib.SliceRun
import Derived.Maps.AppendAt
namespace Go.Proofs.Ytkmpcheamdadcaa
open Go.RowKit
set_option linter.unusedVariables false
set_option linter.unusedSimpArgs false
/-- A row's block is no block of another type. -/
theorem row_ne {w : World} {base : Nat} {e : TypeId} {size : Nat} {v : Value} {n : Nat} {xs : List Value} (h : w.ownsRow base e size v n xs) {b : Nat} {t : TypeId} {cs : List Value} (hb : Blk w b t cs) (ht : e ≠ t) : ∀ k, v.ownBlock = some k → k ≠ b := by
  rintro k hk rfl
  rcases h.2 with ⟨rfl, _⟩ | ⟨g, cap, cur, rfl, _, hgg, _⟩
  · simp [Value.ownBlock] at hk
  · simp [Value.ownBlock] at hk
    subst hk
    unfold Blk at hb
    rw [hgg] at hb
    simp at hb
    exact ht hb.2
/-- Rows of two types lie in two blocks. -/
theorem row_row_ne {w : World} {b b' : Nat} {e e' : TypeId} {z z' : Nat} {v v' : Value} {n n' : Nat} {xs xs' : List Value} (h : w.ownsRow b e z v n xs) (h' : w.ownsRow b' e' z' v' n' xs') (he : e ≠ e') : ∀ k, v.ownBlock = some k → v'.ownBlock ≠ some k := by
  intro k hk hk'
  rcases h.2 with ⟨rfl, _⟩ | ⟨g, cap, cur, rfl, _, hg, _⟩
  · cases hk
  · rcases h'.2 with ⟨rfl, _⟩ | ⟨g', cap', cur', rfl, _, hg', _⟩
    · cases hk'
    · simp [Value.ownBlock] at hk hk'
      subst hk
      subst hk'
      rw [hg] at hg'
      simp at hg'
      exact he hg'.2


abbrev ptr (b : Nat) : Value := .pointer (some ⟨b, 0, none⟩)
theorem add_at (b off j : Nat) : (⟨b, off, none⟩ : Addr).add j = ⟨b, off + j, none⟩ := by unfold Addr.add; split <;> simp_all
section
variable {α : Type} (enc : α → List Value) {k : Nat}
def cls (l : List α) : List Value := (l.map enc).flatten
variable {enc}
theorem cls_nil : cls enc ([] : List α) = [] := rfl
theorem cls_cons (x : α) (l : List α) : cls enc (x :: l) = enc x ++ cls enc l := by simp [cls]
theorem cls_app (l m : List α) : cls enc (l ++ m) = cls enc l ++ cls enc m := by simp [cls]
theorem cls_one (x : α) : cls enc [x] = enc x := by simp [cls]
theorem cls_len (hk : ∀ x, (enc x).length = k) (l : List α) : (cls enc l).length = l.length * k := by
  induction l with
  | nil => simp [cls]
  | cons x l ih => rw [cls_cons, List.length_append, ih, hk, List.length_cons, Nat.add_mul]; omega
theorem cls_oc (h1 : ∀ x, ∀ u ∈ enc x, u.oneCell' = true) (l : List α) : ∀ u ∈ cls enc l, u.oneCell' = true := by
  intro u hu
  simp only [cls, List.mem_flatten, List.mem_map] at hu
  obtain ⟨_, ⟨x, _, rfl⟩, hx⟩ := hu
  exact h1 x u hx
theorem cls_get (hk : ∀ x, (enc x).length = k) : ∀ (l : List α) (j : Nat) (x : α), l[j]? = some x → ∀ i, i < k → (cls enc l)[j * k + i]? = (enc x)[i]? := by
  intro l
  induction l with
  | nil => intro j x h; simp at h
  | cons y l ih =>
    intro j x h i hi
    rw [cls_cons]
    cases j with
    | zero =>
      simp at h; subst h
      rw [Nat.zero_mul, Nat.zero_add, List.getElem?_append_left (by rw [hk]; omega)]
    | succ j =>
      rw [List.getElem?_append_right (by rw [hk, Nat.add_mul]; omega), hk]
      rw [← ih j x (by simpa using h) i hi]
      congr 1
      rw [Nat.add_mul]; omega
theorem cls_take (hk : ∀ x, (enc x).length = k) : ∀ (l : List α) (i : Nat), cls enc (l.take i) = (cls enc l).take (i * k) := by
  intro l
  induction l with
  | nil => intro i; simp [cls]
  | cons x l ih =>
    intro i
    cases i with
    | zero => simp [cls]
    | succ i =>
      rw [List.take_succ_cons, cls_cons, cls_cons, ih, show (i + 1) * k = (enc x).length + i * k by rw [hk, Nat.add_mul]; omega, List.take_length_add_append]
theorem cls_drop (hk : ∀ x, (enc x).length = k) : ∀ (l : List α) (i : Nat), cls enc (l.drop i) = (cls enc l).drop (i * k) := by
  intro l
  induction l with
  | nil => intro i; simp [cls]
  | cons x l ih =>
    intro i
    cases i with
    | zero => simp [cls]
    | succ i =>
      rw [List.drop_succ_cons, cls_cons, ih, show (i + 1) * k = (enc x).length + i * k by rw [hk, Nat.add_mul]; omega, List.drop_length_add_append]
/-- An element at a place. -/
def At (enc : α → List Value) (w : World) (g o : Nat) (x : α) : Prop := ∀ i v, (enc x)[i]? = some v → w.cell? ⟨g, o + i, none⟩ = some v
/-- A slice that reads as l. -/
def Rd (enc : α → List Value) (k : Nat) (w : World) (a : Option Addr) (l : List α) : Prop := l = [] ∨ ∃ g o, a = some ⟨g, o, none⟩ ∧ ∀ j x, l[j]? = some x → At enc w g (o + j * k) x
theorem row_rd (hk : ∀ x, (enc x).length = k) {w : World} {base : Nat} {e : TypeId} {v : Value} {l : List α} (h : w.ownsRow base e k v l.length (cls enc l)) : ∃ a cap, v = .slice a l.length cap ∧ l.length ≤ cap ∧ Rd enc k w a l ∧ ∀ g o, a = some ⟨g, o, none⟩ → o = 0 ∧ v.ownBlock = some g := by
  have h0 := h
  rcases h.2 with ⟨e, h1⟩ | ⟨g, cap, cur, e, _, hg, hn, _⟩
  · cases l with
    | nil => exact ⟨none, 0, e, Nat.le_refl _, .inl rfl, fun g o h => by cases h⟩
    | cons x l => simp at h1
  · subst e
    refine ⟨some ⟨g, 0, none⟩, cap, rfl, hn, .inr ⟨g, 0, rfl, fun j x hj i v hv => ?_⟩, fun g' o hh => by cases hh; exact ⟨rfl, rfl⟩⟩
    have hc := h0.cells (g := g) rfl
    have hi : i < k := by rw [← hk x]; exact (List.getElem?_eq_some_iff.1 hv).1
    have := hc (j * k + i) v (by rw [cls_get hk l j x hj i hi]; exact hv)
    rw [add_at] at this
    rw [Nat.zero_add]; rw [Nat.zero_add] at this; exact this
theorem At.keep {w w' : World} {g o : Nat} {x : α} (h : At enc w g o x) (hh : ∀ i v, w.cell? ⟨g, i, none⟩ = some v → w'.cell? ⟨g, i, none⟩ = some v) : At enc w' g o x := fun i v hv => hh _ _ (h i v hv)
theorem cell_lt {w : World} {a : Addr} {v : Value} (h : w.cell? a = some v) : a.block < w.heap.size := by
  unfold World.cell? at h
  cases hb : w.heap[a.block]? with
  | none => rw [hb] at h; simp at h
  | some o => exact (Array.getElem?_eq_some_iff.1 hb).1
theorem cell_upd {S : Nat → Prop} {w w' : World} (u : Upd S w w') {g i : Nat} {v : Value} (hs : ¬ S g) (h : w.cell? ⟨g, i, none⟩ = some v) : w'.cell? ⟨g, i, none⟩ = some v := by
  rw [upd_cell u (cell_lt h) hs]; exact h
theorem cell_below {w w' : World} (hb : Below w.heap.size w w') {g i : Nat} {v : Value} (h : w.cell? ⟨g, i, none⟩ = some v) : w'.cell? ⟨g, i, none⟩ = some v := cell_upd (S := Non) (Upd.ofBelow hb) (fun h => h) h
theorem Rd.below {w w' : World} {a : Option Addr} {l : List α} (h : Rd enc k w a l) (hb : Below w.heap.size w w') : Rd enc k w' a l := by
  rcases h with h | ⟨g, o, rfl, hc⟩
  · exact .inl h
  · exact .inr ⟨g, o, rfl, fun j x hj => (hc j x hj).keep fun i v hv => cell_below hb hv⟩
theorem Rd.upd {S : Nat → Prop} {w w' : World} {a : Option Addr} {l : List α} (h : Rd enc k w a l) (u : Upd S w w') (hS : ∀ g o, a = some ⟨g, o, none⟩ → ¬ S g) : Rd enc k w' a l := by
  rcases h with h | ⟨g, o, rfl, hc⟩
  · exact .inl h
  · exact .inr ⟨g, o, rfl, fun j x hj => (hc j x hj).keep fun i v hv => cell_upd u (hS g o rfl) hv⟩
theorem Rd.at_ {w : World} {a : Option Addr} {l : List α} (h : Rd enc k w a l) {j : Nat} {x : α} (hj : l[j]? = some x) : ∃ g o, a = some ⟨g, o, none⟩ ∧ At enc w g (o + j * k) x := by
  rcases h with rfl | ⟨g, o, rfl, hc⟩
  · simp at hj
  · exact ⟨g, o, rfl, hc j x hj⟩
/-- What is read, as a source of cells. -/
theorem rd_src (hk : ∀ x, (enc x).length = k) (hk0 : 0 < k) {w : World} {g o : Nat} {l : List α} (h : ∀ j x, l[j]? = some x → At enc w g (o + j * k) x) : ∀ j u, (cls enc l)[j]? = some u → w.cell? ((⟨g, o, none⟩ : Addr).add j) = some u := by
  intro j u hu
  have hj : j < l.length * k := by rw [← cls_len hk]; exact (List.getElem?_eq_some_iff.1 hu).1
  have hd : j / k < l.length := Nat.div_lt_of_lt_mul (by rw [Nat.mul_comm]; exact hj)
  have e : j = j / k * k + j % k := by have := Nat.div_add_mod j k; rw [Nat.mul_comm] at this; exact this.symm
  have ht : l[j / k]? = some l[j / k] := List.getElem?_eq_getElem hd
  have hg := cls_get hk l (j / k) l[j / k] ht (j % k) (Nat.mod_lt _ hk0)
  rw [← e, hu] at hg
  rw [add_at]
  have := h (j / k) _ ht (j % k) u hg.symm
  rw [Nat.add_assoc, ← e] at this
  exact this
/-- One more onto a row. -/
theorem push_g {P : Program} (hk : ∀ x, (enc x).length = k) (h1 : ∀ x, ∀ u ∈ enc x, u.oneCell' = true) {t e : TypeId} {z : Value} {by_ : Nat} (ht : P.underlying t = some (.slice e)) (hinf : (P.info? e).map (fun i => (i.zero, i.size, i.bytes)) = some (some z, k, by_)) (hzs : z.cells.size = k) (hk0 : 0 < k)
    {w : World} {base : Nat} {v : Value} {l : List α} (h : w.ownsRow base e k v l.length (cls enc l)) (hb : base ≤ w.heap.size) {vb : Nat} {tb : TypeId} {x : α} (hv : Blk w vb tb (enc x)) (ty : TypeId) (hl : (l.length + 1) * by_ ≤ 140737488355328) (hm : l.length + 1 ≤ maxLen) :
    ∃ v' w', (Builtin.append_ #[t, t] ty #[v, .slice (some ⟨vb, 0, none⟩) 1 1]).run P w = .ok v' w' ∧ w'.ownsRow base e k v' (l ++ [x]).length (cls enc (l ++ [x])) ∧ Upd (fun k => v.ownBlock = some k) w w' ∧ (v'.ownBlock = v.ownBlock ∨ v'.ownBlock = some w.heap.size) ∧ v' ≠ .slice none 0 0 := by
  obtain ⟨i0, hi, hz0, hz1, hz2⟩ := info_parts hinf
  obtain ⟨v', w', hr, h2, h3, h4, h5⟩ := run_append_own_at (P := P) w base t ty e i0 _ k by_ ht hi hz0 hz1 hz2 hzs hk0 v l.length (cls enc l) h ⟨vb, 0, none⟩ 1 1 (enc x) (by rw [hk]; omega) (fun j u hj => by rw [add_at, Nat.zero_add]; exact hv.cell1 j u hj) (h1 x) hm hl hb
  refine ⟨v', w', hr, ?_, (Upd.refl _ _).grown h3 (fun k hk _ => hk), h5, fun e => by have := (h4.1 e).2; omega⟩
  rw [cls_app, cls_one]
  simpa using h2
/-- Many more onto a row, out of what reads. -/
theorem pushes_g {P : Program} (hk : ∀ x, (enc x).length = k) (h1 : ∀ x, ∀ u ∈ enc x, u.oneCell' = true) {t e : TypeId} {z : Value} {by_ : Nat} (ht : P.underlying t = some (.slice e)) (hinf : (P.info? e).map (fun i => (i.zero, i.size, i.bytes)) = some (some z, k, by_)) (hzs : z.cells.size = k) (hk0 : 0 < k)
    {w : World} {base : Nat} {v : Value} {l m : List α} (h : w.ownsRow base e k v l.length (cls enc l)) (hb : base ≤ w.heap.size) {a : Addr} {c : Nat} (hs : ∀ j u, (cls enc m)[j]? = some u → w.cell? (a.add j) = some u) (ty : TypeId) (hl : (l.length + m.length) * by_ ≤ 140737488355328) (hm : l.length + m.length ≤ maxLen) :
    ∃ v' w', (Builtin.append_ #[t, t] ty #[v, .slice (some a) m.length c]).run P w = .ok v' w' ∧ w'.ownsRow base e k v' (l ++ m).length (cls enc (l ++ m)) ∧ Upd (fun k => v.ownBlock = some k) w w' ∧ (v'.ownBlock = v.ownBlock ∨ v'.ownBlock = some w.heap.size) := by
  obtain ⟨i0, hi, hz0, hz1, hz2⟩ := info_parts hinf
  obtain ⟨v', w', hr, h2, h3, h4, h5⟩ := run_append_own_at (P := P) w base t ty e i0 _ k by_ ht hi hz0 hz1 hz2 hzs hk0 v l.length (cls enc l) h a m.length c (cls enc m) (cls_len hk m) hs (cls_oc h1 m) hm hl hb
  refine ⟨v', w', hr, ?_, (Upd.refl _ _).grown h3 (fun k hk _ => hk), h5⟩
  rw [cls_app]
  simpa using h2
end
theorem row_slice {w : World} {base : Nat} {e : TypeId} {k : Nat} {v : Value} {n : Nat} {xs : List Value} (h : w.ownsRow base e k v n xs) : ∃ a cap, v = .slice a n cap := by
  rcases h.2 with ⟨rfl, rfl⟩ | ⟨g, cap, cur, rfl, _⟩
  · exact ⟨none, 0, rfl⟩
  · exact ⟨_, _, rfl⟩
theorem row_blk {w : World} {base : Nat} {e : TypeId} {k : Nat} {v : Value} {n : Nat} {xs : List Value} (h : w.ownsRow base e k v n xs) : ∀ j, v.ownBlock = some j → base ≤ j ∧ j < w.heap.size := fun j hj => by
  rcases h.2 with ⟨rfl, rfl⟩ | ⟨g, cap, cur, rfl, hb, hg, _⟩
  · cases hj
  · cases hj; exact ⟨hb, (Array.getElem?_eq_some_iff.1 hg).1⟩
end Go.Proofs.Ytkmpcheamdadcaa
