/-
  Slices that are cut; append at a step.
-/
import Derived.Test.YtocanjefonlnaaaDoorIg
namespace Go.Proofs.YtocanjefonlnaaaDoor
open Go.RowKit
set_option linter.unusedVariables false
set_option linter.unusedSimpArgs false
/-- Where a slice begins behind its first m, its elements of k cells. -/
def cutK (k : Nat) (a : Option Addr) (cap m : Nat) : Option Addr := if cap = m then a else a.map (·.add (m * k))
theorem cutK_run {t e : TypeId} {k : Nat} (hel : Tryd.prog.elem t = e) (ht : Tryd.prog.underlying t = some (.slice (Tryd.prog.elem t))) (hs : ∀ W, (sizeOf e).run Tryd.prog W = .ok k W) (a : Option Addr) (n cap m : Nat) (h : m ≤ n) (W : World) :
    (Instr.sliceAt t (.slice a n cap) (some (.int .i64 m)) none none).run Tryd.prog W = .ok (.slice (cutK k a cap m) (n - m) (cap - m)) W := by
  have hr := run_slice_l (P := Tryd.prog) W t a n cap ht .i64 (m : Int) (by omega) (by omega)
  rw [hel, hs] at hr
  simp only [Result.andThen, sliced, Int.toNat_natCast] at hr
  rw [run_sliceAt_slice _ _ _ _ _ _ ht, hr]
  unfold cutK
  cases a <;> split <;> simp
theorem cutH_run {t e : TypeId} {k : Nat} (hel : Tryd.prog.elem t = e) (ht : Tryd.prog.underlying t = some (.slice (Tryd.prog.elem t))) (hs : ∀ W, (sizeOf e).run Tryd.prog W = .ok k W) (a : Option Addr) (n cap m : Nat) (h : m ≤ cap) (W : World) :
    (Instr.sliceAt t (.slice a n cap) none (some (.int .i64 m)) none).run Tryd.prog W = .ok (.slice a m cap) W := by
  have hr := run_slice_h (P := Tryd.prog) W t a n cap ht .i64 (m : Int) (by omega) (by omega)
  rw [hel, hs] at hr
  simp only [Result.andThen, sliced, Int.toNat_natCast] at hr
  rw [run_sliceAt_slice _ _ _ _ _ _ ht, hr]
  cases a <;> simp [Addr.add]
theorem row_blk {w : World} {base : Nat} {e : TypeId} {k : Nat} {v : Value} {n : Nat} {xs : List Value} (h : w.ownsRow base e k v n xs) : ∀ j, v.ownBlock = some j → base ≤ j ∧ j < w.heap.size := fun j hj => by
  rcases h.2 with ⟨rfl, rfl⟩ | ⟨g, cap, cur, rfl, hb, hg, _⟩
  · cases hj
  · cases hj; exact ⟨hb, (Array.getElem?_eq_some_iff.1 hg).1⟩
theorem elem51 : Tryd.prog.elem 51 = 56 := by kernel_rfl
theorem slc51 : Tryd.prog.underlying 51 = some (.slice (Tryd.prog.elem 51)) := by rw [elem51]; exact Tryd.underlying51
theorem size56 (W : World) : (sizeOf 56).run Tryd.prog W = .ok 4 W := by kernel_rfl
theorem elem60 : Tryd.prog.elem 60 = 81 := by kernel_rfl
theorem slc60 : Tryd.prog.underlying 60 = some (.slice (Tryd.prog.elem 60)) := by rw [elem60]; exact Tryd.underlying60
theorem size81 (W : World) : (sizeOf 81).run Tryd.prog W = .ok 3 W := by kernel_rfl
theorem rd_cut {α : Type} {enc : α → List Value} {k : Nat} {w : World} {a : Option Addr} {l : List α} (h : Rg.Rd enc k w a l) {c m : Nat} (hl : l.length ≤ c) : Rg.Rd enc k w (cutK k a c m) (l.drop m) := by
  rcases h with rfl | ⟨g, o, rfl, hc⟩
  · exact .inl (by simp)
  · by_cases hm : c = m
    · left; rw [List.drop_eq_nil_of_le (by omega)]
    · right
      refine ⟨g, o + m * k, by unfold cutK; rw [if_neg hm]; simp [Rg.add_at2], fun j x hj => ?_⟩
      rw [List.getElem?_drop] at hj
      have := hc _ x hj
      rw [show o + m * k + j * k = o + (m + j) * k by rw [Nat.add_mul]; omega]
      exact this
theorem cutK_none {k : Nat} {a : Option Addr} {c m : Nat} (h : cutK k a c m = none) : a = none := by
  unfold cutK at h
  split at h
  · exact h
  · cases a <;> simp_all
theorem step_app {t : TypeId} {v u : Value} {Rr : Value → World → Prop} {w : World} {ops : Array Oper} {o : Oper} {a : Act} {K : Act → World → Prop} {Q : Exit → Act → World → Prop} {Ex : Prop} (hgd : o.guard = none) {d : Nat} (hd : o.dst = some d) (s x : Operand)
    (ho : o.op = .call { callee := .builtin .append, args := #[s, x], argTypes := #[t, t] }) (hs : a.eval s = v) (hx : a.eval x = u) (hrun : ∃ v' w', (Builtin.append_ #[t, t] o.type #[v, u]).run Tryd.prog w = .ok v' w' ∧ Rr v' w')
    (hK : ∀ v' w', Rr v' w' → K (a.put (some d) v') w') :
    if Region.wanted o (yielded ops a.tmps) = true then Oper.wp Tryd.prog o a w K Q else Ex := by
  have hw : Region.wanted o (yielded ops a.tmps) = true := by simp [Region.wanted, hgd]
  rw [if_pos hw]
  obtain ⟨v', w', hr, h2⟩ := hrun
  unfold Oper.wp execOp
  simp only [ho, resolve, invoke, builtin, Sem.run_bind, Sem.run_pure, Result.andThen_ok, List.map_toArray, List.map_cons, List.map_nil, hs, hx, hr]
  have := hK v' w' h2
  rw [← hd] at this
  exact this
theorem rowE0 (W : World) {b : Nat} (hb : b ≤ W.heap.size) : RowE (W.alloc (.cells #[] 56)) b (.slice (some ⟨W.heap.size, 0, none⟩) 0 0) [] := World.ownsRow_made (base := b) (e := 56) (size := 4) W #[] 0 hb (by unfold maxLen; omega) rfl
theorem rowT0 (W : World) {b : Nat} (hb : b ≤ W.heap.size) : RowT (W.alloc (.cells #[] 81)) b (.slice (some ⟨W.heap.size, 0, none⟩) 0 0) [] := World.ownsRow_made (base := b) (e := 81) (size := 3) W #[] 0 hb (by unfold maxLen; omega) rfl
theorem rowE_rde {w : World} {base : Nat} {v : Value} {l : List Ent} (h : RowE w base v l) : ∃ a c, v = .slice a l.length c ∧ l.length ≤ c ∧ RdE w a l ∧ (a = none → l = [] ∧ c = 0) := by
  obtain ⟨a, c, e, hc, hr, ho⟩ := Rg.row_rd ec_k h
  refine ⟨a, c, e, hc, ?_, fun ha => ?_⟩
  · rcases hr with hr | ⟨g, o, ea, hat⟩
    · exact .inl hr
    · refine .inr ⟨g, o, ea, fun j x hx => ?_⟩
      have := hat j x hx
      exact ⟨this 0 _ rfl, this 1 _ rfl, this 2 _ rfl, this 3 _ rfl⟩
  · subst ha
    rcases h.2 with ⟨e1, h1⟩ | ⟨g, cap, cur, e1, _⟩
    · rw [e] at e1
      injection e1 with _ _ e3
      exact ⟨List.eq_nil_of_length_eq_zero h1, e3⟩
    · rw [e] at e1; cases e1
theorem rowT_rdt {w : World} {base : Nat} {v : Value} {l : List Tm} (h : RowT w base v l) : ∃ a c, v = .slice a l.length c ∧ l.length ≤ c ∧ RdT w (.slice a l.length c) l ∧ (a = none → l = [] ∧ c = 0) := by
  obtain ⟨a, c, e, hc, hr, ho⟩ := Rg.row_rd tc_k h
  have hn : a = none → l = [] ∧ c = 0 := fun ha => by
    subst ha
    rcases h.2 with ⟨e1, h1⟩ | ⟨g, cap, cur, e1, _⟩
    · rw [e] at e1
      injection e1 with _ _ e3
      exact ⟨List.eq_nil_of_length_eq_zero h1, e3⟩
    · rw [e] at e1; cases e1
  refine ⟨a, c, e, hc, ?_, hn⟩
  cases a with
  | none => obtain ⟨e1, e2⟩ := hn rfl; subst e1 e2; exact .inl ⟨rfl, rfl⟩
  | some ad =>
    rcases h.2 with ⟨e1, h1⟩ | ⟨g, cap, cur, e1, _⟩
    · rw [e] at e1; cases e1
    · rw [e] at e1
      injection e1 with e3 _ _
      injection e3 with e3
      subst e3
      refine .inr ⟨g, c, rfl, fun j x hx => ?_⟩
      rcases hr with hr | ⟨g', o, ea, hat⟩
      · rw [hr] at hx; simp at hx
      · cases ea
        have := hat j x hx
        rw [Nat.zero_add] at this
        exact ⟨this 0 _ rfl, this 1 _ rfl, this 2 _ rfl⟩
theorem strD {W : World} {D : Nat} {how sz : Int} {a b : Option Addr} {n m c d : Nat} (hB : Blk W D 74 (rtC how (.slice a n c) (.slice b m d) sz)) {g o : Nat} {s : ByteArray} (h : W.cell? ⟨g, o, none⟩ = some (.string s)) : g ≠ D := by
  rintro rfl
  rw [hB.cell] at h
  match o with
  | 0 => simp [rtC] at h
  | 1 => simp [rtC] at h
  | 2 => simp [rtC] at h
  | 3 => simp [rtC] at h
  | o + 4 => simp [rtC] at h
theorem cell_setD {W : World} {D i : Nat} {v : Value} {g o : Nat} {x : Value} (hne : g ≠ D) (h : W.cell? ⟨g, o, none⟩ = some x) : (W.setCell ⟨D, i, none⟩ v).cell? ⟨g, o, none⟩ = some x := by
  rw [World.cell?_setCell_other _ _ _ _ (by intro e; cases e; exact hne rfl)]; exact h
theorem rdt_setD {W : World} {D : Nat} {how sz : Int} {a b : Option Addr} {n m c d : Nat} (hB : Blk W D 74 (rtC how (.slice a n c) (.slice b m d) sz)) {rv : Value} {l : List Tm} (h : RdT W rv l) (i : Nat) (v : Value) : RdT (W.setCell ⟨D, i, none⟩ v) rv l := by
  rcases h with h | ⟨g, cap, e, h⟩
  · exact .inl h
  · refine .inr ⟨g, cap, e, fun j t ht => ?_⟩
    obtain ⟨h0, h1, h2⟩ := h j t ht
    have hne := strD hB h0
    exact ⟨cell_setD hne h0, cell_setD hne h1, cell_setD hne h2⟩
theorem rde_setD {W : World} {D : Nat} {how sz : Int} {a b : Option Addr} {n m c d : Nat} (hB : Blk W D 74 (rtC how (.slice a n c) (.slice b m d) sz)) {rv : Option Addr} {l : List Ent} (h : RdE W rv l) (i : Nat) (v : Value) : RdE (W.setCell ⟨D, i, none⟩ v) rv l := by
  rcases h with h | ⟨g, off, e, h⟩
  · exact .inl h
  · refine .inr ⟨g, off, e, fun j t ht => ?_⟩
    obtain ⟨h0, h1, h2, h3⟩ := h j t ht
    have hne := strD hB h0
    exact ⟨cell_setD hne h0, cell_setD hne h1, cell_setD hne h2, cell_setD hne h3⟩
theorem srcE (W : World) (x : Ent) : Rg.Rd Ent.c 4 (W.alloc (.cells #[.string x.u, .int .u64 x.s, .int .i64 x.k, .string x.v] 56)) (some ⟨W.heap.size, 0, none⟩) [x] := by
  refine .inr ⟨W.heap.size, 0, rfl, fun j y hj i v hv => ?_⟩
  have hB := Blk.new W 56 (Ent.c x)
  cases j with
  | zero => simp at hj; subst hj; rw [Nat.zero_mul, Nat.add_zero, Nat.zero_add]; exact hB.cell1 i v hv
  | succ j => simp at hj
theorem srcT (W : World) (x : Tm) : Rg.Rd Tm.c 3 (W.alloc (.cells #[.string x.b, .string x.e, .int .u64 x.s] 81)) (some ⟨W.heap.size, 0, none⟩) [x] := by
  refine .inr ⟨W.heap.size, 0, rfl, fun j y hj i v hv => ?_⟩
  have hB := Blk.new W 81 (Tm.c x)
  cases j with
  | zero => simp at hj; subst hj; rw [Nat.zero_mul, Nat.add_zero, Nat.zero_add]; exact hB.cell1 i v hv
  | succ j => simp at hj
end Go.Proofs.YtocanjefonlnaaaDoor
