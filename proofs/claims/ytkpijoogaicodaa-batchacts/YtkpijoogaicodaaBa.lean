import Derived.Test.YtkpijoogaicodaaDb
import Derived.Maps.AppendAt
import Derived.Below
namespace Go.Proofs.Ytkpijoogaicodaa
open Go.RowKit
set_option linter.unusedVariables false
set_option linter.unusedSimpArgs false

/-- A block of cells that nothing marks. -/
def Blk (w : World) (b : Nat) (t : TypeId) (cs : List Value) : Prop := w.heap[b]? = some (.cells cs.toArray t (0, 0))
theorem Blk.cell {w : World} {b : Nat} {t : TypeId} {cs : List Value} (h : Blk w b t cs) (i : Nat) : w.cell? ⟨b, i, none⟩ = cs[i]? := by
  unfold Blk at h; simp [World.cell?, h]
theorem Blk.cell1 {w : World} {b : Nat} {t : TypeId} {cs : List Value} (h : Blk w b t cs) (i : Nat) (v : Value) (hv : cs[i]? = some v) : w.cell? ⟨b, i, none⟩ = some v := (h.cell i).trans hv
theorem Blk.frozen {w : World} {b : Nat} {t : TypeId} {cs : List Value} (h : Blk w b t cs) (i : Nat) : w.frozen? ⟨b, i, none⟩ = false := by
  unfold Blk at h; simp [World.frozen?, h]
theorem Blk.lt {w : World} {b : Nat} {t : TypeId} {cs : List Value} (h : Blk w b t cs) : b < w.heap.size := (Array.getElem?_eq_some_iff.1 h).1
theorem Blk.ne {w : World} {b b' : Nat} {t t' : TypeId} {cs cs' : List Value} (h : Blk w b t cs) (h' : Blk w b' t' cs') (ht : t ≠ t') : b ≠ b' := by
  rintro rfl
  unfold Blk at h h'
  rw [h] at h'
  simp at h'
  exact ht h'.2
theorem Blk.inj {w : World} {b : Nat} {t t' : TypeId} {cs cs' : List Value} (h : Blk w b t cs) (h' : Blk w b t' cs') : cs = cs' := by
  unfold Blk at h h'
  rw [h] at h'
  simp at h'
  exact h'.1
theorem Blk.set {w : World} {b : Nat} {t : TypeId} {cs : List Value} (h : Blk w b t cs) (i : Nat) (v : Value) : Blk (w.setCell ⟨b, i, none⟩ v) b t (cs.set i v) := by
  unfold Blk at *
  simp [World.setCell, Array.getElem?_modify, h]
theorem Blk.other {w : World} {b : Nat} {t : TypeId} {cs : List Value} (h : Blk w b t cs) {a : Addr} (ha : b ≠ a.block) (v : Value) : Blk (w.setCell a v) b t cs := by
  unfold Blk at *
  rw [Below.heap_setCell _ _ _ _ ha]; exact h
theorem Blk.drew {w : World} {b : Nat} {t : TypeId} {cs : List Value} (h : Blk w b t cs) : Blk w.drew b t cs := h
theorem Blk.alloc {w : World} {b : Nat} {t : TypeId} {cs : List Value} (h : Blk w b t cs) (o : Obj) : Blk (w.alloc o) b t cs := by
  have := h.lt
  unfold Blk at *
  rw [Below.heap_alloc _ _ _ this]; exact h
theorem Blk.new (w : World) (t : TypeId) (cs : List Value) : Blk (w.alloc (.cells cs.toArray t)) w.heap.size t cs := by
  unfold Blk; exact heap_alloc_new w _

/-- w' is w but for the blocks of S, and new ones. -/
structure Upd (S : Nat → Prop) (w w' : World) : Prop where
  os : w'.os = w.os
  tape : w'.tape = w.tape
  output : w'.output = w.output
  size : w.heap.size ≤ w'.heap.size
  block : ∀ k, k < w.heap.size → ¬ S k → w'.heap[k]? = w.heap[k]?
def Non : Nat → Prop := fun _ => False
theorem Upd.refl (S : Nat → Prop) (w : World) : Upd S w w := ⟨rfl, rfl, rfl, Nat.le_refl _, fun _ _ _ => rfl⟩
theorem Upd.trans {S : Nat → Prop} {a b c : World} (h : Upd S a b) (k : Upd S b c) : Upd S a c :=
  ⟨k.os.trans h.os, k.tape.trans h.tape, k.output.trans h.output, Nat.le_trans h.size k.size, fun i hi hs => (k.block i (Nat.lt_of_lt_of_le hi h.size) hs).trans (h.block i hi hs)⟩
theorem Upd.mono {S S' : Nat → Prop} {a b : World} (h : Upd S a b) (hS : ∀ k, k < a.heap.size → S k → S' k) : Upd S' a b :=
  ⟨h.os, h.tape, h.output, h.size, fun i hi hs => h.block i hi (fun hh => hs (hS i hi hh))⟩
/-- the second step's blocks may be new ones. -/
theorem Upd.then {S S' : Nat → Prop} {a b c : World} (h : Upd S a b) (k : Upd S' b c) (hS : ∀ i, i < a.heap.size → S' i → S i) : Upd S a c :=
  ⟨k.os.trans h.os, k.tape.trans h.tape, k.output.trans h.output, Nat.le_trans h.size k.size, fun i hi hs => (k.block i (Nat.lt_of_lt_of_le hi h.size) (fun hh => hs (hS i hi hh))).trans (h.block i hi hs)⟩
theorem Upd.drew {S : Nat → Prop} {a w : World} (h : Upd S a w) : Upd S a w.drew := ⟨h.os, h.tape, h.output, h.size, h.block⟩
theorem Upd.alloc {S : Nat → Prop} {a w : World} (h : Upd S a w) (o : Obj) : Upd S a (w.alloc o) :=
  ⟨h.os, h.tape, h.output, Nat.le_trans h.size (by simp), fun i hi hs => (Below.heap_alloc _ _ _ (Nat.lt_of_lt_of_le hi h.size)).trans (h.block i hi hs)⟩
theorem Upd.setCell {S : Nat → Prop} {a w : World} (h : Upd S a w) {p : Addr} (hp : p.block < a.heap.size → S p.block) (u : Value) : Upd S a (w.setCell p u) :=
  ⟨h.os, h.tape, h.output, Nat.le_trans h.size (by simp [World.setCell]), fun i hi hs => (Below.heap_setCell _ _ _ _ (fun e => by subst e; exact hs (hp hi))).trans (h.block i hi hs)⟩
theorem Upd.grown {S : Nat → Prop} {a w w' : World} {row : Option Nat} (h : Upd S a w) (hg : w.grownBy w' row) (hr : ∀ k, row = some k → k < a.heap.size → S k) : Upd S a w' :=
  ⟨hg.os.trans h.os, hg.tape.trans h.tape, hg.output.trans h.output, Nat.le_trans h.size hg.size, fun i hi hs => (hg.block i (Nat.lt_of_lt_of_le hi h.size) (fun e => hs (hr i e.symm hi))).trans (h.block i hi hs)⟩
theorem Upd.below {S : Nat → Prop} {a b : World} (h : Upd S a b) {n : Nat} (hn : ∀ k, k < n → k < a.heap.size) (hS : ∀ k, S k → n ≤ k) : Below n a b :=
  ⟨h.os, h.tape, h.output, h.size, fun k hk => h.block k (hn k hk) (fun hs => by have := hS k hs; omega)⟩
theorem Upd.ofBelow {S : Nat → Prop} {a b : World} (h : Below a.heap.size a b) : Upd S a b := ⟨h.os, h.tape, h.output, h.size, fun k hk _ => h.block k hk⟩
theorem Blk.upd {S : Nat → Prop} {w w' : World} {b : Nat} {t : TypeId} {cs : List Value} (h : Blk w b t cs) (u : Upd S w w') (hb : ¬ S b) : Blk w' b t cs := by
  have := h.lt
  unfold Blk at *
  rw [u.block b this hb]; exact h

theorem row_upd {S : Nat → Prop} {w w' : World} {base : Nat} {e : TypeId} {size : Nat} {v : Value} {n : Nat} {xs : List Value} (h : w.ownsRow base e size v n xs) (u : Upd S w w') (hS : ∀ k, v.ownBlock = some k → ¬ S k) : w'.ownsRow base e size v n xs := by
  refine ⟨h.1, ?_⟩
  rcases h.2 with hn | ⟨g, cap, cur, rfl, hb, hgg, rest⟩
  · exact .inl hn
  · refine .inr ⟨g, cap, cur, rfl, hb, ?_, rest⟩
    rw [u.block g (Array.getElem?_eq_some_iff.1 hgg).1 (hS g rfl)]
    exact hgg
/-- A row's block is no block of another type. -/
theorem row_ne {w : World} {base : Nat} {e : TypeId} {size : Nat} {v : Value} {n : Nat} {xs : List Value} (h : w.ownsRow base e size v n xs) {b : Nat} {t : TypeId} {cs : List Value} (hb : Blk w b t cs) (ht : e ≠ t) : ∀ k, v.ownBlock = some k → k ≠ b := by
  rintro k hk rfl
  rcases h.2 with ⟨rfl, _⟩ | ⟨g, cap, cur, rfl, _, hgg, _⟩
  · simp [Value.ownBlock] at hk
  · simp [Value.ownBlock] at hk
    subst hk
    unfold Blk at hb
    rw [hgg] at hb
    simp at hb
    exact ht hb.2
/-- Rows of two types lie in two blocks. -/
theorem row_row_ne {w : World} {b b' : Nat} {e e' : TypeId} {z z' : Nat} {v v' : Value} {n n' : Nat} {xs xs' : List Value} (h : w.ownsRow b e z v n xs) (h' : w.ownsRow b' e' z' v' n' xs') (he : e ≠ e') : ∀ k, v.ownBlock = some k → v'.ownBlock ≠ some k := by
  intro k hk hk'
  rcases h.2 with ⟨rfl, _⟩ | ⟨g, cap, cur, rfl, _, hg, _⟩
  · cases hk
  · rcases h'.2 with ⟨rfl, _⟩ | ⟨g', cap', cur', rfl, _, hg', _⟩
    · cases hk'
    · simp [Value.ownBlock] at hk hk'
      subst hk
      subst hk'
      rw [hg] at hg'
      simp at hg'
      exact he hg'.2

/-- The cells of records. -/
def rcs : List Rec → List Value
  | [] => []
  | r :: l => r.c ++ rcs l
theorem rcs_len (l : List Rec) : (rcs l).length = l.length * 4 := by
  induction l with
  | nil => rfl
  | cons r l ih => simp [rcs, Rec.c, ih]; omega
theorem rcs_app (l m : List Rec) : rcs (l ++ m) = rcs l ++ rcs m := by
  induction l with
  | nil => rfl
  | cons r l ih => simp [rcs, ih]
theorem rcs_one (l : List Rec) : ∀ u ∈ rcs l, u.oneCell' = true := by
  induction l with
  | nil => simp [rcs]
  | cons r l ih =>
    intro u hu
    rw [rcs, List.mem_append] at hu
    rcases hu with hu | hu
    · simp [Rec.c] at hu
      rcases hu with rfl | rfl | rfl | rfl <;> rfl
    · exact ih u hu
theorem rcs_get (l : List Rec) (j : Nat) (h : j < l.length) (i : Nat) (hi : i < 4) : (rcs l)[j * 4 + i]? = (l[j].c)[i]? := by
  induction l generalizing j with
  | nil => simp at h
  | cons r l ih =>
    cases j with
    | zero =>
      simp only [rcs, Nat.zero_mul, Nat.zero_add, List.getElem_cons_zero]
      rw [List.getElem?_append_left (by simp [Rec.c]; omega)]
    | succ j =>
      simp only [rcs, List.getElem_cons_succ]
      rw [List.getElem?_append_right (by simp [Rec.c]; omega)]
      have := ih j (by simpa using h)
      rw [← this]
      congr 1
      simp [Rec.c]; omega
/-- A record at a place. -/
def RAt (w : World) (b o : Nat) (r : Rec) : Prop := w.cell? ⟨b, o, none⟩ = some (.int .u32 r.fam) ∧ w.cell? ⟨b, o + 1, none⟩ = some (.int .i64 r.kind) ∧ w.cell? ⟨b, o + 2, none⟩ = some (.string r.key) ∧ w.cell? ⟨b, o + 3, none⟩ = some (.string r.val)
/-- A slice whose records are these, wherever it lies. -/
def RdR (w : World) (v : Value) (l : List Rec) : Prop :=
  (∃ a c, v = .slice a 0 c ∧ l = []) ∨ ∃ b off cap, v = .slice (some ⟨b, off, none⟩) l.length cap ∧ b < w.heap.size ∧ ∀ j, (h : j < l.length) → RAt w b (off + j * 4) l[j]
theorem add_at (b off j : Nat) : (⟨b, off, none⟩ : Addr).add j = ⟨b, off + j, none⟩ := by unfold Addr.add; split <;> simp_all
theorem rat_cells {w : World} {b off : Nat} {l : List Rec} (h : ∀ j, (h : j < l.length) → RAt w b (off + j * 4) l[j]) : ∀ j u, (rcs l)[j]? = some u → w.cell? ((⟨b, off, none⟩ : Addr).add j) = some u := by
  intro j u hu
  have hj : j < l.length * 4 := by rw [← rcs_len]; exact (List.getElem?_eq_some_iff.1 hu).1
  have hd : j / 4 < l.length := by omega
  have hm : j % 4 < 4 := by omega
  have e : j = j / 4 * 4 + j % 4 := by omega
  have hg := rcs_get l (j / 4) hd (j % 4) hm
  rw [← e, hu] at hg
  rw [add_at]
  obtain ⟨h0, h1, h2, h3⟩ := h (j / 4) hd
  have : j % 4 = 0 ∨ j % 4 = 1 ∨ j % 4 = 2 ∨ j % 4 = 3 := by omega
  rcases this with m | m | m | m <;> rw [m] at hg <;> simp [Rec.c] at hg <;> subst hg
  · rw [← h0]; congr 2; omega
  · rw [← h1]; congr 2; omega
  · rw [← h2]; congr 2; omega
  · rw [← h3]; congr 2; omega
theorem row_rat {w : World} {base g cap n : Nat} {l : List Rec} (h : w.ownsRow base 31 4 (.slice (some ⟨g, 0, none⟩) n cap) l.length (rcs l)) : ∀ j, (h : j < l.length) → RAt w g (0 + j * 4) l[j] := by
  intro j hj
  have hc := h.cells (g := g) rfl
  have hg := fun i hi => rcs_get l j hj i hi
  refine ⟨?_, ?_, ?_, ?_⟩
  · have := hc (j * 4 + 0) _ ((hg 0 (by decide)).trans rfl); rw [add_at] at this; exact this
  · have := hc (j * 4 + 1) _ ((hg 1 (by decide)).trans rfl); rw [add_at] at this; exact this
  · have := hc (j * 4 + 2) _ ((hg 2 (by decide)).trans rfl); rw [add_at] at this; exact this
  · have := hc (j * 4 + 3) _ ((hg 3 (by decide)).trans rfl); rw [add_at] at this; exact this
theorem row_rd {w : World} {base : Nat} {v : Value} {l : List Rec} (h : w.ownsRow base 31 4 v l.length (rcs l)) : RdR w v l := by
  have hl := h.lt
  have h' := h
  rcases h.2 with ⟨rfl, h0⟩ | ⟨g, cap, cur, rfl, _⟩
  · exact .inl ⟨_, _, rfl, List.eq_nil_of_length_eq_zero h0⟩
  · exact .inr ⟨g, 0, cap, rfl, (hl g rfl).2, row_rat h'⟩
theorem RAt.upd {S : Nat → Prop} {w w' : World} {b o : Nat} {r : Rec} (h : RAt w b o r) (u : Upd S w w') (hb : b < w.heap.size) (hS : ¬ S b) : RAt w' b o r := by
  have e := u.block b hb hS
  exact ⟨(World.cell?_of_block (a := ⟨b, o, none⟩) e).trans h.1, (World.cell?_of_block (a := ⟨b, o + 1, none⟩) e).trans h.2.1, (World.cell?_of_block (a := ⟨b, o + 2, none⟩) e).trans h.2.2.1, (World.cell?_of_block (a := ⟨b, o + 3, none⟩) e).trans h.2.2.2⟩
theorem RdR.upd {S : Nat → Prop} {w w' : World} {v : Value} {l : List Rec} (h : RdR w v l) (u : Upd S w w') (hS : ∀ k, v.ownBlock = some k → ¬ S k) : RdR w' v l := by
  rcases h with h | ⟨b, off, cap, rfl, hb, hc⟩
  · exact .inl h
  · exact .inr ⟨b, off, cap, rfl, Nat.lt_of_lt_of_le hb u.size, fun j hj => (hc j hj).upd u hb (hS b rfl)⟩
theorem RdR.below {w w' : World} {v : Value} {l : List Rec} (h : RdR w v l) (u : Below w.heap.size w w') : RdR w' v l := h.upd (S := Non) (Upd.ofBelow u) (fun _ _ hh => hh)
theorem RdR.len {w : World} {v : Value} {l : List Rec} (h : RdR w v l) : ∃ a c, v = .slice a l.length c := by
  rcases h with ⟨a, c, rfl, rfl⟩ | ⟨b, off, cap, rfl, _⟩
  · exact ⟨a, c, rfl⟩
  · exact ⟨_, _, rfl⟩
theorem info31 : (Try.prog.info? 31).map (fun i => (i.zero, i.size, i.bytes)) = some (some (.agg #[.int .u32 0, .int .i64 0, .string ⟨#[]⟩, .string ⟨#[]⟩]), 4, 48) := by kernel_rfl
/-- append of records onto a row of records. -/
theorem run_append_rows {w : World} {base : Nat} {rv sv : Value} {rs l : List Rec} (h : w.ownsRow base 31 4 rv rs.length (rcs rs)) (hbase : base ≤ w.heap.size) (hs : RdR w sv l) (ty : TypeId) (hn : (rs.length + l.length) * 48 ≤ 140737488355328) :
    ∃ v' w', (Builtin.append_ #[23, 23] ty #[rv, sv]).run Try.prog w = .ok v' w' ∧ w'.ownsRow base 31 4 v' (rs ++ l).length (rcs (rs ++ l)) ∧ w.grownBy w' rv.ownBlock ∧ (v'.ownBlock = rv.ownBlock ∨ v'.ownBlock = some w.heap.size) := by
  obtain ⟨i0, hi, hz0, hz1, hz2⟩ := info_parts info31
  rcases hs with ⟨a, c, rfl, rfl⟩ | ⟨b, off, cap, rfl, hb, hc⟩
  · rcases h.2 with ⟨rfl, h0⟩ | ⟨g, cap, cur, rfl, hb, hg, h2, h3, h4, h5⟩
    · refine ⟨.slice none 0 0, w, ?_, by rw [List.append_nil]; exact h, ⟨rfl, rfl, rfl, Nat.le_refl _, fun _ _ _ => rfl⟩, .inl rfl⟩
      cases a with
      | none => exact run_append_nothing (P := Try.prog) w 23 23 ty 31 i0 Try.underlying23 hi none 0 0 (Nat.le_refl 0) _ (Src.ofNil w Try.underlying23 c)
      | some x => exact run_append_nothing (P := Try.prog) w 23 23 ty 31 i0 Try.underlying23 hi none 0 0 (Nat.le_refl 0) _ (Src.ofSlice w Try.underlying23 x 0 c [] (by simp) (by simp) (by simp))
    · refine ⟨_, w, ?_, by rw [List.append_nil]; exact h, ⟨rfl, rfl, rfl, Nat.le_refl _, fun _ _ _ => rfl⟩, .inl rfl⟩
      cases a with
      | none => exact run_append_nothing (P := Try.prog) w 23 23 ty 31 i0 Try.underlying23 hi (some ⟨g, 0, none⟩) rs.length cap h2 _ (Src.ofNil w Try.underlying23 c)
      | some x => exact run_append_nothing (P := Try.prog) w 23 23 ty 31 i0 Try.underlying23 hi (some ⟨g, 0, none⟩) rs.length cap h2 _ (Src.ofSlice w Try.underlying23 x 0 c [] (by simp) (by simp) (by simp))
  · obtain ⟨v', w', hr, h2, h3, _, h5⟩ := run_append_own_at (P := Try.prog) w base 23 ty 31 i0 _ 4 48 Try.underlying23 hi hz0 hz1 hz2 rfl (by decide) rv rs.length (rcs rs) h ⟨b, off, none⟩ l.length cap (rcs l) (rcs_len l) (rat_cells hc) (rcs_one l) (by unfold maxLen; omega) hn hbase
    refine ⟨v', w', hr, ?_, h3, h5⟩
    rw [rcs_app, List.length_append]
    exact h2
/-- At a plain region's list. -/
theorem wpList_append_rows {w : World} {base : Nat} {rv sv : Value} {rs l : List Rec} {ops : Array Oper} {rest : List Oper} {o : Oper} {a : Act} {Q : Exit → Act → World → Prop} (hgd : o.guard = none) (s x : Operand)
    (ho : o.op = .call { callee := .builtin .append, args := #[s, x], argTypes := #[23, 23] }) (hs : a.eval s = rv) (hx : a.eval x = sv) (h : w.ownsRow base 31 4 rv rs.length (rcs rs)) (hbase : base ≤ w.heap.size) (hr : RdR w sv l) (hn : (rs.length + l.length) * 48 ≤ 140737488355328)
    (hK : ∀ v' w', w'.ownsRow base 31 4 v' (rs ++ l).length (rcs (rs ++ l)) → w.grownBy w' rv.ownBlock → (v'.ownBlock = rv.ownBlock ∨ v'.ownBlock = some w.heap.size) → wpList Try.prog ops Q rest (a.put o.dst v') w') : wpList Try.prog ops Q (o :: rest) a w := by
  refine wpList_plain hgd fun K' hKK => ?_
  obtain ⟨v', w', hrun, h2, h3, h4⟩ := run_append_rows h hbase hr o.type hn
  unfold Oper.wp execOp
  simp only [ho, resolve, invoke, builtin, Sem.run_bind, Sem.run_pure, Result.andThen_ok, List.map_toArray, List.map_cons, List.map_nil, hs, hx, hrun]
  exact hKK _ _ (hK v' w' h2 h3 h4)
/-- How many bytes records have. -/
def szs : List Rec → Nat
  | [] => 0
  | r :: l => rsz r.fam r.kind r.key r.val + szs l
theorem szs_app (l m : List Rec) : szs (l ++ m) = szs l + szs m := by
  induction l with
  | nil => simp [szs]
  | cons r l ih => simp [szs, ih]; omega
/-- A batch's three cells. -/
def btC (rv : Value) (n : Int) (mv : Value) : List Value := [rv, .int .i64 n, mv]
def imc (ms : List Nat) : List Value := ms.map fun (m : Nat) => .int .i64 (m : Int)
/-- Block b is a batch. -/
structure Bt (w : World) (b : Nat) (rv mv : Value) (rs : List Rec) (ms : List Nat) : Prop where
  blk : Blk w b 43 (btC rv (szs rs) mv)
  row : w.ownsRow 0 31 4 rv rs.length (rcs rs)
  marks : w.ownsRow 0 3 1 mv ms.length (imc ms)
theorem Bt.upd {S : Nat → Prop} {w w' : World} {b : Nat} {rv mv : Value} {rs : List Rec} {ms : List Nat} (h : Bt w b rv mv rs ms) (u : Upd S w w') (hb : ¬ S b) (h1 : ∀ k, rv.ownBlock = some k → ¬ S k) (h2 : ∀ k, mv.ownBlock = some k → ¬ S k) : Bt w' b rv mv rs ms :=
  ⟨h.blk.upd u hb, row_upd h.row u h1, row_upd h.marks u h2⟩
theorem Bt.below {w w' : World} {b : Nat} {rv mv : Value} {rs : List Rec} {ms : List Nat} (h : Bt w b rv mv rs ms) (u : Below w.heap.size w w') : Bt w' b rv mv rs ms :=
  h.upd (S := Non) (Upd.ofBelow u) (fun hh => hh) (fun _ _ hh => hh) (fun _ _ hh => hh)
theorem Bt.new (w : World) : Bt (w.alloc (.cells #[.slice none 0 0, .int .i64 0, .slice none 0 0] 43)) w.heap.size (.slice none 0 0) (.slice none 0 0) [] [] :=
  ⟨Blk.new w 43 _, World.ownsRow_nil _ _ _ _, World.ownsRow_nil _ _ _ _⟩
end Go.Proofs.Ytkpijoogaicodaa
