/-
  A part as the reference writes it: a byte, and numbers behind it, in whatever order what they are taken from was made.
-/
import Derived.Test.YtkmpcheamdadcaaZg
namespace Go.Proofs.Ytkmpcheamdadcaa
open Go.RowKit
set_option linter.unusedVariables false
set_option linter.unusedSimpArgs false
theorem step_appb {v u : Value} {tx : TypeId} {Rr : Value → World → Prop} {w : World} {ops : Array Oper} {o : Oper} {a : Act} {K : Act → World → Prop} {Q : Exit → Act → World → Prop} {Ex : Prop} (hgd : o.guard = none) {d : Nat} (hd : o.dst = some d) (s x : Operand)
    (ho : o.op = .call { callee := .builtin .append, args := #[s, x], argTypes := #[28, tx] }) (hs : a.eval s = v) (hx : a.eval x = u) (hrun : ∃ v' w', (Builtin.append_ #[28, tx] o.type #[v, u]).run Try.prog w = .ok v' w' ∧ Rr v' w')
    (hK : ∀ v' w', Rr v' w' → K (a.put (some d) v') w') :
    if Region.wanted o (yielded ops a.tmps) = true then Oper.wp Try.prog o a w K Q else Ex := by
  have hw : Region.wanted o (yielded ops a.tmps) = true := by simp [Region.wanted, hgd]
  rw [if_pos hw]
  obtain ⟨v', w', hr, h2⟩ := hrun
  unfold Oper.wp execOp
  simp only [ho, resolve, invoke, builtin, Sem.run_bind, Sem.run_pure, Result.andThen_ok, List.map_toArray, List.map_cons, List.map_nil, hs, hx, hr]
  have := hK v' w' h2
  rw [← hd] at this
  exact this
theorem blkb_src {W : World} {g : Nat} {p : Int} (h : Blk W g 5 [.int .u8 p]) : Src Try.prog 1 28 (.slice (some ⟨g, 0, none⟩) 1 1) [p].length (bc [p]) W := by
  refine Src.ofSlice W Try.underlying28 ⟨g, 0, none⟩ 1 1 (bc [p]) (by simp [bc]) ?_ (bc_one [p])
  intro j u hu
  rw [add_at, Nat.zero_add]
  exact h.cell1 j u hu
theorem appb_run {W : World} {base : Nat} {v : Value} {l : List Int} (h : OwnB W base v l) (hb : base ≤ W.heap.size) {g : Nat} {p : Int} (hA : Blk W g 5 [.int .u8 p]) (hl : l.length ≤ 1000000000) (ty : TypeId) :
    ∃ v' w', (Builtin.append_ #[28, 28] ty #[v, .slice (some ⟨g, 0, none⟩) 1 1]).run Try.prog W = .ok v' w' ∧ AppB W w' base v v' (l ++ [p]) := by
  obtain ⟨i0, hi, hz0, hz1, hz2⟩ := info_parts info5
  obtain ⟨v', w', hr, h1, h2, h3⟩ := h.run_append 28 28 ty i0 Try.underlying28 hi hz0 hz1 hz2 _ [p] (blkb_src hA) hb (by simp; omega)
  exact ⟨v', w', hr, AppB.grow h1 h2 h3⟩
/-- Bytes under way, beside the box of an edit and one block more. -/
structure Ef (B : Nat) (t : TypeId) (ct : List Value) (w W : World) (P : En) (e : Ed) (v : Value) (l : List Int) : Prop where
  es : Es w W P e v l
  f : Blk W B t ct
  n : v.ownBlock ≠ some B
section
variable {B : Nat} {t : TypeId} {ct : List Value} {w W W' : World} {P : En} {e : Ed} {v v' : Value} {l l' : List Int}
theorem Ef.own (h : Ef B t ct w W P e v l) : OwnB W (w.heap.size + 1) v l := h.es.own
theorem Ef.lt (h : Ef B t ct w W P e v l) : w.heap.size + 1 ≤ W.heap.size := h.es.lt
theorem Ef.below (h : Ef B t ct w W P e v l) (hb : Below W.heap.size W W') : Ef B t ct w W' P e v l := ⟨h.es.below hb, h.f.upd (S := Non) (Upd.ofBelow hb) (fun h => h), h.n⟩
theorem Ef.app (h : Ef B t ct w W P e v l) (a : AppB W W' (w.heap.size + 1) v v' l') : Ef B t ct w W' P e v' l' :=
  ⟨h.es.app a, h.f.upd a.upd h.n, fun e => by
    rcases a.loc with e1 | e1
    · rw [e1] at e; exact h.n e
    · have := e1 _ e
      have := h.f.lt
      omega⟩
theorem Es.ef (h : Es w W P e v l) : Ef w.heap.size 27 (edA P e).toList w W P e v l := ⟨h, h.x, fun e => by have := (h.own.lt _ e).1; omega⟩
end
section
variable {B : Nat} {t : TypeId} {ct : List Value} {w wc : World} {P : En} {e : Ed} {v : Value} {l : List Int}
theorem regA (E : Ef B t ct w wc P e v l) (p : Int) (hl : l.length ≤ 1000000000) (ty : TypeId) :
    ∃ v' w', (Builtin.append_ #[28, 28] ty #[v, .slice (some ⟨wc.heap.size, 0, none⟩) 1 1]).run Try.prog (wc.alloc (.cells #[.int .u8 p] 5)).drew = .ok v' w' ∧ Ef B t ct w w' P e v' (l ++ [p]) := by
  have E1 : Ef B t ct w (wc.alloc (.cells #[.int .u8 p] 5)).drew P e v l := E.below (al1 _ _).drew
  obtain ⟨v', w', hr, A⟩ := appb_run E1.own E1.lt (Blk.new wc 5 [.int .u8 p]).drew hl ty
  exact ⟨v', w', hr, E1.app A⟩
theorem regB (E : Ef B t ct w wc P e v l) (p : Int) (cs : List Value) (hl : l.length ≤ 1000000000) (ty : TypeId) :
    ∃ v' w', (Builtin.append_ #[28, 28] ty #[v, .slice (some ⟨wc.heap.size, 0, none⟩) 1 1]).run Try.prog ((wc.alloc (.cells #[.int .u8 p] 5)).alloc (.cells cs.toArray 23)).drew = .ok v' w' ∧ Ef B t ct w w' P e v' (l ++ [p]) ∧ Blk w' (wc.heap.size + 1) 23 cs ∧ v'.ownBlock ≠ some (wc.heap.size + 1) := by
  have E1 : Ef B t ct w ((wc.alloc (.cells #[.int .u8 p] 5)).alloc (.cells cs.toArray 23)).drew P e v l := E.below (bal0 (al1 _ _)).drew
  obtain ⟨v', w', hr, A⟩ := appb_run E1.own E1.lt ((Blk.new wc 5 [.int .u8 p]).alloc _).drew hl ty
  have hB : Blk ((wc.alloc (.cells #[.int .u8 p] 5)).alloc (.cells cs.toArray 23)).drew (wc.heap.size + 1) 23 cs := by
    have := Blk.new (wc.alloc (.cells #[.int .u8 p] 5)) 23 cs
    rw [World.size_alloc] at this
    exact this
  have hlt : ∀ k, v.ownBlock = some k → k < wc.heap.size := fun k hk => (E.own.lt k hk).2
  refine ⟨v', w', hr, E1.app A, hB.upd A.upd (fun h => by have := hlt _ h; omega), fun h => ?_⟩
  rcases A.loc with e | e
  · rw [e] at h; have := hlt _ h; omega
  · have := e _ h
    simp at this
    omega
theorem regC (E : Ef B t ct w wc P e v l) (p : Int) (cs : List Value) (hl : l.length ≤ 1000000000) (ty : TypeId) :
    ∃ v' w', (Builtin.append_ #[28, 28] ty #[v, .slice (some ⟨wc.heap.size + 1, 0, none⟩) 1 1]).run Try.prog ((wc.alloc (.cells cs.toArray 23)).alloc (.cells #[.int .u8 p] 5)).drew = .ok v' w' ∧ Ef B t ct w w' P e v' (l ++ [p]) ∧ Blk w' wc.heap.size 23 cs ∧ v'.ownBlock ≠ some wc.heap.size := by
  have E1 : Ef B t ct w ((wc.alloc (.cells cs.toArray 23)).alloc (.cells #[.int .u8 p] 5)).drew P e v l := E.below (bal0 (al1 _ _)).drew
  have hA : Blk ((wc.alloc (.cells cs.toArray 23)).alloc (.cells #[.int .u8 p] 5)).drew (wc.heap.size + 1) 5 [.int .u8 p] := by
    have := Blk.new (wc.alloc (.cells cs.toArray 23)) 5 [.int .u8 p]
    rw [World.size_alloc] at this
    exact this
  obtain ⟨v', w', hr, A⟩ := appb_run E1.own E1.lt hA hl ty
  have hB : Blk ((wc.alloc (.cells cs.toArray 23)).alloc (.cells #[.int .u8 p] 5)).drew wc.heap.size 23 cs := ((Blk.new wc 23 cs).alloc _).drew
  have hlt : ∀ k, v.ownBlock = some k → k < wc.heap.size := fun k hk => (E.own.lt k hk).2
  refine ⟨v', w', hr, E1.app A, hB.upd A.upd (fun h => by have := hlt _ h; omega), fun h => ?_⟩
  rcases A.loc with e | e
  · rw [e] at h; have := hlt _ h; omega
  · have := e _ h
    simp at this
    omega
theorem nums1 (E : Ef B t ct w wc P e v l) (ns : List Int) {g : Nat} (hB : Blk wc g 23 (cls uc ns)) (hg : v.ownBlock ≠ some g) (hn : ∀ n ∈ ns, 0 ≤ n ∧ n < 18446744073709551616) (hl : l.length ≤ 1000000000) (hnl : ns.length ≤ 100) :
    Calls Try.prog 37 #[v, .slice (some ⟨g, 0, none⟩) ns.length ns.length] wc fun en w' => ∃ v', en = .returned v' ∧ Ef B t ct w w' P e v' (l ++ nbs ns) :=
  (numbers_new E.own E.lt ns hB hg hn hl hnl _).mono fun en w' ⟨v', h1, h2⟩ => ⟨v', h1, E.app h2⟩
theorem nums2 (E : Ef B t ct w wc P e v l) (ns : List Int) (hn : ∀ n ∈ ns, 0 ≤ n ∧ n < 18446744073709551616) (hl : l.length ≤ 1000000000) (hnl : ns.length ≤ 100) :
    Calls Try.prog 37 #[v, .slice (some ⟨wc.heap.size, 0, none⟩) ns.length ns.length] (wc.alloc (.cells (cls uc ns).toArray 23)) fun en w' => ∃ v', en = .returned v' ∧ Ef B t ct w w' P e v' (l ++ nbs ns) :=
  nums1 (E.below (al1 _ _)) ns (Blk.new wc 23 (cls uc ns)) (fun h => by have := (E.own.lt _ h).2; omega) hn hl hnl
theorem esal (E : Ef B t ct w wc P e v l) {o : Obj} : Ef B t ct w (wc.alloc o) P e v l := E.below (al1 _ _)
theorem nums1_1 (E : Ef B t ct w wc P e v l) (n : Int) {g : Nat} (hB : Blk wc g 23 [.int .u64 n]) (hg : v.ownBlock ≠ some g) (hn : 0 ≤ n ∧ n < 18446744073709551616) (hl : l.length ≤ 1000000000) :
    Calls Try.prog 37 #[v, .slice (some ⟨g, 0, none⟩) 1 1] wc fun en w' => ∃ v', en = .returned v' ∧ Ef B t ct w w' P e v' (l ++ nbs [n]) :=
  nums1 E [n] hB hg (fun x hx => by simp at hx; subst hx; exact hn) hl (by simp)
theorem nums2_1 (E : Ef B t ct w wc P e v l) (n : Int) (hn : 0 ≤ n ∧ n < 18446744073709551616) (hl : l.length ≤ 1000000000) :
    Calls Try.prog 37 #[v, .slice (some ⟨wc.heap.size, 0, none⟩) 1 1] (wc.alloc (.cells #[.int .u64 n] 23)) fun en w' => ∃ v', en = .returned v' ∧ Ef B t ct w w' P e v' (l ++ nbs [n]) :=
  nums2 E [n] (fun x hx => by simp at hx; subst hx; exact hn) hl (by simp)
theorem nums1_2 (E : Ef B t ct w wc P e v l) (n m : Int) {g : Nat} (hB : Blk wc g 23 [.int .u64 n, .int .u64 m]) (hg : v.ownBlock ≠ some g) (hn : 0 ≤ n ∧ n < 18446744073709551616) (hm : 0 ≤ m ∧ m < 18446744073709551616) (hl : l.length ≤ 1000000000) :
    Calls Try.prog 37 #[v, .slice (some ⟨g, 0, none⟩) 2 2] wc fun en w' => ∃ v', en = .returned v' ∧ Ef B t ct w w' P e v' (l ++ nbs [n, m]) :=
  nums1 E [n, m] hB hg (fun x hx => by simp at hx; rcases hx with rfl | rfl <;> assumption) hl (by simp)
theorem nums2_2 (E : Ef B t ct w wc P e v l) (n m : Int) (hn : 0 ≤ n ∧ n < 18446744073709551616) (hm : 0 ≤ m ∧ m < 18446744073709551616) (hl : l.length ≤ 1000000000) :
    Calls Try.prog 37 #[v, .slice (some ⟨wc.heap.size, 0, none⟩) 2 2] (wc.alloc (.cells #[.int .u64 n, .int .u64 m] 23)) fun en w' => ∃ v', en = .returned v' ∧ Ef B t ct w w' P e v' (l ++ nbs [n, m]) :=
  nums2 E [n, m] (fun x hx => by simp at hx; rcases hx with rfl | rfl <;> assumption) hl (by simp)
theorem nums1_5 (E : Ef B t ct w wc P e v l) (n m a b c : Int) {g : Nat} (hB : Blk wc g 23 [.int .u64 n, .int .u64 m, .int .u64 a, .int .u64 b, .int .u64 c]) (hg : v.ownBlock ≠ some g) (hn : 0 ≤ n ∧ n < 18446744073709551616) (hm : 0 ≤ m ∧ m < 18446744073709551616) (ha : 0 ≤ a ∧ a < 18446744073709551616) (hb : 0 ≤ b ∧ b < 18446744073709551616) (hc : 0 ≤ c ∧ c < 18446744073709551616) (hl : l.length ≤ 1000000000) :
    Calls Try.prog 37 #[v, .slice (some ⟨g, 0, none⟩) 5 5] wc fun en w' => ∃ v', en = .returned v' ∧ Ef B t ct w w' P e v' (l ++ nbs [n, m, a, b, c]) :=
  nums1 E [n, m, a, b, c] hB hg (fun x hx => by simp at hx; rcases hx with rfl | rfl | rfl | rfl | rfl <;> assumption) hl (by simp)
theorem nums2_5 (E : Ef B t ct w wc P e v l) (n m a b c : Int) (hn : 0 ≤ n ∧ n < 18446744073709551616) (hm : 0 ≤ m ∧ m < 18446744073709551616) (ha : 0 ≤ a ∧ a < 18446744073709551616) (hb : 0 ≤ b ∧ b < 18446744073709551616) (hc : 0 ≤ c ∧ c < 18446744073709551616) (hl : l.length ≤ 1000000000) :
    Calls Try.prog 37 #[v, .slice (some ⟨wc.heap.size, 0, none⟩) 5 5] (wc.alloc (.cells #[.int .u64 n, .int .u64 m, .int .u64 a, .int .u64 b, .int .u64 c] 23)) fun en w' => ∃ v', en = .returned v' ∧ Ef B t ct w w' P e v' (l ++ nbs [n, m, a, b, c]) :=
  nums2 E [n, m, a, b, c] (fun x hx => by simp at hx; rcases hx with rfl | rfl | rfl | rfl | rfl <;> assumption) hl (by simp)
end
end Go.Proofs.Ytkmpcheamdadcaa
