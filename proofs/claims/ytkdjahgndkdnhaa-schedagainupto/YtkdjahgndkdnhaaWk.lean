import Derived.Test.YtkdjahgndkdnhaaWj
import Derived.Deep.AppendSrc
import Derived.Deep.Upon
namespace Go.Proofs.Ytkdjahgndkdnhaa
open Go.RowKit Go.Maps Go.Shelf
set_option linter.unusedVariables false
set_option linter.unusedSimpArgs false
theorem iz_len (l : List Int) : (iz l).length = l.length := by simp [iz]
/-- ints of two rows that read the same and lie in two blocks. -/
theorem ints_rows {W : World} {Nv Nu : Nat} {L : List Int} {a a' : Option Addr} {c c' : Nat} (hv : W.ownsRow Nv 3 1 (.slice a L.length c) L.length (iz L)) (hu : W.ownsRow Nu 3 1 (.slice a' L.length c') L.length (iz L))
    (hd : ∀ k, (Value.slice a L.length c).ownBlock = some k → (Value.slice a' L.length c').ownBlock ≠ some k) (hl : L.length ≤ 140737488351232) :
    Calls Try.prog 18 #[.slice a L.length c, .slice a' L.length c'] W fun e w' => e = .returned (.bool true) ∧ Upd (fun k => (Value.slice a L.length c).ownBlock = some k) W w' := by
  have hu' : ∀ (g : Nat), (∀ k, (Value.slice a' L.length c').ownBlock = some k → k ≠ g) → ∀ (j : Nat) (x : Int), L[j]? = some x → ∃ g' o', a' = some ⟨g', o', none⟩ ∧ g' ≠ g ∧ g' < W.heap.size ∧ W.cell? ⟨g', o' + j, none⟩ = some (.int .i64 x) := by
    intro g hg j x hx
    have hj : j < L.length := (List.getElem?_eq_some_iff.1 hx).1
    rcases hu.2 with ⟨e, h0⟩ | ⟨g', cap, cur, e, _, hgg, _⟩
    · omega
    · cases e
      refine ⟨g', 0, rfl, hg g' rfl, (Array.getElem?_eq_some_iff.1 hgg).1, ?_⟩
      have := hu.cells (g := g') rfl j (.int .i64 x) (by simp [iz, hx])
      rw [add_at] at this
      simpa using this
  rcases hv.2 with ⟨e, h0⟩ | ⟨g, cap, cur, e, _, hgg, hle, hmax, hsz, hcur⟩
  · have hnil : L = [] := List.eq_nil_of_length_eq_zero h0
    refine (ints_yes (g := W.heap.size) (t := 3) (.inl hnil) (hu' W.heap.size (fun k hk => by have := (hu.lt k hk).2; omega)) hl).mono ?_
    rintro e w' ⟨rfl, hU⟩
    exact ⟨rfl, hU.mono (fun k hk e => by subst e; omega)⟩
  · cases e
    refine (ints_yes (g := g) (t := 3) (.inr ⟨cur.toList, rfl, by unfold Blk; simpa using hgg, fun j x hx => ?_⟩) (hu' g (fun k hk e => hd g rfl (by rw [← e]; exact hk))) hl).mono ?_
    · have hj : j < L.length := (List.getElem?_eq_some_iff.1 hx).1
      have e1 : (cur.toList.take (L.length * 1))[j]? = (iz L)[j]? := by rw [hcur]
      rw [List.getElem?_take, if_pos (by omega)] at e1
      rw [e1]
      simp [iz, hx]
    · rintro e w' ⟨rfl, hU⟩
      exact ⟨rfl, hU.mono (fun k hk e => by subst e; rfl)⟩
/-- What may go, as numbers. -/
def mayL (s : MS) : List Int := (nums (mayB s.H s.st) 0 s.ts).map fun (n : Nat) => (n : Int)
theorem mayL_len (s : MS) : (mayL s).length = (nums (mayB s.H s.st) 0 s.ts).length := by simp [mayL]
theorem mayL_like {s u : MS} (h : s.bare = u.bare) : mayL s = mayL u := by
  have e1 : bares s.ts = bares u.ts := congrArg MS.ts h
  have e2 : s.H = u.H := (congrArg MS.H h : s.bare.H = u.bare.H)
  have e3 : s.st = u.st := (congrArg MS.st h : s.bare.st = u.bare.st)
  unfold mayL
  rw [← may_bare s.H s.st s.ts, ← may_bare u.H u.st u.ts, e1, e2, e3]
theorem am_enabled {w W : World} {b : Nat} {rv : Value} {m : Nat} {ps : List Nat} {xb : Nat} {dv tv : Value} {M : Nat} {q : Nat → Nat} {lv : Nat → Value} {ls : Nat → List (Int × Int)} {n tot : Nat} {s : MS} (h : Am w W b rv m ps xb dv tv M q lv ls n tot s) (hn : n ≤ 64) (hst : s.st < 3000000) {L : List Int} (hL : mayL s = L) :
    Calls Try.prog 19 #[ptr b] W fun e w' => ∃ a cp, e = .returned (.slice a L.length cp) ∧ w'.ownsRow W.heap.size 3 1 (.slice a L.length cp) L.length (iz L) ∧ Below W.heap.size W w' := by
  subst hL
  refine (enabled_any h.ps.sc (by rw [h.ps.lps]; exact hn) (by omega) (Ap.okl h)).mono ?_
  rintro e w' ⟨a, cp, rfl, hr, hB⟩
  rw [mayL_len]
  refine ⟨a, cp, rfl, ?_, hB⟩
  have e : iz (mayL s) = ic (nums (mayB s.H s.st) 0 s.ts) := by simp [iz, mayL, ic]
  rw [e]
  exact hr
/-- A copy of a row of ints, at a step of a region that draws its order. -/
theorem step_copy {ops : Array Oper} {o : Oper} {a : Act} {w : World} {K : Act → World → Prop} {Q : Exit → Act → World → Prop} {Ex : Prop} (hw : Region.wanted o (yielded ops a.tmps) = true) {d : Nat} (hd : o.dst = some d) (s x : Operand)
    (ho : o.op = .call { callee := .builtin .append, args := #[s, x], argTypes := #[30, 30] }) {N g0 : Nat} (hs : a.eval s = .slice (some ⟨g0, 0, none⟩) 0 0) (hown : w.ownsRow N 3 1 (.slice (some ⟨g0, 0, none⟩) 0 0) 0 []) {tv : Value} {T : List Int} {M : Nat} (hx : a.eval x = tv) (hrow : w.ownsRow M 3 1 tv T.length (iz T)) (hl : T.length ≤ 1000000000000) (hN : N ≤ w.heap.size)
    (h : ∀ av cv w', w'.ownsRow N 3 1 (.slice av T.length cv) T.length (iz T) → w.grownBy w' (some g0) → K (a.put (some d) (.slice av T.length cv)) w') :
    if Region.wanted o (yielded ops a.tmps) = true then Oper.wp Try.prog o a w K Q else Ex := by
  rw [if_pos hw]
  have fin : ∀ av cv w', (Builtin.append_ #[30, 30] o.type #[.slice (some ⟨g0, 0, none⟩) 0 0, tv]).run Try.prog w = .ok (.slice av T.length cv) w' → w'.ownsRow N 3 1 (.slice av T.length cv) T.length (iz T) → w.grownBy w' (some g0) → Oper.wp Try.prog o a w K Q := by
    intro av cv w' hr h2 h3
    unfold Oper.wp execOp
    simp only [ho, resolve, invoke, builtin, Sem.run_bind, Sem.run_pure, Result.andThen_ok, List.map_toArray, List.map_cons, List.map_nil, hs, hx, hr]
    show K (a.put o.dst _) w'
    rw [hd]
    exact h av cv w' h2 h3
  rcases hrow.2 with ⟨rfl, h0⟩ | ⟨g, cap, cur, e, _⟩
  · have hnil : T = [] := List.eq_nil_of_length_eq_zero h0
    subst hnil
    obtain ⟨i0, hi, hz0, hz1, hz2⟩ := info_parts info3
    have hr := run_append_nothing (P := Try.prog) w 30 30 o.type 3 i0 Try.underlying30 hi (some ⟨g0, 0, none⟩) 0 0 (Nat.le_refl 0) (.slice none 0 0) (by rw [hz1]; exact Src.ofNil w Try.underlying30 0)
    exact fin _ _ _ hr hown ⟨rfl, rfl, rfl, Nat.le_refl _, fun _ _ _ => rfl⟩
  · obtain ⟨av, cv, w', hr, h2, h3, h5⟩ := many_run (T := []) o.type hown (p := ⟨g, 0, none⟩) (cap := cap) (ys := T) (by
      intro j y hy
      subst e
      exact hrow.cells (g := g) rfl j (.int .i64 y) (by simp [iz, hy])) (by simpa using hl) hN
    simp only [List.length_nil, Nat.zero_add, List.nil_append] at hr h2
    subst e
    exact fin av cv w' hr h2 h3
end Go.Proofs.Ytkdjahgndkdnhaa
