/-
  Which versions can be: what both sides answer, as one function; a set of numbers as a map in memory.
-/
import Derived.Test.YtkmpcheamdadcaaVc
import Derived.Maps.OwnSet
import Derived.Maps.RangeWalk
namespace Go.Proofs.Ytkmpcheamdadcaa
open Go.RowKit Go.Maps
set_option linter.unusedVariables false
set_option linter.unusedSimpArgs false
/-- What is wrong with a table behind others: prev just ahead of it in its level, seen the numbers ahead. -/
def badF (how : Int) (lv : Nat) (prev : Option Fi) (seen : List Int) (f : Fi) : Int :=
  if fchk f ≠ 0 then fchk f else if f.num ∈ seen then 7 else if 0 < ordF how f.sm f.la then 1 else
  match prev with
  | none => 0
  | some a => if folB how lv a f then 0 else 130
def runF (how : Int) (lv : Nat) : Option Fi → List Int → List Fi → Int × List Int
  | _, s, [] => (0, s)
  | p, s, f :: l => if badF how lv p s f ≠ 0 then (badF how lv p s f, s) else runF how lv (some f) (s ++ [f.num]) l
def runL (how : Int) (L : Nat → List Fi) : Nat → Nat → List Int → Int
  | 0, _, _ => 0
  | m + 1, lv, s => if (runF how lv none s (L lv)).1 ≠ 0 then (runF how lv none s (L lv)).1 else runL how L m (lv + 1) (runF how lv none s (L lv)).2
/-- The rest of a run, from within a level on. -/
def runC (how : Int) (L : Nat → List Fi) (m lv : Nat) (p : Option Fi) (s : List Int) (l : List Fi) : Int :=
  if (runF how lv p s l).1 ≠ 0 then (runF how lv p s l).1 else runL how L m (lv + 1) (runF how lv p s l).2
theorem runL_succ (how : Int) (L : Nat → List Fi) (m lv : Nat) (s : List Int) : runL how L (m + 1) lv s = runC how L m lv none s (L lv) := rfl
theorem runC_nil (how : Int) (L : Nat → List Fi) (m lv : Nat) (p : Option Fi) (s : List Int) : runC how L m lv p s [] = runL how L m (lv + 1) s := by simp [runC, runF]
theorem runC_bad {how : Int} {L : Nat → List Fi} {m lv : Nat} {p : Option Fi} {s : List Int} {f : Fi} {l : List Fi} (h : badF how lv p s f ≠ 0) : runC how L m lv p s (f :: l) = badF how lv p s f := by
  simp [runC, runF, h]
theorem runC_good {how : Int} {L : Nat → List Fi} {m lv : Nat} {p : Option Fi} {s : List Int} {f : Fi} {l : List Fi} (h : badF how lv p s f = 0) : runC how L m lv p s (f :: l) = runC how L m lv (some f) (s ++ [f.num]) l := by
  simp [runC, runF, h]
def chkE (how : Int) (L : Nat → List Fi) : Int := if isHowB how then if 1024 < cntV L 7 then 2 else runL how L 7 0 [] else 1
/-- The table just ahead of a place. -/
def prv (l : List Fi) (i : Nat) : Option Fi := if i = 0 then none else l[i - 1]?
theorem prv_succ {l : List Fi} {i : Nat} {f : Fi} (h : l[i]? = some f) : prv l (i + 1) = some f := by simp [prv, h]
theorem drop_get {α : Type} {l : List α} {i : Nat} {x : α} (h : l[i]? = some x) : l.drop i = x :: l.drop (i + 1) := by
  obtain ⟨h1, rfl⟩ := List.getElem?_eq_some_iff.1 h
  exact List.drop_eq_getElem_cons h1

theorem law23 : Keyed Try.prog 23 := int_keyed Try.underlying23
def U64 (k : Int) : Prop := 0 ≤ k ∧ k < 18446744073709551616
theorem wf23 {k : Int} (h : U64 k) : (Lit.int .u64 k).wf = true := by
  unfold U64 at h
  simp [Lit.wf, IntKind.min, IntKind.max, IntKind.bits, IntKind.signed]
  omega
theorem key23 {k : Int} (h : U64 k) : keyOf Try.prog 23 (.int .u64 k) = some (.int .u64 k) := keyOf_int_mk Try.underlying23 (wf23 h)
theorem zero98 (w : World) : (zeroValue 98).run Try.prog w = .ok (.agg #[]) w := by kernel_rfl
theorem isKeyU (k : Int) : WideAt.IsKeyLit (.int .u64 k) := by trivial
/-- Block b is a set of the numbers of s. -/
structure US (w : World) (b : Nat) (s : List Int) : Prop where
  own : ∃ D, w.ownsMap Try.prog 23 (unitElem (H := Unit)) b s.length D ∧ ∀ k, Maps.has D (.int .u64 k) = decide (k ∈ s)
theorem US.look {w : World} {b : Nat} {s : List Int} (h : US w b s) {k : Int} (hk : U64 k) :
    (Instr.lookup 96 (.map (some b)) (.int .u64 k) true).run Try.prog w = .ok (.tuple #[.agg #[], .bool (decide (k ∈ s))]) w := by
  obtain ⟨D, ho, hh⟩ := h.own
  obtain ⟨v, ps, hr, hv⟩ := ho.look_ok law23 Try.underlying96 (zero98 w) unitElem_mk (key23 hk)
  obtain ⟨rfl, _⟩ := unitElem_inv hv
  rw [hr, hh]
theorem US.upd {S : Nat → Prop} {w w' : World} {b : Nat} {s : List Int} (h : US w b s) (u : Upd S w w') (hb : ¬ S b) : US w' b s := by
  obtain ⟨D, hn, hh⟩ := h.own
  have hl := hn.lt
  obtain ⟨es, clock, hb', r⟩ := hn
  exact ⟨D, ⟨es, clock, (u.block b hl hb).trans hb', r⟩, hh⟩
theorem US.below {w w' : World} {b : Nat} {s : List Int} (h : US w b s) (hb : Below w.heap.size w w') : US w' b s := h.upd (S := Non) (Upd.ofBelow hb) (fun h => h)
theorem US.lt {w : World} {b : Nat} {s : List Int} (h : US w b s) : b < w.heap.size := by obtain ⟨D, ho, _⟩ := h.own; exact ho.lt
theorem US.made (w : World) : US (w.alloc (.map #[] 0)) w.heap.size [] := ⟨.map [], World.ownsMap_made w Try.prog 23 _, fun k => rfl⟩
theorem US.store {w : World} {b : Nat} {s : List Int} (h : US w b s) (hn : s.length < maxLen) {k : Int} (hk : U64 k) :
    ∃ w', (Instr.mapUpdate 96 (.map (some b)) (.int .u64 k) (.agg #[])).run Try.prog w = .ok () w' ∧ US w' b (s ++ [k]) ∧ w.grownBy w' (some b) := by
  obtain ⟨D, ho, hh⟩ := h.own
  obtain ⟨w', hr, ho', hg⟩ := ho.store law23 Try.underlying96 hn (key23 hk) unitElem_mk
  refine ⟨w', hr, ⟨_, by rw [List.length_append]; exact ho', ?_⟩, hg.grown⟩
  intro x
  by_cases e : x = k
  · subst e
    rw [has_put_same ho.isMap (isKeyU _)]; simp
  · rw [has_put_other (by simpa using e), hh]; simp [e]
end Go.Proofs.Ytkmpcheamdadcaa
