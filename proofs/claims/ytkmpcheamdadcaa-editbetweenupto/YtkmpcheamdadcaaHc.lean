/-
  A set of tables as a map in memory.
-/
import Derived.Test.YtkmpcheamdadcaaHb
import Derived.Test.YtkmpcheamdadcaaVd
namespace Go.Proofs.Ytkmpcheamdadcaa
open Go.RowKit Go.Maps
set_option linter.unusedVariables false
set_option linter.unusedSimpArgs false
theorem fv_inj {f g : Fi} (h : f.v = g.v) : f = g := by
  obtain ⟨n, s, ⟨u1, s1, k1⟩, ⟨u2, s2, k2⟩, e, r⟩ := f
  obtain ⟨n', s', ⟨u1', s1', k1'⟩, ⟨u2', s2', k2'⟩, e', r'⟩ := g
  simp only [Value.agg.injEq] at h
  simp at h
  obtain ⟨rfl, rfl, rfl, rfl, rfl, rfl, rfl, rfl, rfl, rfl⟩ := h
  rfl
theorem key_of {f : Fi} {l : Lit} (h : keyOf Try.prog 50 f.v = some l) : WideAt.IsKeyLit l := law50.key h
theorem key_inj {f g : Fi} {l : Lit} (h : keyOf Try.prog 50 f.v = some l) (k : keyOf Try.prog 50 g.v = some l) : f = g := fv_inj (law50.inj h k)
/-- Block b is a set of the tables of s. -/
structure FS (w : World) (b : Nat) (s : List Fi) : Prop where
  own : ∃ D, w.ownsMap Try.prog 50 (unitElem (H := Unit)) b s.length D ∧ ∀ f l, keyOf Try.prog 50 f.v = some l → Maps.has D l = hasB s f
theorem FS.look {w : World} {b : Nat} {s : List Fi} (h : FS w b s) {f : Fi} (hf : FKy f) :
    (Instr.lookup 131 (.map (some b)) f.v true).run Try.prog w = .ok (.tuple #[.agg #[], .bool (hasB s f)]) w := by
  obtain ⟨D, ho, hh⟩ := h.own
  obtain ⟨l, hl⟩ := key50 hf
  obtain ⟨v, ps, hr, hv⟩ := ho.look_ok law50 Try.underlying131 (zero98 w) unitElem_mk hl
  obtain ⟨rfl, _⟩ := unitElem_inv hv
  rw [hr, hh f l hl]
theorem FS.upd {S : Nat → Prop} {w w' : World} {b : Nat} {s : List Fi} (h : FS w b s) (u : Upd S w w') (hb : ¬ S b) : FS w' b s := by
  obtain ⟨D, hn, hh⟩ := h.own
  have hl := hn.lt
  obtain ⟨es, clock, hb', r⟩ := hn
  exact ⟨D, ⟨es, clock, (u.block b hl hb).trans hb', r⟩, hh⟩
theorem FS.below {w w' : World} {b : Nat} {s : List Fi} (h : FS w b s) (hb : Below w.heap.size w w') : FS w' b s := h.upd (S := Non) (Upd.ofBelow hb) (fun h => h)
theorem FS.lt {w : World} {b : Nat} {s : List Fi} (h : FS w b s) : b < w.heap.size := by obtain ⟨D, ho, _⟩ := h.own; exact ho.lt
theorem FS.made (w : World) : FS (w.alloc (.map #[] 0)) w.heap.size [] := ⟨.map [], World.ownsMap_made w Try.prog 50 _, fun f l hl => rfl⟩
theorem hasB_snoc (s : List Fi) (g f : Fi) : hasB (s ++ [g]) f = (hasB s f || feq g f) := by
  unfold hasB; simp
theorem FS.store {w : World} {b : Nat} {s : List Fi} (h : FS w b s) (hn : s.length < maxLen) {g : Fi} (hg : FKy g) :
    ∃ w', (Instr.mapUpdate 131 (.map (some b)) g.v (.agg #[])).run Try.prog w = .ok () w' ∧ FS w' b (s ++ [g]) ∧ w.grownBy w' (some b) := by
  obtain ⟨D, ho, hh⟩ := h.own
  obtain ⟨k, hk⟩ := key50 hg
  obtain ⟨w', hr, ho', hgr⟩ := ho.store law50 Try.underlying131 hn hk unitElem_mk
  refine ⟨w', hr, ⟨_, by rw [List.length_append]; exact ho', ?_⟩, hgr.grown⟩
  intro f l hl
  rw [hasB_snoc]
  by_cases e : l = k
  · subst e
    rw [has_put_same ho.isMap (key_of hk)]
    have : f = g := key_inj hl hk
    subst this
    rw [feq_iff.2 rfl, Bool.or_true]
  · rw [has_put_other (by simpa using e), hh f l hl]
    have : feq g f = false := by
      cases hq : feq g f with
      | false => rfl
      | true =>
        have := feq_iff.1 hq
        subst this
        rw [hk] at hl
        exact absurd (by cases hl; rfl) e
    rw [this, Bool.or_false]
end Go.Proofs.Ytkmpcheamdadcaa
