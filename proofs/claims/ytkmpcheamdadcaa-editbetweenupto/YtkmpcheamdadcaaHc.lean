/-
  A table as a map's key.
  A set of tables as a map in memory.
-/
import Derived.Test.YtkmpcheamdadcaaHa
import Derived.DeepKeys4
import Derived.Maps.Keyed
import Derived.Test.YtkmpcheamdadcaaVd
namespace Go.Proofs.Ytkmpcheamdadcaa
open Go.RowKit Go.Maps
set_option linter.unusedVariables false
set_option linter.unusedSimpArgs false
theorem laidB : laidOutB Try.prog = true := by kernel_rfl
theorem row50 : (50 : TypeId) < Try.prog.types.size := of_decide_eq_true (by kernel_rfl)
theorem wide50 : (match Try.prog.underlying 50 with | some (.array _ _) | some (.struct _) => true | _ => false) = true := by kernel_rfl
set_option maxRecDepth 100000 in
theorem law50 : Keyed Try.prog 50 := Keyed.of_law (deep_law_laid laidB (m := 4) (by omega) row50 (by kernel_rfl) wide50)
theorem c50 : Try.prog.cellsOf 50 = 10 := by kernel_rfl
theorem c48 : Try.prog.cellsOf 48 = 3 := by kernel_rfl
theorem c23 : Try.prog.cellsOf 23 = 1 := by kernel_rfl
theorem c9 : Try.prog.cellsOf 9 = 1 := by kernel_rfl
theorem c3 : Try.prog.cellsOf 3 = 1 := by kernel_rfl
theorem kt50 : Try.prog.keyType 50 = true := by kernel_rfl
/-- A table whose texts are no longer than texts are. -/
structure FKy (f : Fi) : Prop where
  ok : FOk f
  s : f.sm.u.size ≤ maxLen
  l : f.la.u.size ≤ maxLen
theorem wf_u {n : Int} (h : 0 ≤ n ∧ n < 18446744073709551616) : (Lit.int .u64 n).wf = true := by
  simp [Lit.wf, IntKind.min, IntKind.max, IntKind.bits, IntKind.signed]
  omega
theorem wf_i {n : Int} (h : -9223372036854775808 ≤ n ∧ n ≤ 9223372036854775807) : (Lit.int .i64 n).wf = true := by
  simp [Lit.wf, IntKind.min, IntKind.max, IntKind.bits, IntKind.signed]
  omega
theorem lit_u (d : Nat) {n : Int} (h : 0 ≤ n ∧ n < 18446744073709551616) : Try.prog.keyLits (d + 1) 23 [.int .u64 n] = some [.int .u64 n] := by
  unfold Program.keyLits
  rw [Try.underlying23]
  simp only
  rw [if_pos ⟨trivial, wf_u h⟩]
theorem lit_i (d : Nat) {n : Int} (h : -9223372036854775808 ≤ n ∧ n ≤ 9223372036854775807) : Try.prog.keyLits (d + 1) 3 [.int .i64 n] = some [.int .i64 n] := by
  unfold Program.keyLits
  rw [Try.underlying3]
  simp only
  rw [if_pos ⟨trivial, wf_i h⟩]
theorem lit_s (d : Nat) {s : ByteArray} (h : s.size ≤ maxLen) : Try.prog.keyLits (d + 1) 9 [.string s] = some [.string s.data.toList] := by
  unfold Program.keyLits
  rw [Try.underlying9]
  simp only
  rw [if_pos h]
theorem lit_k (d : Nat) {k : Ky} (hs : k.u.size ≤ maxLen) (h1 : 0 ≤ k.s ∧ k.s < 18446744073709551616) (h2 : -9223372036854775808 ≤ k.k ∧ k.k ≤ 9223372036854775807) : Try.prog.keyLits (d + 1 + 1) 48 [.string k.u, .int .u64 k.s, .int .i64 k.k] = some [.string k.u.data.toList, .int .u64 k.s, .int .i64 k.k] := by
  have q1 := lit_s d hs
  have q2 := lit_u d h1
  have q3 := lit_i d h2
  unfold Program.keyLits
  rw [Try.underlying48]
  simp [c48, c9, c23, c3, q1, q2, q3]
theorem lit_f (d : Nat) {f : Fi} (h : FKy f) : ∃ ls, Try.prog.keyLits (d + 1 + 1 + 1) 50 f.c = some ls := by
  have q1 := lit_u (d + 1) h.ok.num
  have q2 := lit_u (d + 1) h.ok.size
  have q3 := lit_k d h.s h.ok.ss h.ok.sk
  have q4 := lit_k d h.l h.ok.ls h.ok.lk
  have q5 := lit_u (d + 1) h.ok.ents
  have q6 := lit_u (d + 1) h.ok.rngs
  refine ⟨[.int .u64 f.num, .int .u64 f.size, .string f.sm.u.data.toList, .int .u64 f.sm.s, .int .i64 f.sm.k, .string f.la.u.data.toList, .int .u64 f.la.s, .int .i64 f.la.k, .int .u64 f.ents, .int .u64 f.rngs], ?_⟩
  unfold Program.keyLits Fi.c
  rw [Try.underlying50]
  simp [c50, c48, c23, q1, q2, q3, q4, q5, q6]
theorem key50 {f : Fi} (h : FKy f) : ∃ l, keyOf Try.prog 50 f.v = some l := by
  obtain ⟨m, hm⟩ : ∃ m, Try.prog.types.size + 1 = m + 1 + 1 + 1 := ⟨Try.prog.types.size - 2, by have : 50 < Try.prog.types.size := row50; omega⟩
  obtain ⟨ls, hl⟩ := lit_f m h
  refine ⟨.string (keyBytes ls), ?_⟩
  unfold keyOf
  rw [Try.underlying50]
  simp only
  rw [hm]
  have hfm : f.v.formed Try.prog 50 = true := by simp [Value.formed, Try.underlying50, c50]
  rw [kt50, hfm]
  simp only [Bool.and_self, if_true]
  have : f.v.cells.toList = f.c := rfl
  rw [this, hl]
  rfl
end Go.Proofs.Ytkmpcheamdadcaa
namespace Go.Proofs.Ytkmpcheamdadcaa
open Go.RowKit Go.Maps
set_option linter.unusedVariables false
set_option linter.unusedSimpArgs false
theorem fv_inj {f g : Fi} (h : f.v = g.v) : f = g := by
  obtain ⟨n, s, ⟨u1, s1, k1⟩, ⟨u2, s2, k2⟩, e, r⟩ := f
  obtain ⟨n', s', ⟨u1', s1', k1'⟩, ⟨u2', s2', k2'⟩, e', r'⟩ := g
  simp only [Value.agg.injEq] at h
  simp at h
  obtain ⟨rfl, rfl, rfl, rfl, rfl, rfl, rfl, rfl, rfl, rfl⟩ := h
  rfl
theorem key_of {f : Fi} {l : Lit} (h : keyOf Try.prog 50 f.v = some l) : WideAt.IsKeyLit l := law50.key h
theorem key_inj {f g : Fi} {l : Lit} (h : keyOf Try.prog 50 f.v = some l) (k : keyOf Try.prog 50 g.v = some l) : f = g := fv_inj (law50.inj h k)
/-- Block b is a set of the tables of s. -/
structure FS (w : World) (b : Nat) (s : List Fi) : Prop where
  own : ∃ D, w.ownsMap Try.prog 50 (unitElem (H := Unit)) b s.length D ∧ ∀ f l, keyOf Try.prog 50 f.v = some l → Maps.has D l = hasB s f
theorem FS.look {w : World} {b : Nat} {s : List Fi} (h : FS w b s) {f : Fi} (hf : FKy f) :
    (Instr.lookup 131 (.map (some b)) f.v true).run Try.prog w = .ok (.tuple #[.agg #[], .bool (hasB s f)]) w := by
  obtain ⟨D, ho, hh⟩ := h.own
  obtain ⟨l, hl⟩ := key50 hf
  obtain ⟨v, ps, hr, hv⟩ := ho.look_ok law50 Try.underlying131 (zero98 w) unitElem_mk hl
  obtain ⟨rfl, _⟩ := unitElem_inv hv
  rw [hr, hh f l hl]
theorem FS.upd {S : Nat → Prop} {w w' : World} {b : Nat} {s : List Fi} (h : FS w b s) (u : Upd S w w') (hb : ¬ S b) : FS w' b s := by
  obtain ⟨D, hn, hh⟩ := h.own
  have hl := hn.lt
  obtain ⟨es, clock, hb', r⟩ := hn
  exact ⟨D, ⟨es, clock, (u.block b hl hb).trans hb', r⟩, hh⟩
theorem FS.below {w w' : World} {b : Nat} {s : List Fi} (h : FS w b s) (hb : Below w.heap.size w w') : FS w' b s := h.upd (S := Non) (Upd.ofBelow hb) (fun h => h)
theorem FS.lt {w : World} {b : Nat} {s : List Fi} (h : FS w b s) : b < w.heap.size := by obtain ⟨D, ho, _⟩ := h.own; exact ho.lt
theorem FS.made (w : World) : FS (w.alloc (.map #[] 0)) w.heap.size [] := ⟨.map [], World.ownsMap_made w Try.prog 50 _, fun f l hl => rfl⟩
theorem hasB_snoc (s : List Fi) (g f : Fi) : hasB (s ++ [g]) f = (hasB s f || feq g f) := by
  unfold hasB; simp
theorem FS.store {w : World} {b : Nat} {s : List Fi} (h : FS w b s) (hn : s.length < maxLen) {g : Fi} (hg : FKy g) :
    ∃ w', (Instr.mapUpdate 131 (.map (some b)) g.v (.agg #[])).run Try.prog w = .ok () w' ∧ FS w' b (s ++ [g]) ∧ w.grownBy w' (some b) := by
  obtain ⟨D, ho, hh⟩ := h.own
  obtain ⟨k, hk⟩ := key50 hg
  obtain ⟨w', hr, ho', hgr⟩ := ho.store law50 Try.underlying131 hn hk unitElem_mk
  refine ⟨w', hr, ⟨_, by rw [List.length_append]; exact ho', ?_⟩, hgr.grown⟩
  intro f l hl
  rw [hasB_snoc]
  by_cases e : l = k
  · subst e
    rw [has_put_same ho.isMap (key_of hk)]
    have : f = g := key_inj hl hk
    subst this
    rw [feq_iff.2 rfl, Bool.or_true]
  · rw [has_put_other (by simpa using e), hh f l hl]
    have : feq g f = false := by
      cases hq : feq g f with
      | false => rfl
      | true =>
        have := feq_iff.1 hq
        subst this
        rw [hk] at hl
        exact absurd (by cases hl; rfl) e
    rw [this, Bool.or_false]
end Go.Proofs.Ytkmpcheamdadcaa
