/-
  Tables and versions in memory; the leaves.
-/
import Derived.Test.YtkmpcheamdadcaaRg
import Derived.Test.YtkmpcheamdadcaaRdec
import Derived.Laws.OwnMore
import Derived.Laws.Rows
namespace Go.Proofs.Ytkmpcheamdadcaa
open Go.RowKit
set_option linter.unusedVariables false
set_option linter.unusedSimpArgs false
/-- A key. -/
structure Ky where
  u : ByteArray
  s : Int
  k : Int
/-- A table. -/
structure Fi where
  num : Int
  size : Int
  sm : Ky
  la : Ky
  ents : Int
  rngs : Int
instance : Inhabited Ky := ⟨⟨ByteArray.empty, 0, 0⟩⟩
instance : Inhabited Fi := ⟨⟨0, 0, default, default, 0, 0⟩⟩
def Fi.c (f : Fi) : List Value := [.int .u64 f.num, .int .u64 f.size, .string f.sm.u, .int .u64 f.sm.s, .int .i64 f.sm.k, .string f.la.u, .int .u64 f.la.s, .int .i64 f.la.k, .int .u64 f.ents, .int .u64 f.rngs]
abbrev Fi.v (f : Fi) : Value := .agg #[.int .u64 f.num, .int .u64 f.size, .string f.sm.u, .int .u64 f.sm.s, .int .i64 f.sm.k, .string f.la.u, .int .u64 f.la.s, .int .i64 f.la.k, .int .u64 f.ents, .int .u64 f.rngs]
abbrev Fi.o (f : Fi) : Obj := .cells #[.int .u64 f.num, .int .u64 f.size, .string f.sm.u, .int .u64 f.sm.s, .int .i64 f.sm.k, .string f.la.u, .int .u64 f.la.s, .int .i64 f.la.k, .int .u64 f.ents, .int .u64 f.rngs] 50
theorem fi_k : ∀ t : Fi, t.c.length = 10 := fun _ => rfl
theorem fi_1 : ∀ t : Fi, ∀ u ∈ t.c, u.oneCell' = true := fun t u hu => by
  simp [Fi.c] at hu
  rcases hu with rfl | rfl | rfl | rfl | rfl | rfl | rfl | rfl | rfl | rfl <;> rfl
abbrev RdF (w : World) (a : Option Addr) (l : List Fi) : Prop := Rd Fi.c 10 w a l
/-- The ten cells of a table at a place. -/
def F10 (w : World) (g o : Nat) (f : Fi) : Prop :=
  w.cell? ⟨g, o, none⟩ = some (.int .u64 f.num) ∧ w.cell? ⟨g, o + 1, none⟩ = some (.int .u64 f.size) ∧ w.cell? ⟨g, o + 2, none⟩ = some (.string f.sm.u) ∧ w.cell? ⟨g, o + 3, none⟩ = some (.int .u64 f.sm.s) ∧ w.cell? ⟨g, o + 4, none⟩ = some (.int .i64 f.sm.k) ∧
  w.cell? ⟨g, o + 5, none⟩ = some (.string f.la.u) ∧ w.cell? ⟨g, o + 6, none⟩ = some (.int .u64 f.la.s) ∧ w.cell? ⟨g, o + 7, none⟩ = some (.int .i64 f.la.k) ∧ w.cell? ⟨g, o + 8, none⟩ = some (.int .u64 f.ents) ∧ w.cell? ⟨g, o + 9, none⟩ = some (.int .u64 f.rngs)
theorem At.f {w : World} {g o : Nat} {f : Fi} (h : At Fi.c w g o f) : F10 w g o f :=
  ⟨h 0 _ rfl, h 1 _ rfl, h 2 _ rfl, h 3 _ rfl, h 4 _ rfl, h 5 _ rfl, h 6 _ rfl, h 7 _ rfl, h 8 _ rfl, h 9 _ rfl⟩
theorem info50 : (Try.prog.info? 50).map (fun i => (i.zero, i.size, i.bytes)) = some (some (.agg #[.int .u64 0, .int .u64 0, .string ⟨#[]⟩, .int .u64 0, .int .i64 0, .string ⟨#[]⟩, .int .u64 0, .int .i64 0, .int .u64 0, .int .u64 0]), 10, 96) := by kernel_rfl
theorem info23 : (Try.prog.info? 23).map (fun i => (i.zero, i.size, i.bytes)) = some (some (.int .u64 0), 1, 8) := by kernel_rfl
def uc (s : Int) : List Value := [.int .u64 s]
theorem uc_k : ∀ t : Int, (uc t).length = 1 := fun _ => rfl
theorem uc_1 : ∀ t : Int, ∀ u ∈ uc t, u.oneCell' = true := fun t u hu => by simp [uc] at hu; subst hu; rfl
abbrev RowF (w : World) (base : Nat) (v : Value) (l : List Fi) : Prop := w.ownsRow base 50 10 v l.length (cls Fi.c l)
abbrev RowU (w : World) (base : Nat) (v : Value) (l : List Int) : Prop := w.ownsRow base 23 1 v l.length (cls uc l)

/-- Where a version's seven lists lie. -/
structure Vn where
  a : Nat → Option Addr
  c : Nat → Nat
abbrev vsl (V : Vn) (L : Nat → List Fi) (i : Nat) : Value := .slice (V.a i) (L i).length (V.c i)
abbrev verA (V : Vn) (L : Nat → List Fi) : Array Value := #[vsl V L 0, vsl V L 1, vsl V L 2, vsl V L 3, vsl V L 4, vsl V L 5, vsl V L 6]
/-- What the numbers of a table are at most. -/
structure FOk (f : Fi) : Prop where
  num : 0 ≤ f.num ∧ f.num < 18446744073709551616
  size : 0 ≤ f.size ∧ f.size < 18446744073709551616
  ss : 0 ≤ f.sm.s ∧ f.sm.s < 18446744073709551616
  ls : 0 ≤ f.la.s ∧ f.la.s < 18446744073709551616
  ents : 0 ≤ f.ents ∧ f.ents < 18446744073709551616
  rngs : 0 ≤ f.rngs ∧ f.rngs < 18446744073709551616
  sk : -9223372036854775808 ≤ f.sm.k ∧ f.sm.k ≤ 9223372036854775807
  lk : -9223372036854775808 ≤ f.la.k ∧ f.la.k ≤ 9223372036854775807
structure RdV (w : World) (V : Vn) (L : Nat → List Fi) : Prop where
  rd : ∀ i, i < 7 → RdF w (V.a i) (L i)
  nil : ∀ i, i < 7 → V.a i = none → V.c i = 0
  len : ∀ i, i < 7 → (L i).length * 96 ≤ 140737488355328
  ok : ∀ i, i < 7 → ∀ f ∈ L i, FOk f
theorem RdV.below {w w' : World} {V : Vn} {L : Nat → List Fi} (h : RdV w V L) (hb : Below w.heap.size w w') : RdV w' V L := ⟨fun i hi => (h.rd i hi).below hb, h.nil, h.len, h.ok⟩
theorem ver_get (V : Vn) (L : Nat → List Fi) (k : Nat) (hk : k < 7) : (verA V L)[k]? = some (vsl V L k) := by
  have : k = 0 ∨ k = 1 ∨ k = 2 ∨ k = 3 ∨ k = 4 ∨ k = 5 ∨ k = 6 := by omega
  rcases this with rfl | rfl | rfl | rfl | rfl | rfl | rfl <;> rfl
theorem ver_box {w : World} {B : Nat} {t : TypeId} {V : Vn} {L : Nat → List Fi} (h : w.heap[B]? = some (.cells (verA V L) t (0, 0))) (k : Nat) (hk : k < 7) : w.cell? ⟨B, k, none⟩ = some (vsl V L k) := by
  simp only [World.cell?, h]
  exact ver_get V L k hk
theorem ver_index (V : Vn) (L : Nat → List Fi) (k : Nat) (hk : k < 7) (w : World) : (Instr.index 39 (.agg (verA V L)) (.int .i64 k)).run Try.prog w = .ok (vsl V L k) w := by
  have : k = 0 ∨ k = 1 ∨ k = 2 ∨ k = 3 ∨ k = 4 ∨ k = 5 ∨ k = 6 := by omega
  rcases this with rfl | rfl | rfl | rfl | rfl | rfl | rfl <;> simp [Instr.index, run_underlying Try.underlying39, asIntOf, go_sem, List.getD]

def isHowB (how : Int) : Bool := (how == 0) || (how == 1)
set_option maxHeartbeats 400000 in
theorem ishow_any (how : Int) (w : World) : Calls Try.prog 53 #[.int .i64 how] w fun e w' => e = .returned (.bool (isHowB how)) ∧ w' = w := by
  unfold isHowB
  by_cases h0 : how = 0
  · subst h0
    go_enter Try.func53, Try.ntmps53
    go_wp2
    go_ret
    exact ⟨rfl, rfl⟩
  · have hb : (how == 0) = false := by simp [h0]
    rw [hb]
    go_enter Try.func53, Try.ntmps53
    go_wp2
    go_ret
    exact ⟨rfl, rfl⟩
set_option maxHeartbeats 400000 in
theorem rhow_any (how : Int) (w : World) : Calls Try.prog 58 #[.int .i64 how] w fun e w' => e = .returned (.bool (isHowB how)) ∧ w' = w := by
  unfold isHowB
  by_cases h0 : how = 0
  · subst h0
    go_enter Try.func58, Try.ntmps58
    go_wp2
    go_ret
    exact ⟨rfl, rfl⟩
  · have hb : (how == 0) = false := by simp [h0]
    rw [hb]
    go_enter Try.func58, Try.ntmps58
    go_wp2
    go_ret
    exact ⟨rfl, rfl⟩
def isLvB (n : Int) : Bool := decide (0 ≤ n) && decide (n < 7)
set_option maxHeartbeats 400000 in
theorem islv_any (n : Int) (w : World) : Calls Try.prog 64 #[.int .i64 n] w fun e w' => e = .returned (.bool (isLvB n)) ∧ w' = w := by
  unfold isLvB
  by_cases h0 : 0 ≤ n
  · have hb : decide (0 ≤ n) = true := by simp [h0]
    rw [hb, Bool.true_and]
    go_enter Try.func64, Try.ntmps64
    go_wp2
    go_ret
    exact ⟨rfl, rfl⟩
  · have hb : decide (0 ≤ n) = false := by simp [h0]
    rw [hb, Bool.false_and]
    go_enter Try.func64, Try.ntmps64
    go_wp2
    go_ret
    exact ⟨rfl, rfl⟩
/-- What is wrong with a table's keys. -/
def fchk (f : Fi) : Int := if checkV f.sm.u f.sm.s f.sm.k ≠ 0 then checkV f.sm.u f.sm.s f.sm.k else checkV f.la.u f.la.s f.la.k
set_option maxRecDepth 100000 in
set_option maxHeartbeats 1000000 in
theorem ckeys_any (f : Fi) (w : World) : Calls Try.prog 55 #[f.v] w fun e w' => e = .returned (.int .i64 (fchk f)) ∧ Below w.heap.size w w' := by
  obtain ⟨R, hR⟩ : ∃ R, Hid (fchk f = R) := ⟨_, rfl⟩
  rw [hR.out]
  have HA : Hid (checkV f.sm.u f.sm.s f.sm.k ≠ 0 → R = checkV f.sm.u f.sm.s f.sm.k) := fun h => by rw [← hR.out]; unfold fchk; rw [if_pos h]
  have HB : Hid (checkV f.sm.u f.sm.s f.sm.k = 0 → R = checkV f.la.u f.la.s f.la.k) := fun h => by rw [← hR.out]; unfold fchk; rw [if_neg (by simpa using h)]
  have H1 := fun w => ccheck_any f.sm.u f.sm.s f.sm.k w
  have H2 := fun w => ccheck_any f.la.u f.la.s f.la.k w
  generalize checkV f.sm.u f.sm.s f.sm.k = A at *
  generalize checkV f.la.u f.la.s f.la.k = B at *
  by_cases hA : A = 0
  · have e := HB.out hA
    subst hA
    rw [e]
    clear e HA HB hR
    go_enter Try.func55, Try.ntmps55
    go_wp2_with (first
      | (have hq := H1; clear hq; go_at_call_of 89 (Value.agg #[.string f.sm.u, .int .u64 f.sm.s, .int .i64 f.sm.k]); refine (H1 _).mono ?_; rintro e w1 ⟨rfl, rfl⟩; clear H1)
      | (go_at_call 89; refine (H2 _).mono ?_; rintro e w2 ⟨rfl, rfl⟩))
    go_ret
    exact ⟨rfl, (((Below.refl _ _).alloc (Nat.le_refl _) _).alloc (by simp) _).alloc (by simp; omega) _⟩
  · have e := HA.out hA
    have hA' : (A != 0) = true := by simpa using hA
    rw [e]
    clear e HA HB hR hA
    go_enter Try.func55, Try.ntmps55
    go_wp2_with (go_at_call 89; refine (H1 _).mono ?_; rintro e w1 ⟨rfl, rfl⟩)
    go_ret
    exact ⟨rfl, ((Below.refl _ _).alloc (Nat.le_refl _) _).alloc (by simp) _⟩
end Go.Proofs.Ytkmpcheamdadcaa
